/-
  Texts of stages that were proved on their own, joined: DkPlay. Each begins with its own words.
-/
import Derived.Test.YtinmmhbiomcdoaaGreatDoorJVaLawN9
import Derived.Test.YtinmmhbiomcdoaaGreatDoorJVaLawN12

/-
  The disk's laws: small tells something; play leaves a disk of the call's own. New memory alone is written. Conditions: the calls lie below the disk's blocks; the steps in all are at most 2^42.
-/
namespace Go.Proofs.YtinmmhbiomcdoaaGreatDoor
open Go.RowKit

def opZ : List Value := [.int .i64 0, .int .i64 0, .int .i64 0, .slice none 0 0, .slice none 0 0]

theorem OpD.one (o : OpD) : ∀ v ∈ o.cells, v.oneCell' = true := by
  intro v hv
  simp [OpD.cells] at hv
  rcases hv with rfl | rfl | rfl | rfl | rfl <;> rfl

theorem OpsD.get {w : World} {a : Option Addr} {n c : Nat} {ops : List OpD} (h : OpsD w a n c ops) (i : Nat) (hi : i < n) : ∃ b off o, a = some ⟨b, off, none⟩ ∧ ops[i]? = some o ∧ w.rangeAt b (off + i * 5) o.cells ∧ o.Ok w := by
  rcases h.at' with h0 | ⟨b, off, ha, hc⟩
  · omega
  · have hl := h.len
    have ho : ops[i]? = some ops[i] := List.getElem?_eq_getElem (by omega)
    exact ⟨b, off, ops[i], ha, ho, fun j v hj => by exact hc i _ ho j v hj, h.ok _ (List.getElem_mem _)⟩

theorem set_room18 (D : DkV) (i : Nat) (v : FlV) : (D.set i v).room = D.room := by
  unfold DkV.set
  split
  · rfl
  · split <;> rfl

theorem burn_room18 (D : DkV) : D.burn.room = D.room := by
  unfold DkV.burn
  split <;> rfl

theorem apD_room (D : DkV) (f : Int) (b : List Int) : (apD D f b).1.room = D.room := by
  unfold apD
  split
  · rfl
  · split
    · rfl
    · split
      · rfl
      · exact (burn_room18 _).trans (set_room18 _ _ _)

theorem ctD_room (D : DkV) (f n : Int) : (ctD D f n).1.room = D.room := by
  unfold ctD
  split
  · rfl
  · split
    · rfl
    · exact (burn_room18 _).trans (set_room18 _ _ _)

theorem syD_room (D : DkV) (f : Int) : (syD D f).1.room = D.room := by
  unfold syD
  split
  · rfl
  · split
    · rfl
    · split
      · exact burn_room18 _
      · exact (set_room18 _ _ _).trans (burn_room18 _)
end Go.Proofs.YtinmmhbiomcdoaaGreatDoor

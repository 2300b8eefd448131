/-
  Texts of stages that were proved on their own, joined: OpenOps. Each begins with its own words.
-/
import Derived.Test.YtcohbhimhacedaaGreatDoorSlices
import Derived.Deep.Slices
import Derived.Deep.Strs
import Derived.ProofKit
import Derived.OpenShut

/-
  A struct of three numbers, and a slice of such, that came in: what they hold. Laws about the model's own words; no Go function is spoken of.
-/
namespace Go.Proofs.YtcohbhimhacedaaGreatDoor
open Go.RowKit Go.Deep Go.ChangeShapes Go.WideShapes

/-- A slice of structs of three numbers. -/
def Ops3 (w : World) (a : Option Addr) (n cap : Nat) (ops : List (Int × Int × Int)) : Prop :=
  ops.length = n ∧ n ≤ cap ∧ (n = 0 ∨ ∃ b off, a = some ⟨b, off, none⟩ ∧ ∀ i, i < n → w.cell? ⟨b, off + 3 * i, none⟩ = some (.int .i64 (ops.getD i (0, 0, 0)).1) ∧ w.cell? ⟨b, off + 3 * i + 1, none⟩ = some (.int .i64 (ops.getD i (0, 0, 0)).2.1) ∧ w.cell? ⟨b, off + 3 * i + 2, none⟩ = some (.int .i64 (ops.getD i (0, 0, 0)).2.2))
section
variable {H : Type} {enc : TypeId × Value → H} {P : Program} {w : World} {base : Nat} {spare : Nat → Bool} {held : Bool} {fuel : Nat} {t : TypeId} {cs : List Value} {x : DataW H × List MemPlace}

theorem list_of_fn {α : Type} (n : Nat) (d : α) (p : Nat → α → Prop) (h : ∀ i, i < n → ∃ v, p i v) : ∃ l : List α, l.length = n ∧ ∀ i, i < n → p i (l.getD i d) := by
  induction n with
  | zero => exact ⟨[], rfl, fun i hi => absurd hi (Nat.not_lt_zero i)⟩
  | succ n ih =>
    obtain ⟨l, hl, hp⟩ := ih (fun i hi => h i (by omega))
    obtain ⟨v, hv⟩ := h n (Nat.lt_succ_self n)
    refine ⟨l ++ [v], by simp [hl], fun i hi => ?_⟩
    by_cases hin : i < n
    · rw [List.getD_eq_getElem?_getD, List.getElem?_append_left (by omega), ← List.getD_eq_getElem?_getD]
      exact hp i hin
    · obtain rfl : i = n := by omega
      rw [List.getD_eq_getElem?_getD, List.getElem?_append_right (by omega), hl, Nat.sub_self]
      exact hv

end
end Go.Proofs.YtcohbhimhacedaaGreatDoor

/-
  Texts of stages that were proved on their own, joined: DkRoom, RzSmall. Each begins with its own words.
-/
import Derived.Test.YtnblknhdchpboaaGreatDoorJRzAll7
import Derived.Test.YtnblknhdchpboaaGreatDoorJRzAll5
import Derived.Test.YtnblknhdchpboaaGreatDoorJRzAll8
import Derived.Test.YtnblknhdchpboaaGreatDoorJRzAll1

/-
  What the law DiskRoom asks of a disk of the call's own: a clone, what is used, sizes; one call out of a slice of them. New memory alone is written.
-/
namespace Go.Proofs.YtnblknhdchpboaaGreatDoor
open Go.RowKit

theorem own_used {B : Nat} {w0 w : World} {g : Nat} {D : DkV} {T : Nat} (h : DkOwn B w0 w g D) (hO : D.Ok T) :
    Calls Tryz.prog 51 #[.pointer (some ⟨g, 0, none⟩)] w fun q w' => q = .returned (.int .i64 (D.used : Nat)) ∧ w' = w := by
  obtain ⟨L, P, ⟨x0, x1, x2, h1⟩, _⟩ := h.is
  have hr := hO.room
  obtain ⟨y0, _, k0⟩ := h1.fl 0 (by decide)
  obtain ⟨y1, _, k1⟩ := h1.fl 1 (by decide)
  obtain ⟨y2, _, k2⟩ := h1.fl 2 (by decide)
  exact dUsed_any (dcells h1.b).1 (by omega) (fcells h1.b k0).2.2.2.1 (fcells h1.b k1).2.2.2.1 (fcells h1.b k2).2.2.2.1 hO.o0.need hO.o1.need hO.o2.need

theorem own_usedB {B : Nat} {w0 w : World} {g : Nat} {D : DkV} {T : Nat} (h : DkOwn B w0 w g D) (hO : D.Ok T) :
    Calls Tryz.prog 51 #[.pointer (some ⟨g, 0, none⟩)] w fun q w' => q = .returned (.int .i64 (D.used : Nat)) ∧ Below w.heap.size w w' :=
  (own_used h hO).mono fun _ _ ⟨e, k⟩ => ⟨e, by rw [k]; exact Below.refl _ _⟩

theorem own_usedL {B : Nat} {w0 w : World} {g : Nat} {D : DkV} {T : Nat} (h : DkOwn B w0 w g D) (hO : D.Ok T) (n : Nat) (hn : D.used = n) :
    Calls Tryz.prog 51 #[.pointer (some ⟨g, 0, none⟩)] w fun q w' => q = .returned (.int .i64 (n : Int)) ∧ Below w.heap.size w w' := by
  subst hn
  exact own_usedB h hO

end Go.Proofs.YtnblknhdchpboaaGreatDoor

/-
  The law RollDoes: small tells something. New memory alone is written. Conditions: the calls are of the sizes that the rows' own reach gives.
-/
namespace Go.Proofs.YtnblknhdchpboaaGreatDoor
open Go.RowKit

def opZR : List Value := [.int .i64 0, .int .i64 0, .slice none 0 0]
set_option maxRecDepth 100000 in
theorem sizeOpR : (Tryz.prog.info? 44).map (·.size) = some 3 := by kernel_rfl
theorem rowOpR : IsRow Tryz.prog 44 3 := IsRow.struct Tryz.underlying44 sizeOpR
set_option maxRecDepth 100000 in
theorem zeroOpR : Zero Tryz.prog 44 opZR := by unfold Zero; kernel_rfl

set_option maxRecDepth 100000 in
set_option maxHeartbeats 1000000 in
theorem small20_any {w : World} {a : Option Addr} {n c : Nat} {ops : List OpR} (hO : OpsR w a n c ops) (hn : n ≤ 3518437208883) :
    Calls Tryz.prog 5 #[.slice a n c] w fun q w' => ∃ b, q = .returned (.bool b) ∧ Below w.heap.size w w' := by
  have hnH := Lib.hid hn
  have hZ := zeroOpR
  have hZl : opZR.length = 3 := rfl
  obtain ⟨ZL, hZL⟩ : ∃ z, opZR = z := ⟨_, rfl⟩
  rw [hZL] at hZ hZl
  clear hZL hn
  go_enter Tryz.func5, Tryz.ntmps5
  go_wp2_with fail
  go_loopw [3, 10] (fun v i wr => ∃ (j : Nat) (V : Int), j ≤ n ∧ i = .int .i64 j ∧ v = .int .i64 V ∧ Below w.heap.size w wr) (fun _ i _ => n - (intOf i).toNat)
  case atStart => exact ⟨0, _, Nat.zero_le _, rfl, rfl, Below.refl _ _⟩
  case round =>
    obtain ⟨j, V, hj, rfl, rfl, hB⟩ := hrel
    by_cases hlt : j < n
    · have hji : (j : Int) < (n : Int) := by omega
      have hjb : (n : Int) ≤ 3518437208883 := by have := hnH.out; omega
      obtain ⟨b, off, o, rfl, ho, hr, hk⟩ := (hO.keep hB).get j hlt
      have hol : o.cells.length = 3 := rfl
      have hone := Lib.hid o.one
      have hIr : IsRow Tryz.prog 44 o.cells.length := rowOpR
      have h3 : o.cells[2]? = some (.slice o.ba o.bn o.bc) := rfl
      obtain ⟨C, hC⟩ : ∃ C, o.cells = C := ⟨_, rfl⟩
      rw [hC] at hr hol hone hIr h3
      have hnew := Blk.new wr 44 ZL
      have hB1 := hB.alloc hB.size (.cells ZL.toArray 44)
      have hltH := Lib.hid hlt
      clear hC hlt hj ho hk
      go_wp2_with (first
        | ((with_reducible refine wpList_load_part rfl 44 (.tmp 12) rfl ?_ C hr hIr ?_); rfl)
        | (with_reducible refine wpList_alloc_blk rfl 44 rfl hZ ?_)
        | (refine wpList_store_part (cs := C) rfl 44 (.tmp 5) (.tmp 13) rfl rfl rfl hnew hIr ?_ hone.out ?_
           (rw [hol, hZl]; decide)
           intro w5 hk5 hg5
           refine RowKit.Hid.out ?_))
      refine Lib.hid ?_
      rw [overV_all _ _ (by rw [hol, hZl])] at hk5
      have hB5 := hB1.trans (below_of_grown hg5 hB.size (by rw [size1]; omega))
      have c3 : w5.cell? ⟨wr.heap.size, 2, none⟩ = some (.slice o.ba o.bn o.bc) := (hk5.cell 2).trans h3
      clear hk5 hg5 hB1 hnew hr hB
      go_wp2
      exact ⟨⟨j + 1, _, by have := hltH.out; omega, by congr 1, rfl, hB5⟩, by simp only [intOf]; have := hltH.out; omega⟩
    · obtain rfl : j = n := by omega
      go_wp2
      go_ret
      exact ⟨_, rfl, hB⟩
end Go.Proofs.YtnblknhdchpboaaGreatDoor

/-
  Texts of stages that were proved on their own, joined: SlRead. Each begins with its own words.
-/
import Derived.Test.YtinmmhbiomcdoaaGreatDoorJVaLawN16
import Derived.Test.YtinmmhbiomcdoaaGreatDoorJVaLawN15

/-
  The landed disk's Read of a file that there is not. New memory alone is written. Conditions: a disk that New made.
-/
namespace Go.Proofs.YtinmmhbiomcdoaaGreatDoor
open Go.RowKit

set_option maxRecDepth 100000 in
set_option maxHeartbeats 1000000 in
theorem dLook_no {w : World} {g : Nat} {r : Int} (c0 : w.cell? ⟨g, 0, none⟩ = some (.int .i64 r)) (hr : 0 < r) (i : Int) (h : noFile i) :
    Calls Tryz.prog 97 #[.pointer (some ⟨g, 0, none⟩), .int .i64 i] w fun q w' => q = .returned (.agg flZ.toArray) ∧ Below w.heap.size w w' := by
  obtain ⟨zs, hzs⟩ : ∃ zs, flZ = zs := ⟨_, rfl⟩
  have hz := zeroFl
  have hbt := built_fl0
  have h1 := flZ_one
  have hl : flZ.length = 5 := rfl
  rw [hzs] at hz hbt h1 hl ⊢
  have hZ := Blk.new w 89 zs
  have hB := below1 w (.cells zs.toArray 89)
  have hF := dFind_no (w := w.alloc (.cells zs.toArray 89)) (g := g) (by rw [hB.cell (World.block_lt_of_cell? w _ c0)]; exact c0) hr i h
  obtain ⟨W, hW⟩ : ∃ W, w.alloc (.cells zs.toArray 89) = W := ⟨_, rfl⟩
  rw [hW] at hZ hB hF
  have hWH := Lib.hid hW
  have hrow : IsRow Tryz.prog 89 zs.length := by rw [hl]; exact rowFl
  clear hzs h hW c0 hr
  go_enter Tryz.func97, Tryz.ntmps97
  go_wp2_with (with_reducible refine wpList_alloc_blk rfl 89 rfl hz ?_
               refine RowKit.Hid.out ?_)
  refine Lib.hid ?_
  rw [hWH.out]
  go_wp2_with fail
  refine hF.mono ?_
  rintro q w1 ⟨rfl, rfl⟩
  go_wp2_with (with_reducible refine build_row rfl 89 #[] rfl (cells := zs.toArray) ?_ ?_
               (refine Eq.trans (congrArg _ ?_) hbt; kernel_rfl)
               refine RowKit.Hid.out ?_)
  refine Lib.hid ?_
  refine store_row rfl 89 (.tmp 4) _ rfl rfl rfl hZ rowFl hl hl h1 ?_
  intro w2 hb2 hg2
  have hB2 := hB.grown hg2 hB.size (fun q hq => by injection hq with hq; rw [← hq]; exact Nat.le_refl _)
  clear hZ hg2
  go_wp2
  refine bodyPost_ret (results_blk rfl rfl hb2 hrow) rfl ?_
  exact ⟨rfl, hB2⟩

set_option maxRecDepth 100000 in
set_option maxHeartbeats 1000000 in
theorem dRead_no {L : Nat → Nat} {P : Nat → Prop} {w : World} {g : Nat} {D : DkV} {T : Nat} (hD : DkIs L P w g D) (hO : D.Ok T) (i : Int) (h : noFile i) :
    Calls Tryz.prog 54 #[.pointer (some ⟨g, 0, none⟩), .int .i64 i] w fun q w' => q = .returned (.slice none 0 0) ∧ Below w.heap.size w w' := by
  have hr0 := hO.room
  obtain ⟨c0, _, _⟩ := hD.cells
  have hL := dLook_no c0 (by omega) i h
  have hf : ∀ wx, (Instr.field 89 (.agg flZ.toArray) 2).run Tryz.prog wx = .ok (.slice none 0 0) wx := fun wx => by kernel_rfl
  obtain ⟨Cs, hCs⟩ : ∃ Cs, flZ.toArray = Cs := ⟨_, rfl⟩
  rw [hCs] at hf hL
  clear h hCs hD hO hr0 c0
  have hC := fun w' => pClone_none w'
  go_enter Tryz.func54, Tryz.ntmps54
  go_wp2_with fail
  refine hL.mono ?_
  rintro q w1 ⟨rfl, hB⟩
  go_wp2_with fail
  refine (hC w1).mono ?_
  rintro q w2 ⟨rfl, rfl⟩
  go_wp2
  go_ret
  exact ⟨rfl, hB⟩

theorem y_readn {L : Nat → Nat} {P : Nat → Prop} {w : World} {g : Nat} {D : DkV} {T : Nat} (h : DkIs L P w g D) (hO : D.Ok T) {z : Int} (hz : z = -1 ∨ (0 ≤ z ∧ z < 3)) {X : List Int} (hX : readR D z = X) {N : Nat} (hN : X.length = N) :
    Calls Tryz.prog 54 #[.pointer (some ⟨g, 0, none⟩), .int .i64 z] w fun q w' => ∃ b c, q = .returned (.slice b N c) ∧ Ints .u8 w' b N c X ∧ Below w.heap.size w w' := by
  subst hN; subst hX
  unfold readR
  by_cases h0 : 0 ≤ z
  · rw [if_pos h0]
    exact y_read h hO (by omega) rfl rfl
  · rw [if_neg h0]
    exact (dRead_no h hO z (.inl (by omega))).mono fun q w' ⟨e, hb⟩ => ⟨none, 0, e, ⟨rfl, Nat.le_refl _, .inl rfl⟩, hb⟩
end Go.Proofs.YtinmmhbiomcdoaaGreatDoor

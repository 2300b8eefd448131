/-
  The laws' 'alive' of layer 15: the document's examples. New memory alone is written. Conditions: the library's table of powers of ten as its text lays it.
-/
import Derived.Test.YtbiabjehdmddbaaDoorRlParse
namespace Go.Proofs.YtbiabjehdmddbaaDoor
open Go.RowKit

def ex15 : RplV := ⟨2, 0, 3, 1, 5, 2, 100⟩
theorem ex15_words : wordsR ex15 = [[117, 112, 108, 111, 97, 100], [111, 107], [51], [49], [53], [50], [49, 48, 48]] := by
  show [nameL kindsL 2, nameL errsL 0, numL 3, numL 1, numL 5, numL 2, numL 100] = _
  rw [numL_small (n := 3) (by decide), numL_small (n := 1) (by decide), numL_small (n := 5) (by decide), numL_small (n := 2) (by decide), numL_big (n := 100) (by decide), numL_big (n := 100 / 10) (by decide), numL_small (n := 100 / 10 / 10) (by decide)]
  rfl
theorem ex15_parse : parseR (numsOf { data := #[117, 112, 108, 111, 97, 100, 32, 111, 107, 32, 51, 32, 49, 32, 53, 32, 50, 32, 49, 48, 48] }) = (ex15, 0) := by
  refine parseR_is (by decide) (by unfold RplOk; decide) ?_
  unfold lineR
  rw [if_pos (by decide), ex15_words]
  decide +kernel
def ex15b : RplV := ⟨2, 13, 0, 0, 0, 0, 0⟩
theorem ex15_line : (strOfNums (lineR ex15b)).toList = [117, 112, 108, 111, 97, 100, 32, 101, 120, 112, 105, 114, 101, 100] := by decide +kernel
theorem ex15_err : (strOfNums (nameL errsL 20)).toList = [100, 101, 101, 112] := by decide +kernel
theorem ex15_kind : (strOfNums (nameL kindsL 77)).toList = [63] := by decide +kernel

set_option maxRecDepth 100000 in
set_option maxHeartbeats 2000000 in
theorem alive15_any (w : World) (hG : Pow12 w) : Calls Tryd.prog 5 #[] w fun q w' => q = .returned (.bool true) ∧ Below w.heap.size w w' := by
  have hP := rlParse_any { data := #[117, 112, 108, 111, 97, 100, 32, 111, 107, 32, 51, 32, 49, 32, 53, 32, 50, 32, 49, 48, 48] } w hG (by decide)
  rw [ex15_parse] at hP
  dsimp only at hP
  have hLi := Lib.hid (fun w' (h : Below w.heap.size w w') => rlLine_any ex15b w' (hG.keep h hG.le) (by unfold RplOk; decide))
  have hEn := Lib.hid (fun w' => rlErrName_any 20 w')
  have hKn := Lib.hid (fun w' => rlKindName_any 77 w')
  have x1 := ex15_line
  have x2 := ex15_err
  have x3 := ex15_kind
  obtain ⟨S1, hS1⟩ : ∃ S, strOfNums (lineR ex15b) = S := ⟨_, rfl⟩
  obtain ⟨S2, hS2⟩ : ∃ S, strOfNums (nameL errsL 20) = S := ⟨_, rfl⟩
  obtain ⟨S3, hS3⟩ : ∃ S, strOfNums (nameL kindsL 77) = S := ⟨_, rfl⟩
  rw [hS1] at hLi x1
  rw [hS2] at hEn x2
  rw [hS3] at hKn x3
  have y1 := beq_iff_eq.2 x1
  have y2 := beq_iff_eq.2 x2
  have y3 := beq_iff_eq.2 x3
  have hbt := built_rp2 2 13
  obtain ⟨D, hD⟩ : ∃ D, rpC 2 13 0 0 0 0 0 = D := ⟨_, rfl⟩
  rw [hD] at hbt
  rw [show rpV ex15b = D from hD] at hLi
  have c5 := fun w' g (h : Blk w' g 27 (rpV ex15)) => rp5 h
  obtain ⟨C, hC⟩ : ∃ D, rpV ex15 = D := ⟨_, rfl⟩
  have hCl : C.length = 7 := by rw [← hC]; rfl
  have hC1 : ∀ v ∈ C, v.oneCell' = true := by rw [← hC]; exact rpV_one _
  rw [hC] at hP c5
  have c5 := Lib.hid (show ∀ w' g, Blk w' g 27 C → w'.cell? ⟨g, 5, none⟩ = some (.int .u32 2) from c5)
  clear hS1 hS2 hS3 hD hC hG
  go_enter Tryd.func5, Tryd.ntmps5
  go_wp2_with fail
  refine hP.mono ?_
  rintro q w1 ⟨rfl, b1⟩
  have hz := Blk.new w1 27 (rpC 0 0 0 0 0 0 0)
  have hB2 := b1.alloc b1.size (.cells (rpC 0 0 0 0 0 0 0).toArray 27)
  have hGl := b1.size
  obtain ⟨W, hW⟩ : ∃ W, w1.alloc (.cells (rpC 0 0 0 0 0 0 0).toArray 27) = W := ⟨_, rfl⟩
  obtain ⟨G, hGe⟩ : ∃ G, w1.heap.size = G := ⟨_, rfl⟩
  rw [hW] at hz hB2
  rw [hGe] at hz hGl
  clear b1 hP
  go_wp2_with (first
    | ((with_reducible refine wpList_alloc_blk rfl 27 rfl zeroRp ?_); refine RowKit.Hid.out ?_))
  refine Lib.hid ?_
  try simp only [Act.put, List.setIfInBounds_toArray, List.set_cons_zero, List.set_cons_succ]
  try rw [hW]
  try rw [hGe]
  clear hW hGe
  refine store_row rfl 27 (.tmp 1) (.tmp 5) rfl rfl rfl hz rowRp hCl rfl hC1 ?_
  intro w3 hk3 hg3
  have hB3 := hB2.grown hg3 hB2.size (fun q hq => by injection hq with hq; omega)
  have d5 := c5.out w3 G hk3
  clear hz hB2 hg3 c5
  go_wp2_with ((with_reducible refine build_if rfl 27 _ rfl (cells := D.toArray) ?_ ?_); (refine Eq.trans (congrArg _ ?_) hbt; kernel_rfl))
  refine (hLi.out w3 hB3).mono ?_
  rintro q w4 ⟨rfl, b4⟩
  have hB4 := hB3.trans (b4.mono hB3.size)
  clear hB3 b4 d5 hk3 hLi
  go_wp2_with fail
  refine (hEn.out w4).mono ?_
  rintro q w5 ⟨rfl, b5⟩
  have hB5 := hB4.trans (b5.mono hB4.size)
  clear hB4 b5 hEn
  go_wp2_with fail
  refine (hKn.out w5).mono ?_
  rintro q w6 ⟨rfl, b6⟩
  have hB6 := hB5.trans (b6.mono hB5.size)
  clear hB5 b6 hKn
  go_wp2
  go_ret
  exact ⟨by first | rfl | (rw [y3]), hB6⟩
end Go.Proofs.YtbiabjehdmddbaaDoor

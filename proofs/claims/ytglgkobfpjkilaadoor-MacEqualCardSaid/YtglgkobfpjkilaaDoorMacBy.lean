/-
  What package mac's by, tag, Of, Check and Equal come to. Conditions: bytes are numbers from 0 to 255, fewer than 2^32 - 4096 of them; the package's variables hold the constants and the starts.
-/
import Derived.Test.YtglgkobfpjkilaaDoorMacBlk
import Derived.Deep.QuietTactic
import Derived.BigQuiet
namespace Go.Proofs.YtglgkobfpjkilaaDoor
open Go.RowKit

theorem zeroKeyed : Zero Tryd.prog 41 [.pointer none, .pointer none] := by unfold Zero; kernel_rfl
theorem sizeKeyed : (Tryd.prog.info? 41).map (·.size) = some 2 := by kernel_rfl
theorem rowKeyed : IsRow Tryd.prog 41 2 := IsRow.struct Tryd.underlying41 sizeKeyed

set_option maxRecDepth 100000 in
set_option maxHeartbeats 1600000 in
theorem by_any (a : Option Addr) (n cap : Nat) (key : List Int) (w : World) (hG : Glob w) (h : Ints .u8 w a n cap key) (hx : ∀ x ∈ key, 0 ≤ x ∧ x < 256) (hn : n ≤ 4294967168) :
    Calls Tryd.prog 17 #[.slice a n cap] w fun e w' => ∃ g1 g2, e = .returned (.agg #[.pointer (some ⟨g1, 0, none⟩), .pointer (some ⟨g2, 0, none⟩)]) ∧ w.heap.size ≤ g1 ∧ g1 < g2 ∧ HashAt w' g1 (pad key 54) ∧ HashAt w' g2 (pad key 92) ∧ Below w.heap.size w w' := by
  have R0 := Blk.new w 41 [.pointer none, .pointer none]
  have b0 := below1 w (.cells #[.pointer none, .pointer none] 41)
  go_enter Tryd.func17, Tryd.ntmps17
  go_wp2_with (with_reducible refine wpList_alloc_blk rfl 41 rfl zeroKeyed ?_)
  refine (blockOf_any a n cap key _ (hG.keep b0 (Nat.le_refl _)) (h.keep b0) hx hn).mono ?_
  rintro e w1 ⟨rfl, hb1⟩
  have R1 : Blk w1 w.heap.size 41 [.pointer none, .pointer none] := Blk.keep R0 hb1 (by rw [size1]; omega)
  have hw1 : Below w.heap.size w w1 := b0.trans (hb1.mono (by rw [size1]; omega))
  clear hb1 R0 b0
  obtain ⟨X, hX⟩ : ∃ X, X = (keyBlock key).map (Value.int .u8) := ⟨_, rfl⟩
  have hXl : X.length = 64 := by rw [hX, List.length_map, keyBlock_length]
  rw [← hX]
  have HX := Lib.hid hX; have HXL := Lib.hid hXl
  have HI : IsRow Tryd.prog 47 X.length := by rw [hXl]; exact rowBlk
  have HO1 := Lib.hid (show ∀ v ∈ X, v.oneCell' = true by rw [hX]; exact ints_oneCell' _ _)
  have HOF := Lib.hid (show 0 + X.length ≤ (zb 64).length by rw [hXl]; decide)
  clear hX hXl
  go_wp2_with ((with_reducible refine wpList_alloc_blk rfl 47 rfl zeroBlk ?_)
               refine wpList_store_part (g := w1.heap.size) (off := 0) (t := 47) (cur := zb 64) (cs := X) rfl 47 (.tmp 3) (.tmp 5) rfl ?_ ?_ (Blk.new w1 _ (zb 64)) HI ?_ HO1.out ?_
               rfl
               rfl
               exact HOF.out
               intro w2 hX' hg2)
  have B2 := hX'.cast (overV_all _ _ (by rw [HXL.out]; rfl))
  have hb2 : Below w1.heap.size w1 w2 := (below1 w1 _).trans (below_of_grown hg2 (Nat.le_refl _) (by rw [size1]; omega))
  have hw2 : Below w.heap.size w w2 := hw1.trans (hb2.mono hw1.size)
  have R2 := R1.keep hb2 R1.lt
  have hne : w.heap.size ≠ w1.heap.size := by have := R1.lt; omega
  obtain ⟨g, hg⟩ : ∃ g, g = w1.heap.size := ⟨_, rfl⟩
  rw [← hg] at B2 hne
  rw [← hg]
  clear hg hX' hg2 hb2 hw1 R1 HOF HO1
  have hS : Blk w2.drew g 47 X := B2
  go_wp2_with fail
  refine region_seqS (fun w' => Blk w' g 47 X) (by kernel_rfl) hS ?_
  simp only [pairs, Nat.reduceAdd]
  (refine SeqS.take (v := .agg X.toArray) (by assumption) (by kernel_rfl) (by decide +kernel) (by decide +kernel) (yields_blk (by rfl) 47 (.tmp 3) rfl rfl (fun _ h => h) HI) ?_; simp only [Act.put, List.setIfInBounds_toArray, List.set_cons_zero, List.set_cons_succ])
  (refine SeqS.take1 (v := .agg X.toArray) (by assumption) (by kernel_rfl) (by decide +kernel) (by decide +kernel) (yields_blk (by rfl) 47 (.tmp 3) rfl rfl (fun _ h => h) HI) ?_; simp only [Act.put, List.setIfInBounds_toArray, List.set_cons_zero, List.set_cons_succ])
  refine SeqS.alone (by decide +kernel) (by rfl) (fun K hK => ?_)
  go_simp
  go_at_call 23
  have G2 : Glob w2.drew := hG.keep hw2.drew (Nat.le_refl _)
  rw [HX.out]
  refine (told_any (keyBlock key) 54 w2.drew G2 (keyBlock_length key)).mono ?_
  rintro e w3 ⟨g1, rfl, l1, H1, b3⟩
  go_simp
  have S3 := hS.keep b3 hS.lt
  refine hK _ _ S3 ?_
  clear hK K
  have R3 := Blk.keep (show Blk w2.drew w.heap.size _ _ from R2) b3 (show w.heap.size < w2.heap.size from R2.lt)
  have G3 := G2.keep b3 (Nat.le_refl _)
  have w3' : Below w.heap.size w w3 := hw2.drew.trans (b3.mono hw2.size)
  refine SeqS.alone (by decide +kernel) (by rfl) (fun K hK => ?_)
  go_simp
  go_at_call 23
  refine (told_any (keyBlock key) 92 w3 G3 (keyBlock_length key)).mono ?_
  rintro e w4 ⟨g2, rfl, l2, H2, b4⟩
  go_simp
  have S4 := S3.keep b4 S3.lt
  refine hK _ _ S4 ?_
  clear hK K
  have R4 := R3.keep b4 R3.lt
  have H14 := H1.keep b4 H1.lt
  have l12 : g1 < g2 := Nat.lt_of_lt_of_le H1.lt l2
  have w4' : Below w.heap.size w w4 := w3'.trans (b4.mono w3'.size)
  have l1' : w.heap.size ≤ g1 := Nat.le_trans hw2.size l1
  have lne1 : g1 ≠ w.heap.size := by have := R2.lt; have : w2.heap.size ≤ g1 := l1; omega
  have lne2 : g2 ≠ w.heap.size := by omega
  repeat (first
    | (refine SeqS.take (v := ?_) (by first | assumption | trivial) (by kernel_rfl) (by decide +kernel) (by decide +kernel) (Or.inl ⟨by rfl, ?_⟩) ?_
       rotate_left
       focus
         intro w' hb'
         go_simp
         with_reducible rfl
       simp only [Act.put, List.setIfInBounds_toArray, List.set_cons_zero, List.set_cons_succ]))
  refine SeqS.alone (by decide +kernel) (by rfl) (fun K hK => ?_)
  refine wp_store_part 41 (.tmp 2) (.tmp 10) rfl (cs := [.pointer (some ⟨g1, 0, none⟩), .pointer (some ⟨g2, 0, none⟩)]) rfl rfl R4 rowKeyed (Nat.le_refl 2) (by intro v hv; simp at hv; rcases hv with rfl | rfl <;> rfl) ?_
  intro w9 R9' g9
  go_simp
  refine hK _ _ (S4.grown g9 (by intro e; injection e with e; exact hne e.symm)) ?_
  clear hK K
  refine SeqS.done (by decide +kernel) ?_
  have R9 := R9'.cast (overV_all _ _ rfl)
  go_wp2_with fail
  refine bodyPost_ret (results_blk rfl rfl R9 rowKeyed) rfl ?_
  exact ⟨g1, g2, rfl, l1', l12, H14.grown g9 lne1, H2.grown g9 lne2, w4'.trans (below_of_grown g9 (Nat.le_refl _) R4.lt)⟩
end Go.Proofs.YtglgkobfpjkilaaDoor

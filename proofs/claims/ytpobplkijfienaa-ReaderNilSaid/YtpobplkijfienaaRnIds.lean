/-
  Id, Hint and Ids of a reader that is nil, and of one that no call made: they answer nothing. New memory alone is written. No conditions.
-/
import Derived.Test.YtpobplkijfienaaRnCalls
namespace Go.Proofs.Ytpobplkijfienaa
open Go.RowKit Go.Shelf
attribute [local go_sem] Oper.semAt_some

set_option maxRecDepth 100000 in
set_option maxHeartbeats 1000000 in
theorem nId_any {w : World} {q : Option Addr} (h : Unmade w q) :
    Calls Try.prog 21 #[.pointer q] w fun r w' => r = .returned (.agg (List.replicate 32 (Value.int .u8 0)).toArray) ∧ Below w.heap.size w w' := by
  obtain ⟨Zs, hZs⟩ : ∃ Zs, List.replicate 32 (Value.int .u8 0) = Zs := ⟨_, rfl⟩
  have hZZ : Zero Try.prog 55 Zs := hZs ▸ zeroId9
  have hZl : Zs.length = 32 := by rw [← hZs, List.length_replicate]
  have hone := Lib.hid (show ∀ v ∈ Zs, v.oneCell' = true by rw [← hZs]; intro v hv; rw [List.eq_of_mem_replicate hv]; rfl)
  have hZH := Lib.hid hZs
  clear hZs
  go_enter Try.func21, Try.ntmps21
  go_wp2_with (with_reducible refine wpList_alloc_blk rfl 55 rfl hZZ ?_)
  obtain ⟨V, hV⟩ : ∃ V, (w.alloc (.cells Zs.toArray 55)).alloc (.cells Zs.toArray 55) = V := ⟨_, rfl⟩
  have hr : Blk V w.heap.size 55 Zs := by rw [← hV]; exact (Blk.new w _ _).alloc _
  have hi : Blk V (w.heap.size + 1) 55 Zs := by rw [← hV]; exact Blk.new1 w _ _ _
  have hB : Below w.heap.size w V := by rw [← hV]; exact below2 w _ _
  rw [hV]
  simp only [size1, Act.put, List.setIfInBounds_toArray, List.set_cons_zero, List.set_cons_succ]
  clear hV
  obtain ⟨G, hG⟩ : ∃ G, w.heap.size + 1 = G := ⟨_, rfl⟩
  have hGH := Lib.hid hG
  rw [hG] at hi ⊢
  clear hG
  refine region_seqS (fun _ => True) (by kernel_rfl) trivial ?_
  simp only [pairs, Nat.reduceAdd]
  have hr1 : Blk V.drew w.heap.size 55 Zs := hr
  have hi1 : Blk V.drew G 55 Zs := hi
  have hB1 : Below w.heap.size w V.drew := Below.drew hB
  obtain ⟨U, hU⟩ : ∃ U, V.drew = U := ⟨_, rfl⟩
  rw [hU] at hr1 hi1 hB1 ⊢
  clear hU hr hi hB
  have h1 := h.keep hB1
  repeat (first
    | (refine SeqS.take (v := ?_) (by first | assumption | trivial) (by kernel_rfl) (by decide +kernel) (by decide +kernel) (Or.inl ⟨by rfl, ?_⟩) ?_
       rotate_left
       focus
         intro w' hb'
         go_simp
         with_reducible rfl
       simp only [Act.put, List.setIfInBounds_toArray, List.set_cons_zero, List.set_cons_succ])
    | (refine SeqS.take (v := undef) (by first | assumption | trivial) (by kernel_rfl) (by decide +kernel) (by decide +kernel) (Or.inr ⟨by rfl, rfl⟩) ?_
       simp only [Act.put, List.setIfInBounds_toArray, List.set_cons_zero, List.set_cons_succ])
    | (refine SeqS.take1 (v := ?_) (by first | assumption | trivial) (by kernel_rfl) (by decide +kernel) (by decide +kernel) (Or.inl ⟨by rfl, ?_⟩) ?_
       rotate_left
       focus
         intro w' hb'
         go_simp
         with_reducible rfl
       simp only [Act.put, List.setIfInBounds_toArray, List.set_cons_zero, List.set_cons_succ])
    | (refine SeqS.take1 (v := undef) (by first | assumption | trivial) (by kernel_rfl) (by decide +kernel) (by decide +kernel) (Or.inr ⟨by rfl, rfl⟩) ?_
       simp only [Act.put, List.setIfInBounds_toArray, List.set_cons_zero, List.set_cons_succ])
    | (refine SeqS.take2 (v := ?_) (by first | assumption | trivial) (by kernel_rfl) (by decide +kernel) (by decide +kernel) (Or.inl ⟨by rfl, ?_⟩) ?_
       rotate_left
       focus
         intro w' hb'
         go_simp
         with_reducible rfl
       simp only [Act.put, List.setIfInBounds_toArray, List.set_cons_zero, List.set_cons_succ])
    | (refine SeqS.take2 (v := undef) (by first | assumption | trivial) (by kernel_rfl) (by decide +kernel) (by decide +kernel) (Or.inr ⟨by rfl, rfl⟩) ?_
       simp only [Act.put, List.setIfInBounds_toArray, List.set_cons_zero, List.set_cons_succ])
    | (refine SeqS.take3 (v := ?_) (by first | assumption | trivial) (by kernel_rfl) (by decide +kernel) (by decide +kernel) (Or.inl ⟨by rfl, ?_⟩) ?_
       rotate_left
       focus
         intro w' hb'
         go_simp
         with_reducible rfl
       simp only [Act.put, List.setIfInBounds_toArray, List.set_cons_zero, List.set_cons_succ])
    | (refine SeqS.take3 (v := undef) (by first | assumption | trivial) (by kernel_rfl) (by decide +kernel) (by decide +kernel) (Or.inr ⟨by rfl, rfl⟩) ?_
       simp only [Act.put, List.setIfInBounds_toArray, List.set_cons_zero, List.set_cons_succ]))
  refine SeqS.alone (by decide +kernel) (by rfl) (fun K1 hK1 => ?_)
  go_simp
  refine (nNext_any _ _ 1 32 h1).mono ?_
  rintro r w2 ⟨rfl, rfl⟩
  go_simp
  refine hK1 _ _ trivial ?_
  clear hK1 K1
  try simp only [Act.put, List.setIfInBounds_toArray, List.set_cons_zero, List.set_cons_succ]
  refine SeqS.alone (by decide +kernel) (by rfl) (fun K1 hK1 => ?_)
  have hI : Ints .u8 U none 0 0 [] := ⟨rfl, Nat.le_refl _, .inl rfl⟩
  have CF : CopyFits U (some ⟨G, 0, none⟩) none 0 32 G 0 Zs.length ((([] : List Int).take 0).map (Value.int .u8)) := hI.copyFits (m := 0) (by decide) (fun h => absurd h (Nat.lt_irrefl 0)) (Nat.zero_le _)
  go_simp
  refine upon_copy 22 22 3 5 Try.underlying22 sizeU8s hi1 CF 0 rfl ?_
  intro W5 hi5' gr5
  have hi5 : Blk W5 G 55 Zs := hi5'.cast (by simp [overV])
  have hr5 := hr1.grown gr5 (by intro e; injection e with e; have := hGH.out; omega)
  have hB5 : Below w.heap.size w W5 := hB1.trans (below_of_grown gr5 (by have := hGH.out; omega) hi1.lt)
  refine hK1 _ _ trivial ?_
  clear hK1 K1 hi5' gr5 hi1 hr1 CF hI
  refine SeqS.done (by decide +kernel) ?_
  have HI : IsRow Try.prog 55 Zs.length := by rw [hZl]; exact rowId9
  have HOF := Lib.hid (show 0 + Zs.length ≤ Zs.length by omega)
  have HOV := Lib.hid (overV_all Zs Zs rfl)
  go_wp2_with (first
    | ((refine wpList_load_blk rfl 55 (.tmp 3) rfl ?_ hi5 HI rfl ?_); rfl)
    | ((with_reducible refine wpList_store_part rfl 55 (.tmp 2) (.tmp 8) rfl ?_ ?_ hr5 HI HOF.out hone.out ?_); rfl; rfl; intro w9 hR9 hg9))
  rw [HOV.out] at hR9
  (try simp only [Exit.inBlock, Exit.then])
  refine bodyPost_ret (results_blk rfl rfl hR9 HI) rfl ?_
  exact ⟨by rw [hZH.out], hB5.trans (below_of_grown hg9 (Nat.le_refl _) hr5.lt)⟩

set_option maxRecDepth 100000 in
set_option maxHeartbeats 1000000 in
theorem nHint_any {w : World} {q : Option Addr} (h : Unmade w q) :
    Calls Try.prog 22 #[.pointer q] w fun r w' => r = .returned (.agg (List.replicate 16 (Value.int .u8 0)).toArray) ∧ Below w.heap.size w w' := by
  obtain ⟨Zs, hZs⟩ : ∃ Zs, List.replicate 16 (Value.int .u8 0) = Zs := ⟨_, rfl⟩
  have hZZ : Zero Try.prog 58 Zs := hZs ▸ zeroHint9
  have hZl : Zs.length = 16 := by rw [← hZs, List.length_replicate]
  have hone := Lib.hid (show ∀ v ∈ Zs, v.oneCell' = true by rw [← hZs]; intro v hv; rw [List.eq_of_mem_replicate hv]; rfl)
  have hZH := Lib.hid hZs
  clear hZs
  go_enter Try.func22, Try.ntmps22
  go_wp2_with (with_reducible refine wpList_alloc_blk rfl 58 rfl hZZ ?_)
  obtain ⟨V, hV⟩ : ∃ V, (w.alloc (.cells Zs.toArray 58)).alloc (.cells Zs.toArray 58) = V := ⟨_, rfl⟩
  have hr : Blk V w.heap.size 58 Zs := by rw [← hV]; exact (Blk.new w _ _).alloc _
  have hi : Blk V (w.heap.size + 1) 58 Zs := by rw [← hV]; exact Blk.new1 w _ _ _
  have hB : Below w.heap.size w V := by rw [← hV]; exact below2 w _ _
  rw [hV]
  simp only [size1, Act.put, List.setIfInBounds_toArray, List.set_cons_zero, List.set_cons_succ]
  clear hV
  obtain ⟨G, hG⟩ : ∃ G, w.heap.size + 1 = G := ⟨_, rfl⟩
  have hGH := Lib.hid hG
  rw [hG] at hi ⊢
  clear hG
  refine region_seqS (fun _ => True) (by kernel_rfl) trivial ?_
  simp only [pairs, Nat.reduceAdd]
  have hr1 : Blk V.drew w.heap.size 58 Zs := hr
  have hi1 : Blk V.drew G 58 Zs := hi
  have hB1 : Below w.heap.size w V.drew := Below.drew hB
  obtain ⟨U, hU⟩ : ∃ U, V.drew = U := ⟨_, rfl⟩
  rw [hU] at hr1 hi1 hB1 ⊢
  clear hU hr hi hB
  have h1 := h.keep hB1
  repeat (first
    | (refine SeqS.take (v := ?_) (by first | assumption | trivial) (by kernel_rfl) (by decide +kernel) (by decide +kernel) (Or.inl ⟨by rfl, ?_⟩) ?_
       rotate_left
       focus
         intro w' hb'
         go_simp
         with_reducible rfl
       simp only [Act.put, List.setIfInBounds_toArray, List.set_cons_zero, List.set_cons_succ])
    | (refine SeqS.take (v := undef) (by first | assumption | trivial) (by kernel_rfl) (by decide +kernel) (by decide +kernel) (Or.inr ⟨by rfl, rfl⟩) ?_
       simp only [Act.put, List.setIfInBounds_toArray, List.set_cons_zero, List.set_cons_succ])
    | (refine SeqS.take1 (v := ?_) (by first | assumption | trivial) (by kernel_rfl) (by decide +kernel) (by decide +kernel) (Or.inl ⟨by rfl, ?_⟩) ?_
       rotate_left
       focus
         intro w' hb'
         go_simp
         with_reducible rfl
       simp only [Act.put, List.setIfInBounds_toArray, List.set_cons_zero, List.set_cons_succ])
    | (refine SeqS.take1 (v := undef) (by first | assumption | trivial) (by kernel_rfl) (by decide +kernel) (by decide +kernel) (Or.inr ⟨by rfl, rfl⟩) ?_
       simp only [Act.put, List.setIfInBounds_toArray, List.set_cons_zero, List.set_cons_succ])
    | (refine SeqS.take2 (v := ?_) (by first | assumption | trivial) (by kernel_rfl) (by decide +kernel) (by decide +kernel) (Or.inl ⟨by rfl, ?_⟩) ?_
       rotate_left
       focus
         intro w' hb'
         go_simp
         with_reducible rfl
       simp only [Act.put, List.setIfInBounds_toArray, List.set_cons_zero, List.set_cons_succ])
    | (refine SeqS.take2 (v := undef) (by first | assumption | trivial) (by kernel_rfl) (by decide +kernel) (by decide +kernel) (Or.inr ⟨by rfl, rfl⟩) ?_
       simp only [Act.put, List.setIfInBounds_toArray, List.set_cons_zero, List.set_cons_succ])
    | (refine SeqS.take3 (v := ?_) (by first | assumption | trivial) (by kernel_rfl) (by decide +kernel) (by decide +kernel) (Or.inl ⟨by rfl, ?_⟩) ?_
       rotate_left
       focus
         intro w' hb'
         go_simp
         with_reducible rfl
       simp only [Act.put, List.setIfInBounds_toArray, List.set_cons_zero, List.set_cons_succ])
    | (refine SeqS.take3 (v := undef) (by first | assumption | trivial) (by kernel_rfl) (by decide +kernel) (by decide +kernel) (Or.inr ⟨by rfl, rfl⟩) ?_
       simp only [Act.put, List.setIfInBounds_toArray, List.set_cons_zero, List.set_cons_succ]))
  refine SeqS.alone (by decide +kernel) (by rfl) (fun K1 hK1 => ?_)
  go_simp
  refine (nNext_any _ _ 1 16 h1).mono ?_
  rintro r w2 ⟨rfl, rfl⟩
  go_simp
  refine hK1 _ _ trivial ?_
  clear hK1 K1
  try simp only [Act.put, List.setIfInBounds_toArray, List.set_cons_zero, List.set_cons_succ]
  refine SeqS.alone (by decide +kernel) (by rfl) (fun K1 hK1 => ?_)
  have hI : Ints .u8 U none 0 0 [] := ⟨rfl, Nat.le_refl _, .inl rfl⟩
  have CF : CopyFits U (some ⟨G, 0, none⟩) none 0 16 G 0 Zs.length ((([] : List Int).take 0).map (Value.int .u8)) := hI.copyFits (m := 0) (by decide) (fun h => absurd h (Nat.lt_irrefl 0)) (Nat.zero_le _)
  go_simp
  refine upon_copy 22 22 3 5 Try.underlying22 sizeU8s hi1 CF 0 rfl ?_
  intro W5 hi5' gr5
  have hi5 : Blk W5 G 58 Zs := hi5'.cast (by simp [overV])
  have hr5 := hr1.grown gr5 (by intro e; injection e with e; have := hGH.out; omega)
  have hB5 : Below w.heap.size w W5 := hB1.trans (below_of_grown gr5 (by have := hGH.out; omega) hi1.lt)
  refine hK1 _ _ trivial ?_
  clear hK1 K1 hi5' gr5 hi1 hr1 CF hI
  refine SeqS.done (by decide +kernel) ?_
  have HI : IsRow Try.prog 58 Zs.length := by rw [hZl]; exact rowHint9
  have HOF := Lib.hid (show 0 + Zs.length ≤ Zs.length by omega)
  have HOV := Lib.hid (overV_all Zs Zs rfl)
  go_wp2_with (first
    | ((refine wpList_load_blk rfl 58 (.tmp 3) rfl ?_ hi5 HI rfl ?_); rfl)
    | ((with_reducible refine wpList_store_part rfl 58 (.tmp 2) (.tmp 8) rfl ?_ ?_ hr5 HI HOF.out hone.out ?_); rfl; rfl; intro w9 hR9 hg9))
  rw [HOV.out] at hR9
  (try simp only [Exit.inBlock, Exit.then])
  refine bodyPost_ret (results_blk rfl rfl hR9 HI) rfl ?_
  exact ⟨by rw [hZH.out], hB5.trans (below_of_grown hg9 (Nat.le_refl _) hr5.lt)⟩

set_option maxRecDepth 100000 in
set_option maxHeartbeats 1000000 in
theorem nIds_any {w : World} {q : Option Addr} (A : Int) (h : Unmade w q) :
    Calls Try.prog 19 #[.pointer q, .int .i64 A] w fun r w' => r = .returned (.slice none 0 0) ∧ Below w.heap.size w w' := by
  refine (callsIn_wide (n := 9)).1 (callsIn_of_wp_marks Try.func19 rfl trivial (wpIn_wide.2 ?_) rfl)
  simp only [Try.ntmps19, List.size_toArray, List.length_cons, List.length_nil, Nat.reduceAdd, Nat.reduceSub, Array.replicate_succ, Array.replicate_zero, List.push_toArray, List.append_toArray, List.nil_append, List.cons_append]
  go_wp2_with fail
  obtain ⟨W0, hW0⟩ : ∃ W0, w.alloc (.cells #[.slice none 0 0] 51) = W0 := ⟨_, rfl⟩
  have hl0 : Boxed W0 w.heap.size 51 (.slice none 0 0) := by rw [← hW0]; exact Boxed.new w _ _
  have b0 : Below w.heap.size w W0 := by rw [← hW0]; exact below1 w _
  have h0 := h.keep b0
  rw [hW0]
  clear hW0
  refine (nNext_any _ _ A 32 h0).mono ?_
  rintro r w1 ⟨rfl, rfl⟩
  go_wp2_with fail
  refine (chunk_any none 0 0 W0).mono ?_
  rintro r W1 ⟨rfl, hW1⟩
  go_wp2_with fail
  clear hW1 W1
  obtain ⟨BL, hBL⟩ : ∃ BL, w.heap.size = BL := ⟨_, rfl⟩
  obtain ⟨G1, hG1⟩ : ∃ G1, W0.heap.size = G1 := ⟨_, rfl⟩
  obtain ⟨W1, hW1⟩ : ∃ W1, (W0.alloc (.cells #[.slice none 0 0] 22)).alloc (.cells #[.int .i64 32] 3) = W1 := ⟨_, rfl⟩
  have bW : Below G1 W0 W1 := by rw [← hW1, ← hG1]; exact below2 W0 _ _
  have hG : BL < G1 := by rw [← hG1, ← hBL]; exact hl0.lt
  have hlW : Boxed W1 BL 51 (.slice none 0 0) := by rw [hBL] at hl0; exact (bW.block BL hG).trans hl0
  have hBW : Below BL w W1 := by rw [hBL] at b0; exact b0.trans (bW.mono (Nat.le_of_lt hG))
  have hs1 : W1.heap.size = G1 + 2 := by rw [← hW1, ← hG1]; exact size2 W0 _ _
  have hc1 : W1.cell? ⟨G1, 0, none⟩ = some (.slice none (32 * 0) 0) := by rw [← hW1, ← hG1]; exact ((Blk.new W0 22 [.slice none 0 0]).alloc _).cell 0
  have hc2 : W1.cell? ⟨G1 + 1, 0, none⟩ = some (.int .i64 32) := by rw [← hW1, ← hG1]; exact (Blk.new1 W0 _ 3 [.int .i64 32]).cell 0
  rw [hW1, hG1, hBL]
  have hBLH := Lib.hid hBL
  clear hBL hG1 hW1 hl0 b0 bW h0
  refine (wpIn_wide (n := 9)).1 ?_
  refine wpIn_rangeFunc_ownG rfl (by omega) (gf := 38) (lb := #[.pointer (some ⟨G1, 0, none⟩), .pointer (some ⟨G1 + 1, 0, none⟩)]) rfl trivial (enters_of Try.func38 (by kernel_rfl) rfl)
    (chunk_stops_any (9 - 1) (by omega) G1 (G1 + 1) 0 0 0 0 none W1 (by omega) (by omega) hc1 hc2 (by omega) (by omega) (fun h => absurd h (Nat.lt_irrefl 0))) Two.t (two_b (by omega) (by omega)) (Below.refl _ _) (fun _ => rfl)
    (fun _ W => Boxed W BL 51 (.slice none 0 0) ∧ Below BL w W)
    (fun _ _ _ => False)
    (OwnFrom.and (fun s X Z row hs hg hr => hs.kept hg (fun e => by have := (hr BL e.symm).1; omega)) (ownFrom_below (by rw [hBLH.out]; exact Nat.le_refl _) (by omega)))
    (fun _ _ _ _ _ hs _ _ => hs)
    ⟨hlW, hBW⟩
    (fun x => { tmps := #[.pointer q, .int .i64 A, undef, undef, .slice none 0 0, .pointer (some ⟨BL, 0, none⟩), .slice (some ⟨0, 0 + 32 * x.1, none⟩) 32 32, .pointer q, .int .i64 A, .bool (decide (0 ≤ A)), .int .i64 A, .slice none 0 0, .func (.func 38) #[] #[.pointer (some ⟨G1, 0, none⟩), .pointer (some ⟨G1 + 1, 0, none⟩)], .slice (some ⟨0, 0 + 32 * x.1, none⟩) 32 32, undef, undef, undef, undef, undef, undef, undef], defers := [] }) ?assign ?body ?done ?stop
  case assign =>
    intro l x W K hK
    exact absurd x.2 (Nat.not_lt_zero _)
  case body =>
    rintro l pre x W _ _
    exact absurd x.2 (Nat.not_lt_zero _)
  case done =>
    rintro D ys W hD hS ⟨hv, hB⟩ hK
    have hcv := hv.cell
    have gD := grownBy_putObj' W D (.deferred none)
    go_wp2
    refine ⟨by simp, .inl ⟨_, _, rfl, run_takeDeferred hK, ?_⟩⟩
    refine ⟨_, results_tmp rfl _ _ _, rfl, ?_⟩
    rw [hBLH.out]
    have hDl : D < W.heap.size := (Array.getElem?_eq_some_iff.1 hK).1
    exact hB.trans (below_of_grown gD (by omega) hDl)
  case stop =>
    rintro D c pre W _ _ h _
    exact h.elim
end Go.Proofs.Ytpobplkijfienaa

/-
  What a cipher's Decrypt comes to: the block decrypted with the bytes of its round keys; new memory alone is written.
-/
import Derived.Test.YtohobknianhplaaCipherEnc
import Derived.Test.YtohobknianhplaaSteps
namespace Go.Proofs.Ytohobknianhplaa
open Go.RowKit

set_option maxRecDepth 100000 in
set_option maxHeartbeats 1000000 in
theorem cDec_any (q : Nat) (F : Nat → Nat) (b : Nat → Nat) (w : World) (hF : By F) (hb : By b) (hC : CiAt w q F sb bk true true) :
    Calls Try.prog 8 #[.pointer (some ⟨q, 0, none⟩), .agg (rowN 16 b).toArray] w fun e w' => e = .returned (.agg (rowN 16 (dec (keyAt F) b)).toArray) ∧ Below w.heap.size w w' := by
  go_enter Try.func8, Try.ntmps8
  have hmd : ∀ o o', ((w.alloc o).alloc o').cell? ⟨q, 753, none⟩ = some (.bool true) := fun o o' => by rw [((Blk.alloc hC o).alloc o').cell, ciCells_made]
  go_wp2_with (first
    | ((with_reducible refine wpList_box_blk rfl 24 (.tmp 1) rfl (rowN 16 b) ?_ ?_); rfl)
    | (with_reducible refine wpList_alloc_blk rfl 24 rfl zero16 ?_))
  obtain ⟨W0, hW0⟩ : ∃ W0, (w.alloc (.cells (rowN 16 b).toArray 24)).alloc (.cells (rowN 16 zf).toArray 24) = W0 := ⟨_, rfl⟩
  obtain ⟨g, hg⟩ : ∃ g, w.heap.size = g := ⟨_, rfl⟩
  have hx0 : Blk W0 g 24 (rowN 16 b) := by rw [← hW0, ← hg]; exact (Blk.new w _ _).alloc _
  have hr0 : Blk W0 (g + 1) 24 (rowN 16 zf) := by rw [← hW0, ← hg]; exact Blk.new1 w _ _ _
  have hB0 : Below g w W0 := by rw [← hW0, ← hg]; exact below2 w _ _
  have hql : q < g := by rw [← hg]; exact Blk.lt hC
  have hC0 : CiAt W0 q F sb bk true true := by rw [← hW0]; exact (Blk.alloc hC _).alloc _
  rw [hW0, hg]
  clear hW0 hmd hC
  have hg := Lib.hid hg
  have hql := Lib.hid hql
  have hb := Lib.hid hb
  have hF := Lib.hid hF
  go_loopw [5] (fun i wr => ∃ r : Nat, r ≤ 14 ∧ i = .int .i64 r ∧ Blk wr g 24 (rowN 16 (decs (keyAt F) b (14 - r))) ∧ Blk wr (g + 1) 24 (rowN 16 zf) ∧ CiAt wr q F sb bk true true ∧ Below g w wr) (fun i _ => (intOf i).toNat)
  case atStart => exact ⟨14, by omega, rfl, hx0, hr0, hC0, hB0⟩
  case round =>
    clear hx0 hr0 hC0 hB0
    obtain ⟨r, hk, rfl, hx, hr, hC, hB⟩ := hrel
    by_cases hlt : 1 ≤ r
    · have hby := decs_by (K := keyAt F) hb.out (14 - r)
      obtain ⟨c, hc⟩ : ∃ c, decs (keyAt F) b (14 - r) = c := ⟨_, rfl⟩
      obtain ⟨s, hse⟩ : ∃ s, r = s + 1 := ⟨r - 1, by omega⟩
      have hnx : decs (keyAt F) b (14 - s) = und (keyAt F) r c := by
        rw [show 14 - s = (14 - r) + 1 by omega, ← hc]
        show und (keyAt F) (14 - (14 - r)) _ = _
        rw [show 14 - (14 - r) = r by omega]
      rw [hc] at hx hby
      have hsi : Value.int IntKind.i64 ((r : Int) - 1) = Value.int IntKind.i64 (s : Nat) := by rw [hse]; congr 1; omega
      have hsi := Lib.hid hsi
      have hby := Lib.hid hby
      have hnx := Lib.hid hnx
      have hse' := Lib.hid hse
      have hki : (r : Int) ≤ 14 := by omega
      have hkl : (r : Int) < 15 := by omega
      have hkp : (1 : Int) ≤ (r : Int) := by omega
      have hr15 := Lib.hid (show r < 15 by omega)
      have hlt := Lib.hid hlt
      clear hc hk hse
      have hse := hse'
      clear hse'
      obtain ⟨v, hv, hD⟩ := Draws.one wr
      have hx := hD.blk hx
      have hr := hD.blk hr
      have hB := hB.trans (hD.below g)
      have hC : CiAt v q F sb bk true true := hD.blk hC
      have hK := ci_key' hC r hr15.out
      go_wp2_with fail
      refine wp_region_still_tail 7 (by kernel_rfl) (by decide +kernel) ?_
      simp only [List.take_succ_cons, List.take_zero, List.drop_succ_cons, List.drop_zero]
      change wpStill _ _ wr.drew _ _ _
      rw [hv]
      repeat (first | (refine still_load_mid (x := .tmp 3) rfl 24 rfl rfl hx.all (row16 _) ?_) | (refine still_load_mid (x := .tmp 25) rfl 24 rfl rfl hK (row16 _) ?_) | still_step)
      refine wpStill_nil ?_
      change wpList _ _ _ _ _ wr.drew
      rw [hv]
      clear hv hD
      go_wp2_with fail
      refine (cSum_any c (keyAt F r) _ hby.out (keyAt_by hF.out _)).mono ?_
      rintro e w1 ⟨rfl, h1⟩
      have hgl := hx.lt
      have hr := hr.keep h1 hr.lt
      have hB := hB.trans (h1.mono (Nat.le_of_lt hgl))
      have hC : CiAt w1 q F sb bk true true := Blk.keep hC h1 (Blk.lt hC)
      have hx := hx.keep h1 hgl
      clear h1 hgl
      go_wp2_with ((refine wpList_store16 (new := bAdd c (keyAt F r)) rfl (.tmp 3) (.tmp 27) rfl ?_ ?_ hx ?_); rfl; rfl; intro w2 hy hg2; refine RowKit.Hid.out ?_)
      refine Lib.hid ?_
      have hr := hr.grown hg2 (by intro e; injection e; omega)
      have hC : CiAt w2 q F sb bk true true := Blk.grown hC hg2 (by intro e; injection e; have := hql.out; omega)
      have hB := hB.trans (below_of_grown hg2 (Nat.le_refl g) hx.lt)
      have hx := hy
      clear hy hg2
      have hbt := Lib.hid (show By (bAdd c (keyAt F r)) from bAdd_by hby.out (keyAt_by hF.out _))
      by_cases hl : r < 14
      · have hli : (r : Int) < 14 := by omega
        have hl := Lib.hid hl
        go_wp2_with ((refine wpList_load16 rfl (.tmp 3) rfl ?_ hx ?_); rfl)
        refine (cCols_unmix (bAdd c (keyAt F r)) _ hbt.out).mono ?_
        rintro e w3 ⟨rfl, h1⟩
        have hgl := hx.lt
        have hr := hr.keep h1 hr.lt
        have hB := hB.trans (h1.mono (Nat.le_of_lt hgl))
        have hC : CiAt w3 q F sb bk true true := Blk.keep hC h1 (Blk.lt hC)
        have hx := hx.keep h1 hgl
        clear h1 hgl
        go_wp2_with ((refine wpList_store16 (new := bCols unmixc (bAdd c (keyAt F r))) rfl (.tmp 3) (.tmp 31) rfl ?_ ?_ hx ?_); rfl; rfl; intro w4 hy hg2; refine RowKit.Hid.out ?_)
        refine Lib.hid ?_
        have hr := hr.grown hg2 (by intro e; injection e; omega)
        have hC : CiAt w4 q F sb bk true true := Blk.grown hC hg2 (by intro e; injection e; have := hql.out; omega)
        have hB := hB.trans (below_of_grown hg2 (Nat.le_refl g) hx.lt)
        have hx := hy
        clear hy hg2
        have hbt := Lib.hid (show By (bCols unmixc (bAdd c (keyAt F r))) from bCols_by hbt.out (fun _ => unmixc_by))
        obtain ⟨v3, hv, hD⟩ := Draws.one w4
        have hx := hD.blk hx
        have hr := hD.blk hr
        have hB := hB.trans (hD.below g)
        have hC : CiAt v3 q F sb bk true true := hD.blk hC
        go_wp2_with fail
        refine region_seqS (fun _ => True) (by kernel_rfl) trivial ?_
        simp only [pairs, Nat.reduceAdd]
        change SeqS _ _ _ _ _ _ _ _ w4.drew
        rw [hv]
        clear hv hD
        (refine SeqS.take2 (v := ?_) trivial (by kernel_rfl) (by decide +kernel) (by decide +kernel) (Or.inl ⟨by rfl, ?_⟩) ?_
         rotate_left
         focus
           intro w' hb'
           go_simp
           with_reducible rfl
         simp only [Act.put, List.setIfInBounds_toArray, List.set_cons_zero, List.set_cons_succ])
        (refine SeqS.take2 (v := ?_) trivial (by kernel_rfl) (by decide +kernel) (by decide +kernel) (Or.inl ⟨by rfl, ?_⟩) ?_
         rotate_left
         focus
           intro w' hb'
           go_simp
           with_reducible rfl
         simp only [Act.put, List.setIfInBounds_toArray, List.set_cons_zero, List.set_cons_succ])
        (refine SeqS.take2 (v := ?_) trivial (by kernel_rfl) (by decide +kernel) (by decide +kernel) (Or.inl ⟨by rfl, ?_⟩) ?_
         rotate_left
         focus
           intro w' hb'
           go_simp
           with_reducible rfl
         simp only [Act.put, List.setIfInBounds_toArray, List.set_cons_zero, List.set_cons_succ])
        (refine SeqS.take2 (v := ?_) trivial (by kernel_rfl) (by decide +kernel) (by decide +kernel) (Or.inl ⟨by rfl, ?_⟩) ?_
         rotate_left
         focus
           intro w' hb'
           go_simp
           with_reducible rfl
         simp only [Act.put, List.setIfInBounds_toArray, List.set_cons_zero, List.set_cons_succ])
        refine SeqS.alone (by decide +kernel) (by rfl) (fun K hK => ?_)
        refine wp_load_mid 24 (.tmp 3) rfl g 0 rfl _ _ hx.all Try.underlying24 rfl (by rw [rowN_len]; exact size16) ?_
        refine hK _ _ trivial ?_
        clear hK K
        simp only [Act.put, List.setIfInBounds_toArray, List.set_cons_zero, List.set_cons_succ]
        refine SeqS.alone (by decide +kernel) (by rfl) (fun K hK => ?_)
        go_simp
        refine (cTurned_any (bCols unmixc (bAdd c (keyAt F r))) 3 _ (by decide)).mono ?_
        rintro e w7 ⟨rfl, h1⟩
        have hgl := hx.lt
        have hr := hr.keep h1 hr.lt
        have hB := hB.trans (h1.mono (Nat.le_of_lt hgl))
        have hC : CiAt w7 q F sb bk true true := Blk.keep hC h1 (Blk.lt hC)
        have hx := hx.keep h1 hgl
        clear h1 hgl
        go_simp
        refine hK _ _ trivial ?_
        clear hK K
        refine SeqS.alone (by decide +kernel) (by rfl) (fun K hK => ?_)
        go_simp
        refine (cSubst_back (bTurn 3 (bCols unmixc (bAdd c (keyAt F r)))) q F sb bk true true _ (fun _ => hbt.out _) hC).mono ?_
        rintro e w8 ⟨rfl, h1⟩
        have hgl := hx.lt
        have hr := hr.keep h1 hr.lt
        have hB := hB.trans (h1.mono (Nat.le_of_lt hgl))
        have hC : CiAt w8 q F sb bk true true := Blk.keep hC h1 (Blk.lt hC)
        have hx := hx.keep h1 hgl
        clear h1 hgl
        go_simp
        refine hK _ _ trivial ?_
        clear hK K
        refine SeqS.alone (by decide +kernel) (by rfl) (fun K hK => ?_)
        refine wp_store_part 24 (.tmp 3) (.tmp 38) rfl (cs := rowN 16 (bSb bk (bTurn 3 (bCols unmixc (bAdd c (keyAt F r)))))) rfl rfl hx (row16 _) (fit16 _ _) (rowN_one 16 _) ?_
        intro w9 hy hg2
        rw [over16] at hy
        refine hK _ _ trivial ?_
        clear hK K
        refine SeqS.done (by decide +kernel) ?_
        have hr := hr.grown hg2 (by intro e; injection e; omega)
        have hC : CiAt w9 q F sb bk true true := Blk.grown hC hg2 (by intro e; injection e; have := hql.out; omega)
        have hB := hB.trans (below_of_grown hg2 (Nat.le_refl g) hx.lt)
        have hx := hy
        clear hy hg2
        go_wp2
        go_roundw
        case rel => exact ⟨s, by have := hse.out; have := hlt.out; omega, hsi.out, by rw [hnx.out, und, dim, if_pos hl.out]; exact hx, hr, hC, hB⟩
        case measure => have := hse.out; simp [intOf]; omega
      · have hli : ¬ (r : Int) < 14 := by omega
        have hl := Lib.hid hl
        obtain ⟨v3, hv, hD⟩ := Draws.one w2
        have hx := hD.blk hx
        have hr := hD.blk hr
        have hB := hB.trans (hD.below g)
        have hC : CiAt v3 q F sb bk true true := hD.blk hC
        go_wp2_with fail
        refine region_seqS (fun _ => True) (by kernel_rfl) trivial ?_
        simp only [pairs, Nat.reduceAdd]
        change SeqS _ _ _ _ _ _ _ _ w2.drew
        rw [hv]
        clear hv hD
        (refine SeqS.take2 (v := ?_) trivial (by kernel_rfl) (by decide +kernel) (by decide +kernel) (Or.inl ⟨by rfl, ?_⟩) ?_
         rotate_left
         focus
           intro w' hb'
           go_simp
           with_reducible rfl
         simp only [Act.put, List.setIfInBounds_toArray, List.set_cons_zero, List.set_cons_succ])
        (refine SeqS.take2 (v := ?_) trivial (by kernel_rfl) (by decide +kernel) (by decide +kernel) (Or.inl ⟨by rfl, ?_⟩) ?_
         rotate_left
         focus
           intro w' hb'
           go_simp
           with_reducible rfl
         simp only [Act.put, List.setIfInBounds_toArray, List.set_cons_zero, List.set_cons_succ])
        (refine SeqS.take2 (v := ?_) trivial (by kernel_rfl) (by decide +kernel) (by decide +kernel) (Or.inl ⟨by rfl, ?_⟩) ?_
         rotate_left
         focus
           intro w' hb'
           go_simp
           with_reducible rfl
         simp only [Act.put, List.setIfInBounds_toArray, List.set_cons_zero, List.set_cons_succ])
        (refine SeqS.take2 (v := ?_) trivial (by kernel_rfl) (by decide +kernel) (by decide +kernel) (Or.inl ⟨by rfl, ?_⟩) ?_
         rotate_left
         focus
           intro w' hb'
           go_simp
           with_reducible rfl
         simp only [Act.put, List.setIfInBounds_toArray, List.set_cons_zero, List.set_cons_succ])
        refine SeqS.alone (by decide +kernel) (by rfl) (fun K hK => ?_)
        refine wp_load_mid 24 (.tmp 3) rfl g 0 rfl _ _ hx.all Try.underlying24 rfl (by rw [rowN_len]; exact size16) ?_
        refine hK _ _ trivial ?_
        clear hK K
        simp only [Act.put, List.setIfInBounds_toArray, List.set_cons_zero, List.set_cons_succ]
        refine SeqS.alone (by decide +kernel) (by rfl) (fun K hK => ?_)
        go_simp
        refine (cTurned_any (bAdd c (keyAt F r)) 3 _ (by decide)).mono ?_
        rintro e w7 ⟨rfl, h1⟩
        have hgl := hx.lt
        have hr := hr.keep h1 hr.lt
        have hB := hB.trans (h1.mono (Nat.le_of_lt hgl))
        have hC : CiAt w7 q F sb bk true true := Blk.keep hC h1 (Blk.lt hC)
        have hx := hx.keep h1 hgl
        clear h1 hgl
        go_simp
        refine hK _ _ trivial ?_
        clear hK K
        refine SeqS.alone (by decide +kernel) (by rfl) (fun K hK => ?_)
        go_simp
        refine (cSubst_back (bTurn 3 (bAdd c (keyAt F r))) q F sb bk true true _ (fun _ => hbt.out _) hC).mono ?_
        rintro e w8 ⟨rfl, h1⟩
        have hgl := hx.lt
        have hr := hr.keep h1 hr.lt
        have hB := hB.trans (h1.mono (Nat.le_of_lt hgl))
        have hC : CiAt w8 q F sb bk true true := Blk.keep hC h1 (Blk.lt hC)
        have hx := hx.keep h1 hgl
        clear h1 hgl
        go_simp
        refine hK _ _ trivial ?_
        clear hK K
        refine SeqS.alone (by decide +kernel) (by rfl) (fun K hK => ?_)
        refine wp_store_part 24 (.tmp 3) (.tmp 38) rfl (cs := rowN 16 (bSb bk (bTurn 3 (bAdd c (keyAt F r))))) rfl rfl hx (row16 _) (fit16 _ _) (rowN_one 16 _) ?_
        intro w9 hy hg2
        rw [over16] at hy
        refine hK _ _ trivial ?_
        clear hK K
        refine SeqS.done (by decide +kernel) ?_
        have hr := hr.grown hg2 (by intro e; injection e; omega)
        have hC : CiAt w9 q F sb bk true true := Blk.grown hC hg2 (by intro e; injection e; have := hql.out; omega)
        have hB := hB.trans (below_of_grown hg2 (Nat.le_refl g) hx.lt)
        have hx := hy
        clear hy hg2
        go_wp2
        go_roundw
        case rel => exact ⟨s, by have := hse.out; have := hlt.out; omega, hsi.out, by rw [hnx.out, und, dim, if_neg hl.out]; exact hx, hr, hC, hB⟩
        case measure => have := hse.out; simp [intOf]; omega
    · obtain rfl : r = 0 := by omega
      have hby := Lib.hid (decs_by (K := keyAt F) hb.out 14)
      have hx : Blk wr g 24 (rowN 16 (decs (keyAt F) b 14)) := hx
      obtain ⟨v, hv, hD⟩ := Draws.one wr
      have hx := hD.blk hx
      have hr := hD.blk hr
      have hB := hB.trans (hD.below g)
      have hC : CiAt v q F sb bk true true := hD.blk hC
      have hK := ci_key hC 0 (by decide)
      go_wp2_with fail
      refine wp_region_still_tail 6 (by kernel_rfl) (by decide +kernel) ?_
      simp only [List.take_succ_cons, List.take_zero, List.drop_succ_cons, List.drop_zero]
      change wpStill _ _ wr.drew _ _ _
      rw [hv]
      repeat (first | (refine still_load_mid (x := .tmp 3) rfl 24 rfl rfl hx.all (row16 _) ?_) | (refine still_load_mid (x := .tmp 43) rfl 24 rfl rfl hK (row16 _) ?_) | still_step)
      refine wpStill_nil ?_
      change wpList _ _ _ _ _ wr.drew
      rw [hv]
      clear hv hD
      go_wp2_with fail
      refine (cSum_any (decs (keyAt F) b 14) (keyAt F 0) _ hby.out (keyAt_by hF.out _)).mono ?_
      rintro e w1 ⟨rfl, h1⟩
      have hgl := hx.lt
      have hr := hr.keep h1 hr.lt
      have hB := hB.trans (h1.mono (Nat.le_of_lt hgl))
      have hC : CiAt w1 q F sb bk true true := Blk.keep hC h1 (Blk.lt hC)
      have hx := hx.keep h1 hgl
      clear h1 hgl
      go_wp2_with (first
        | ((refine wpList_store16 (new := dec (keyAt F) b) rfl (.tmp 4) (.tmp 45) rfl ?_ ?_ hr ?_); rfl; rfl; intro w9 hR9 hg9))
      (try simp only [Exit.inBlock, Exit.then])
      refine bodyPost_ret (results_blk rfl rfl hR9 (row16 _)) rfl ?_
      refine ⟨rfl, ?_⟩
      rw [hg.out]
      exact hB.trans (below_of_grown hg9 (by omega) hr.lt)
end Go.Proofs.Ytohobknianhplaa

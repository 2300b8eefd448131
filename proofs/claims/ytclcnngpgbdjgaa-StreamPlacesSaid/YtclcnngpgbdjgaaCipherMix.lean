/-
  Mix tells a column mixed, Unmix the column that is mixed to it: whatever bytes, new memory alone is written.
-/
import Derived.Test.YtclcnngpgbdjgaaCipherBlk
namespace Go.Proofs.Ytclcnngpgbdjgaa
open Go.RowKit

set_option maxRecDepth 100000 in
set_option maxHeartbeats 1600000 in
theorem cMix_any (c : Nat → Nat) (w : World) (hc : By c) :
    Calls Try.prog 32 #[.agg (rowN 4 c).toArray] w fun e w' => e = .returned (.agg (rowN 4 (mixc c)).toArray) ∧ Below w.heap.size w w' := by
  go_enter Try.func32, Try.ntmps32
  go_wp2_with (first
    | ((with_reducible refine wpList_box_blk rfl 89 (.tmp 0) rfl (rowN 4 c) ?_ ?_); rfl)
    | (with_reducible refine wpList_alloc_blk rfl 89 rfl zero4 ?_))
  obtain ⟨W0, hW0⟩ : ∃ W0, ((w.alloc (.cells (rowN 4 c).toArray 89)).alloc (.cells (rowN 4 zf).toArray 89)).alloc (.cells (rowN 4 zf).toArray 89) = W0 := ⟨_, rfl⟩
  obtain ⟨g, hg⟩ : ∃ g, w.heap.size = g := ⟨_, rfl⟩
  have hb0 : Blk W0 g 89 (rowN 4 c) := by rw [← hW0, ← hg]; exact ((Blk.new w _ _).alloc _).alloc _
  have hr0 : Blk W0 (g + 1) 89 (rowN 4 zf) := by rw [← hW0, ← hg]; exact (Blk.new1 w _ _ _).alloc _
  have ho0 : Blk W0 (g + 1 + 1) 89 (rowN 4 (upto 0 (mixc c) zf)) := by
    rw [upto_zero, ← hW0, ← hg, ← size2 w (.cells (rowN 4 c).toArray 89) (.cells (rowN 4 zf).toArray 89)]; exact Blk.new _ _ _
  have hB0 : Below g w W0 := by rw [← hW0, ← hg]; exact below3 w _ _ _
  rw [hW0, hg]
  clear hW0
  have hg := Lib.hid hg
  have hcc := Lib.hid hc
  clear hc
  go_loopw [9] (fun i wr => ∃ k : Nat, k ≤ 4 ∧ i = .int .i64 k ∧ Blk wr g 89 (rowN 4 c) ∧ Blk wr (g + 1) 89 (rowN 4 zf) ∧ Blk wr (g + 1 + 1) 89 (rowN 4 (upto k (mixc c) zf)) ∧ Below g w wr) (fun i _ => 4 - (intOf i).toNat)
  case atStart => exact ⟨0, by omega, rfl, hb0, hr0, ho0, hB0⟩
  case round =>
    obtain ⟨k, hk, rfl, hb, hr, ho, hB⟩ := hrel
    by_cases hlt : k < 4
    · have c0 := hb.cell 0
      have c1 := hb.cell 1
      have c2 := hb.cell 2
      have c3 := hb.cell 3
      rw [rowN_at 4 c 0 (by decide)] at c0
      rw [rowN_at 4 c 1 (by decide)] at c1
      rw [rowN_at 4 c 2 (by decide)] at c2
      rw [rowN_at 4 c 3 (by decide)] at c3
      obtain rfl | rfl | rfl | rfl : k = 0 ∨ k = 1 ∨ k = 2 ∨ k = 3 := by omega
      · have co := ho.cell 0
        rw [rowN_at 4 _ 0 (by decide)] at co
        have fo : wr.frozen? ⟨g + 1 + 1, 0, none⟩ = false := Blk.frozen ho 0
        have d1 : IntKind.i64.wrap 1 = 1 := by decide
        have d2 : IntKind.i64.wrap 2 = 2 := by decide
        have d3 : IntKind.i64.wrap 3 = 3 := by decide
        have m1 : (1 : Int).tmod 4 = 1 := by decide
        have m2 : (2 : Int).tmod 4 = 2 := by decide
        have m3 : (3 : Int).tmod 4 = 3 := by decide
        have h1 := fun v => fAdd_is (c 0 : Int) (c 1 : Int) (c 0 ^^^ c 1 : Nat) (c 0) (c 1) _ v rfl rfl (hcc.out _) (hcc.out _) rfl rfl
        have h2 := fun v => fTimes_is (c 0 ^^^ c 1 : Nat) (2 : Int) (tm (c 0 ^^^ c 1) 2 : Nat) (c 0 ^^^ c 1) 2 _ v rfl rfl (xor_256 (hcc.out _) (hcc.out _)) (by decide) rfl rfl
        have h3 := fun v => fAdd_is (c 2 : Int) (c 3 : Int) (c 2 ^^^ c 3 : Nat) (c 2) (c 3) _ v rfl rfl (hcc.out _) (hcc.out _) rfl rfl
        have h4 := fun v => fAdd_is (tm (c 0 ^^^ c 1) 2 : Nat) (c 1 : Int) (tm (c 0 ^^^ c 1) 2 ^^^ c 1 : Nat) _ _ _ v rfl rfl (tm_256 2 (xor_256 (hcc.out _) (hcc.out _))) (hcc.out _) rfl rfl
        have h5 := fun v => fAdd_is (tm (c 0 ^^^ c 1) 2 ^^^ c 1 : Nat) (c 2 ^^^ c 3 : Nat) (mixc c 0 : Nat) _ _ _ v rfl rfl (xor_256 (tm_256 2 (xor_256 (hcc.out _) (hcc.out _))) (hcc.out _)) (xor_256 (hcc.out _) (hcc.out _)) rfl rfl
        go_wp2_with fail
        refine wp_region_still_lit (by kernel_rfl) (by kernel_rfl) ?_
        repeat still_step
        refine wpStill_nil ?_
        change Exit.then _ _ _ _ wr.drew
        obtain ⟨v, hv, hD⟩ := Draws.one wr
        rw [hv]
        have hb := hD.blk hb
        have hr := hD.blk hr
        have ho := hD.blk ho
        have hB := hB.trans (hD.below g)
        have c0 := hD.cellW c0
        have c1 := hD.cellW c1
        have c2 := hD.cellW c2
        have c3 := hD.cellW c3
        have co := hD.cellW co
        have fo := hD.frozen fo
        have hset := (ho.set 0 (.int .u8 (mixc c 0 : Int)))
        rw [rowN_set 4 _ _ _ (by decide), upto_step _ _ _ _ rfl] at hset
        have hset := Lib.hid hset
        clear hv
        go_wp2_with fail
        refine (h1 _).mono ?_
        rintro e w' ⟨rfl, rfl⟩
        go_wp2_with fail
        refine (h2 _).mono ?_
        rintro e w' ⟨rfl, rfl⟩
        go_wp2_with fail
        refine wp_region_still_lit (by kernel_rfl) (by kernel_rfl) ?_
        repeat still_step
        still_call ((h3 _).mono fun _ _ h => ⟨h.1, h.2.symm⟩)
        repeat still_step
        refine wpStill_nil ?_
        go_wp2_with fail
        refine (h4 _).mono ?_
        rintro e w' ⟨rfl, rfl⟩
        go_wp2_with fail
        refine (h5 _).mono ?_
        rintro e w' ⟨rfl, rfl⟩
        go_wp2
        go_roundw
        case rel => exact ⟨1, by omega, by go_num, hb.far (p := ⟨g + 1 + 1, 0, none⟩) (by simp; omega) _, hr.far (p := ⟨g + 1 + 1, 0, none⟩) (by simp) _, hset.out, (hB.setCell (p := ⟨g + 1 + 1, 0, none⟩) (by simp; omega) _).drew⟩
        case measure => simp [intOf]
      · have co := ho.cell 1
        rw [rowN_at 4 _ 1 (by decide)] at co
        have fo : wr.frozen? ⟨g + 1 + 1, 1, none⟩ = false := Blk.frozen ho 1
        have d1 : IntKind.i64.wrap 2 = 2 := by decide
        have d2 : IntKind.i64.wrap 3 = 3 := by decide
        have d3 : IntKind.i64.wrap 4 = 4 := by decide
        have m1 : (2 : Int).tmod 4 = 2 := by decide
        have m2 : (3 : Int).tmod 4 = 3 := by decide
        have m3 : (4 : Int).tmod 4 = 0 := by decide
        have h1 := fun v => fAdd_is (c 1 : Int) (c 2 : Int) (c 1 ^^^ c 2 : Nat) (c 1) (c 2) _ v rfl rfl (hcc.out _) (hcc.out _) rfl rfl
        have h2 := fun v => fTimes_is (c 1 ^^^ c 2 : Nat) (2 : Int) (tm (c 1 ^^^ c 2) 2 : Nat) (c 1 ^^^ c 2) 2 _ v rfl rfl (xor_256 (hcc.out _) (hcc.out _)) (by decide) rfl rfl
        have h3 := fun v => fAdd_is (c 3 : Int) (c 0 : Int) (c 3 ^^^ c 0 : Nat) (c 3) (c 0) _ v rfl rfl (hcc.out _) (hcc.out _) rfl rfl
        have h4 := fun v => fAdd_is (tm (c 1 ^^^ c 2) 2 : Nat) (c 2 : Int) (tm (c 1 ^^^ c 2) 2 ^^^ c 2 : Nat) _ _ _ v rfl rfl (tm_256 2 (xor_256 (hcc.out _) (hcc.out _))) (hcc.out _) rfl rfl
        have h5 := fun v => fAdd_is (tm (c 1 ^^^ c 2) 2 ^^^ c 2 : Nat) (c 3 ^^^ c 0 : Nat) (mixc c 1 : Nat) _ _ _ v rfl rfl (xor_256 (tm_256 2 (xor_256 (hcc.out _) (hcc.out _))) (hcc.out _)) (xor_256 (hcc.out _) (hcc.out _)) rfl rfl
        go_wp2_with fail
        refine wp_region_still_lit (by kernel_rfl) (by kernel_rfl) ?_
        repeat still_step
        refine wpStill_nil ?_
        change Exit.then _ _ _ _ wr.drew
        obtain ⟨v, hv, hD⟩ := Draws.one wr
        rw [hv]
        have hb := hD.blk hb
        have hr := hD.blk hr
        have ho := hD.blk ho
        have hB := hB.trans (hD.below g)
        have c0 := hD.cellW c0
        have c1 := hD.cellW c1
        have c2 := hD.cellW c2
        have c3 := hD.cellW c3
        have co := hD.cellW co
        have fo := hD.frozen fo
        have hset := (ho.set 1 (.int .u8 (mixc c 1 : Int)))
        rw [rowN_set 4 _ _ _ (by decide), upto_step _ _ _ _ rfl] at hset
        have hset := Lib.hid hset
        clear hv
        go_wp2_with fail
        refine (h1 _).mono ?_
        rintro e w' ⟨rfl, rfl⟩
        go_wp2_with fail
        refine (h2 _).mono ?_
        rintro e w' ⟨rfl, rfl⟩
        go_wp2_with fail
        refine wp_region_still_lit (by kernel_rfl) (by kernel_rfl) ?_
        repeat still_step
        still_call ((h3 _).mono fun _ _ h => ⟨h.1, h.2.symm⟩)
        repeat still_step
        refine wpStill_nil ?_
        go_wp2_with fail
        refine (h4 _).mono ?_
        rintro e w' ⟨rfl, rfl⟩
        go_wp2_with fail
        refine (h5 _).mono ?_
        rintro e w' ⟨rfl, rfl⟩
        go_wp2
        go_roundw
        case rel => exact ⟨2, by omega, by go_num, hb.far (p := ⟨g + 1 + 1, 1, none⟩) (by simp; omega) _, hr.far (p := ⟨g + 1 + 1, 1, none⟩) (by simp) _, hset.out, (hB.setCell (p := ⟨g + 1 + 1, 1, none⟩) (by simp; omega) _).drew⟩
        case measure => simp [intOf]
      · have co := ho.cell 2
        rw [rowN_at 4 _ 2 (by decide)] at co
        have fo : wr.frozen? ⟨g + 1 + 1, 2, none⟩ = false := Blk.frozen ho 2
        have d1 : IntKind.i64.wrap 3 = 3 := by decide
        have d2 : IntKind.i64.wrap 4 = 4 := by decide
        have d3 : IntKind.i64.wrap 5 = 5 := by decide
        have m1 : (3 : Int).tmod 4 = 3 := by decide
        have m2 : (4 : Int).tmod 4 = 0 := by decide
        have m3 : (5 : Int).tmod 4 = 1 := by decide
        have h1 := fun v => fAdd_is (c 2 : Int) (c 3 : Int) (c 2 ^^^ c 3 : Nat) (c 2) (c 3) _ v rfl rfl (hcc.out _) (hcc.out _) rfl rfl
        have h2 := fun v => fTimes_is (c 2 ^^^ c 3 : Nat) (2 : Int) (tm (c 2 ^^^ c 3) 2 : Nat) (c 2 ^^^ c 3) 2 _ v rfl rfl (xor_256 (hcc.out _) (hcc.out _)) (by decide) rfl rfl
        have h3 := fun v => fAdd_is (c 0 : Int) (c 1 : Int) (c 0 ^^^ c 1 : Nat) (c 0) (c 1) _ v rfl rfl (hcc.out _) (hcc.out _) rfl rfl
        have h4 := fun v => fAdd_is (tm (c 2 ^^^ c 3) 2 : Nat) (c 3 : Int) (tm (c 2 ^^^ c 3) 2 ^^^ c 3 : Nat) _ _ _ v rfl rfl (tm_256 2 (xor_256 (hcc.out _) (hcc.out _))) (hcc.out _) rfl rfl
        have h5 := fun v => fAdd_is (tm (c 2 ^^^ c 3) 2 ^^^ c 3 : Nat) (c 0 ^^^ c 1 : Nat) (mixc c 2 : Nat) _ _ _ v rfl rfl (xor_256 (tm_256 2 (xor_256 (hcc.out _) (hcc.out _))) (hcc.out _)) (xor_256 (hcc.out _) (hcc.out _)) rfl rfl
        go_wp2_with fail
        refine wp_region_still_lit (by kernel_rfl) (by kernel_rfl) ?_
        repeat still_step
        refine wpStill_nil ?_
        change Exit.then _ _ _ _ wr.drew
        obtain ⟨v, hv, hD⟩ := Draws.one wr
        rw [hv]
        have hb := hD.blk hb
        have hr := hD.blk hr
        have ho := hD.blk ho
        have hB := hB.trans (hD.below g)
        have c0 := hD.cellW c0
        have c1 := hD.cellW c1
        have c2 := hD.cellW c2
        have c3 := hD.cellW c3
        have co := hD.cellW co
        have fo := hD.frozen fo
        have hset := (ho.set 2 (.int .u8 (mixc c 2 : Int)))
        rw [rowN_set 4 _ _ _ (by decide), upto_step _ _ _ _ rfl] at hset
        have hset := Lib.hid hset
        clear hv
        go_wp2_with fail
        refine (h1 _).mono ?_
        rintro e w' ⟨rfl, rfl⟩
        go_wp2_with fail
        refine (h2 _).mono ?_
        rintro e w' ⟨rfl, rfl⟩
        go_wp2_with fail
        refine wp_region_still_lit (by kernel_rfl) (by kernel_rfl) ?_
        repeat still_step
        still_call ((h3 _).mono fun _ _ h => ⟨h.1, h.2.symm⟩)
        repeat still_step
        refine wpStill_nil ?_
        go_wp2_with fail
        refine (h4 _).mono ?_
        rintro e w' ⟨rfl, rfl⟩
        go_wp2_with fail
        refine (h5 _).mono ?_
        rintro e w' ⟨rfl, rfl⟩
        go_wp2
        go_roundw
        case rel => exact ⟨3, by omega, by go_num, hb.far (p := ⟨g + 1 + 1, 2, none⟩) (by simp; omega) _, hr.far (p := ⟨g + 1 + 1, 2, none⟩) (by simp) _, hset.out, (hB.setCell (p := ⟨g + 1 + 1, 2, none⟩) (by simp; omega) _).drew⟩
        case measure => simp [intOf]
      · have co := ho.cell 3
        rw [rowN_at 4 _ 3 (by decide)] at co
        have fo : wr.frozen? ⟨g + 1 + 1, 3, none⟩ = false := Blk.frozen ho 3
        have d1 : IntKind.i64.wrap 4 = 4 := by decide
        have d2 : IntKind.i64.wrap 5 = 5 := by decide
        have d3 : IntKind.i64.wrap 6 = 6 := by decide
        have m1 : (4 : Int).tmod 4 = 0 := by decide
        have m2 : (5 : Int).tmod 4 = 1 := by decide
        have m3 : (6 : Int).tmod 4 = 2 := by decide
        have h1 := fun v => fAdd_is (c 3 : Int) (c 0 : Int) (c 3 ^^^ c 0 : Nat) (c 3) (c 0) _ v rfl rfl (hcc.out _) (hcc.out _) rfl rfl
        have h2 := fun v => fTimes_is (c 3 ^^^ c 0 : Nat) (2 : Int) (tm (c 3 ^^^ c 0) 2 : Nat) (c 3 ^^^ c 0) 2 _ v rfl rfl (xor_256 (hcc.out _) (hcc.out _)) (by decide) rfl rfl
        have h3 := fun v => fAdd_is (c 1 : Int) (c 2 : Int) (c 1 ^^^ c 2 : Nat) (c 1) (c 2) _ v rfl rfl (hcc.out _) (hcc.out _) rfl rfl
        have h4 := fun v => fAdd_is (tm (c 3 ^^^ c 0) 2 : Nat) (c 0 : Int) (tm (c 3 ^^^ c 0) 2 ^^^ c 0 : Nat) _ _ _ v rfl rfl (tm_256 2 (xor_256 (hcc.out _) (hcc.out _))) (hcc.out _) rfl rfl
        have h5 := fun v => fAdd_is (tm (c 3 ^^^ c 0) 2 ^^^ c 0 : Nat) (c 1 ^^^ c 2 : Nat) (mixc c 3 : Nat) _ _ _ v rfl rfl (xor_256 (tm_256 2 (xor_256 (hcc.out _) (hcc.out _))) (hcc.out _)) (xor_256 (hcc.out _) (hcc.out _)) rfl rfl
        go_wp2_with fail
        refine wp_region_still_lit (by kernel_rfl) (by kernel_rfl) ?_
        repeat still_step
        refine wpStill_nil ?_
        change Exit.then _ _ _ _ wr.drew
        obtain ⟨v, hv, hD⟩ := Draws.one wr
        rw [hv]
        have hb := hD.blk hb
        have hr := hD.blk hr
        have ho := hD.blk ho
        have hB := hB.trans (hD.below g)
        have c0 := hD.cellW c0
        have c1 := hD.cellW c1
        have c2 := hD.cellW c2
        have c3 := hD.cellW c3
        have co := hD.cellW co
        have fo := hD.frozen fo
        have hset := (ho.set 3 (.int .u8 (mixc c 3 : Int)))
        rw [rowN_set 4 _ _ _ (by decide), upto_step _ _ _ _ rfl] at hset
        have hset := Lib.hid hset
        clear hv
        go_wp2_with fail
        refine (h1 _).mono ?_
        rintro e w' ⟨rfl, rfl⟩
        go_wp2_with fail
        refine (h2 _).mono ?_
        rintro e w' ⟨rfl, rfl⟩
        go_wp2_with fail
        refine wp_region_still_lit (by kernel_rfl) (by kernel_rfl) ?_
        repeat still_step
        still_call ((h3 _).mono fun _ _ h => ⟨h.1, h.2.symm⟩)
        repeat still_step
        refine wpStill_nil ?_
        go_wp2_with fail
        refine (h4 _).mono ?_
        rintro e w' ⟨rfl, rfl⟩
        go_wp2_with fail
        refine (h5 _).mono ?_
        rintro e w' ⟨rfl, rfl⟩
        go_wp2
        go_roundw
        case rel => exact ⟨4, by omega, by go_num, hb.far (p := ⟨g + 1 + 1, 3, none⟩) (by simp; omega) _, hr.far (p := ⟨g + 1 + 1, 3, none⟩) (by simp) _, hset.out, (hB.setCell (p := ⟨g + 1 + 1, 3, none⟩) (by simp; omega) _).drew⟩
        case measure => simp [intOf]
    · obtain rfl : k = 4 := by omega
      have ho : Blk wr (g + 1 + 1) 89 (rowN 4 (mixc c)) := ho.cast (rowN_congr (upto_all 4 (mixc c) zf))
      have HI := row4 (mixc c)
      have HF := Lib.hid (fit4 zf (mixc c))
      have H1 := Lib.hid (rowN_one 4 (mixc c))
      go_wp2_with (first
        | ((with_reducible refine wpList_load_blk rfl 89 (.tmp 3) rfl ?_ ho row4' (rowN_len 4 _) ?_); rfl)
        | ((with_reducible refine wpList_store_part rfl 89 (.tmp 2) (.tmp 43) rfl ?_ ?_ hr HI HF.out H1.out ?_); rfl; rfl; intro w9 hR9 hg9))
      rw [over4] at hR9
      (try simp only [Exit.inBlock, Exit.then])
      refine bodyPost_ret (results_blk rfl rfl hR9 HI) rfl ?_
      refine ⟨rfl, ?_⟩
      rw [hg.out]
      exact hB.trans (below_of_grown hg9 (by omega) hr.lt)
end Go.Proofs.Ytclcnngpgbdjgaa

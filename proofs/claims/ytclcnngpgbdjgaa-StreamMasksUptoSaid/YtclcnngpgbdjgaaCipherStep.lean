/-
  A block's sum with another, its rows turned, its bytes substituted, its columns mixed or unmixed: what package cipher's inner calls come to; new memory alone is written.
-/
import Derived.Test.YtclcnngpgbdjgaaCipherMix
namespace Go.Proofs.Ytclcnngpgbdjgaa
open Go.RowKit

set_option maxRecDepth 100000 in
set_option maxHeartbeats 1600000 in
theorem cSum_any (a b : Nat → Nat) (w : World) (ha : By a) (hb : By b) :
    Calls Try.prog 27 #[.agg (rowN 16 a).toArray, .agg (rowN 16 b).toArray] w fun e w' => e = .returned (.agg (rowN 16 (bAdd a b)).toArray) ∧ Below w.heap.size w w' := by
  go_enter Try.func27, Try.ntmps27
  go_wp2_with (first
    | ((with_reducible refine wpList_box_blk rfl 42 (.tmp 0) rfl (rowN 16 a) ?_ ?_); rfl)
    | ((with_reducible refine wpList_box_blk rfl 42 (.tmp 1) rfl (rowN 16 b) ?_ ?_); rfl)
    | (with_reducible refine wpList_alloc_blk rfl 42 rfl zero16 ?_))
  obtain ⟨W0, hW0⟩ : ∃ W0, ((w.alloc (.cells (rowN 16 a).toArray 42)).alloc (.cells (rowN 16 b).toArray 42)).alloc (.cells (rowN 16 zf).toArray 42) = W0 := ⟨_, rfl⟩
  obtain ⟨g, hg⟩ : ∃ g, w.heap.size = g := ⟨_, rfl⟩
  have hx0 : Blk W0 g 42 (rowN 16 (upto 0 (bAdd a b) a)) := by rw [upto_zero, ← hW0, ← hg]; exact ((Blk.new w _ _).alloc _).alloc _
  have hy0 : Blk W0 (g + 1) 42 (rowN 16 b) := by rw [← hW0, ← hg]; exact (Blk.new1 w _ _ _).alloc _
  have hr0 : Blk W0 (g + 1 + 1) 42 (rowN 16 zf) := by
    rw [← hW0, ← hg, ← size2 w (.cells (rowN 16 a).toArray 42) (.cells (rowN 16 b).toArray 42)]; exact Blk.new _ _ _
  have hB0 : Below g w W0 := by rw [← hW0, ← hg]; exact below3 w _ _ _
  rw [hW0, hg]
  clear hW0
  have hg := Lib.hid hg
  have ha := Lib.hid ha
  have hb := Lib.hid hb
  go_loopw [6] (fun i wr => ∃ k : Nat, k ≤ 16 ∧ i = .int .i64 k ∧ Blk wr g 42 (rowN 16 (upto k (bAdd a b) a)) ∧ Blk wr (g + 1) 42 (rowN 16 b) ∧ Blk wr (g + 1 + 1) 42 (rowN 16 zf) ∧ Below g w wr) (fun i _ => 16 - (intOf i).toNat)
  case atStart => exact ⟨0, by omega, rfl, hx0, hy0, hr0, hB0⟩
  case round =>
    obtain ⟨k, hk, rfl, hx, hy, hr, hB⟩ := hrel
    by_cases hlt : k < 16
    · obtain ⟨v, hv, hD⟩ := Draws.one wr
      have hx := hD.blk hx
      have hy := hD.blk hy
      have hr := hD.blk hr
      have hB := hB.trans (hD.below g)
      have cx := hx.cell k
      have cy := hy.cell k
      rw [rowN_at 16 _ k hlt, upto_at] at cx
      rw [rowN_at 16 _ k hlt] at cy
      have fx : v.frozen? ⟨g, k, none⟩ = false := Blk.frozen hx k
      have hset := hx.set k (.int .u8 (bAdd a b k : Nat))
      rw [rowN_set 16 _ _ _ hlt, upto_step _ _ _ _ rfl] at hset
      have hset := Lib.hid hset
      have h1 := fun v => fAdd_is (a k : Int) (b k : Int) (bAdd a b k : Nat) (a k) (b k) _ v rfl rfl (ha.out _) (hb.out _) rfl rfl
      have hki : (k : Int) < 16 := by omega
      have hle := Lib.hid hlt
      clear hlt hk
      go_wp2_with fail
      refine wp_region_still_tail 9 (by kernel_rfl) (by decide +kernel) ?_
      simp only [List.take_succ_cons, List.take_zero, List.drop_succ_cons, List.drop_zero]
      change wpStill _ _ wr.drew _ _ _
      rw [hv]
      repeat still_step
      still_call ((h1 _).mono fun _ _ h => ⟨h.1, h.2.symm⟩)
      repeat still_step
      refine wpStill_nil ?_
      change wpList _ _ _ _ _ wr.drew
      rw [hv]
      clear hv
      go_wp2
      go_roundw
      case rel => exact ⟨k + 1, by have := hle.out; omega, by go_num, hset.out, hy.far (p := ⟨g, k, none⟩) (by simp) _, hr.far (p := ⟨g, k, none⟩) (by simp; omega) _, hB.setCell (p := ⟨g, k, none⟩) (Nat.le_refl _) _⟩
      case measure => have := hle.out; simp [intOf]; omega
    · obtain rfl : k = 16 := by omega
      have hx : Blk wr _ 42 (rowN 16 (bAdd a b)) := hx.cast (rowN_congr (upto_all 16 (bAdd a b) a))
      have HI := row16 (bAdd a b)
      have HF := Lib.hid (fit16 zf (bAdd a b))
      have H1 := Lib.hid (rowN_one 16 (bAdd a b))
      go_wp2_with (first
        | ((with_reducible refine wpList_load_blk rfl 42 (.tmp 2) rfl ?_ hx row16' (rowN_len 16 _) ?_); rfl)
        | ((with_reducible refine wpList_store_part rfl 42 (.tmp 4) (.tmp 19) rfl ?_ ?_ hr HI HF.out H1.out ?_); rfl; rfl; intro w9 hR9 hg9))
      rw [over16] at hR9
      (try simp only [Exit.inBlock, Exit.then])
      refine bodyPost_ret (results_blk rfl rfl hR9 HI) rfl ?_
      refine ⟨rfl, ?_⟩
      rw [hg.out]
      exact hB.trans (below_of_grown hg9 (by omega) hr.lt)
end Go.Proofs.Ytclcnngpgbdjgaa

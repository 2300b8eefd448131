/-
  A block's bytes substituted by the box of a cipher, forth and back: what the call comes to; new memory alone is written.
-/
import Derived.Test.YtclcnngpgbdjgaaCipherMem
import Derived.Test.YtclcnngpgbdjgaaCipherStep
namespace Go.Proofs.Ytclcnngpgbdjgaa
open Go.RowKit

set_option maxRecDepth 100000 in
set_option maxHeartbeats 1000000 in
theorem cSubst_sub (b : Nat → Nat) (q : Nat) (F f h : Nat → Nat) (bm m : Bool) (w : World) (hb : By b) (hC : CiAt w q F f h bm m) :
    Calls Try.prog 29 #[.agg (rowN 16 b).toArray, .func (.func 30) #[.pointer (some ⟨q, 240, none⟩)] #[]] w fun e w' => e = .returned (.agg (rowN 16 (bSb f b)).toArray) ∧ Below w.heap.size w w' := by
  go_enter Try.func29, Try.ntmps29
  have hb0 : ∀ o, Blk ((w.alloc (.cells (rowN 16 b).toArray 42)).alloc o) w.heap.size 42 (rowN 16 b) := fun o => (Blk.new w _ _).alloc _
  go_wp2_with (first
    | ((with_reducible refine wpList_box_blk rfl 42 (.tmp 0) rfl (rowN 16 b) ?_ ?_); rfl)
    | (with_reducible refine wpList_alloc_blk rfl 42 rfl zero16 ?_)
    | ((with_reducible refine wpList_load_blk rfl 42 (.tmp 2) rfl ?_ (hb0 _) row16' (rowN_len 16 _) ?_); rfl))
  obtain ⟨W0, hW0⟩ : ∃ W0, (w.alloc (.cells (rowN 16 b).toArray 42)).alloc (.cells (rowN 16 zf).toArray 42) = W0 := ⟨_, rfl⟩
  obtain ⟨g, hg⟩ : ∃ g, w.heap.size = g := ⟨_, rfl⟩
  have hx0 : Blk W0 g 42 (rowN 16 (upto 0 (bSb f b) b)) := by rw [upto_zero, ← hW0, ← hg]; exact (Blk.new w _ _).alloc _
  have hr0 : Blk W0 (g + 1) 42 (rowN 16 zf) := by rw [← hW0, ← hg]; exact Blk.new1 w _ _ _
  have hB0 : Below g w W0 := by rw [← hW0, ← hg]; exact below2 w _ _
  have hql : q < g := by rw [← hg]; exact Blk.lt hC
  rw [hW0, hg]
  clear hW0 hb0
  have hg := Lib.hid hg
  have hql := Lib.hid hql
  have hb := Lib.hid hb
  have hC := Lib.hid hC
  go_loopw [8] (fun i wr => ∃ k : Nat, k ≤ 16 ∧ i = .int .i64 k ∧ Blk wr g 42 (rowN 16 (upto k (bSb f b) b)) ∧ Blk wr (g + 1) 42 (rowN 16 zf) ∧ Below g w wr) (fun i _ => 16 - (intOf i).toNat)
  case atStart => exact ⟨0, by omega, rfl, hx0, hr0, hB0⟩
  case round =>
    obtain ⟨k, hk, rfl, hx, hr, hB⟩ := hrel
    by_cases hlt : k < 16
    · have cx := hx.cell k
      rw [rowN_at 16 _ k hlt, upto_at] at cx
      have fx : wr.frozen? ⟨g, k, none⟩ = false := Blk.frozen hx k
      have hset := hx.set k (.int .u8 (bSb f b k : Nat))
      rw [rowN_set 16 _ _ _ hlt, upto_step _ _ _ _ rfl] at hset
      have hset := Lib.hid hset
      have hat := fun wx => run_index_row (P := Try.prog) 42 5 16 Try.underlying42 (by kernel_rfl) (by kernel_rfl) (rowN 16 b).toArray .i64 k hlt (.int .u8 (b k : Int)) (by simpa using rowN_at 16 b k hlt) wx
      have hki : (k : Int) < 16 := by omega
      have hle := Lib.hid hlt
      have hCr := Lib.hid (show CiAt wr q F f h bm m from Blk.keep hC.out hB hql.out)
      clear hlt hk
      go_wp2_with fail
      refine (cSub_any q F f h bm m (b k) _ hCr.out (hb.out k)).mono ?_
      rintro e w' ⟨rfl, rfl⟩
      go_wp2
      go_roundw
      case rel => exact ⟨k + 1, by have := hle.out; omega, by go_num, hset.out, hr.far (p := ⟨g, k, none⟩) (by simp) _, hB.setCell (p := ⟨g, k, none⟩) (Nat.le_refl _) _⟩
      case measure => have := hle.out; simp [intOf]; omega
    · obtain rfl : k = 16 := by omega
      have hx : Blk wr _ 42 (rowN 16 (bSb f b)) := hx.cast (rowN_congr (upto_all 16 (bSb f b) b))
      have HI := row16 (bSb f b)
      have HF := Lib.hid (fit16 zf (bSb f b))
      have H1 := Lib.hid (rowN_one 16 (bSb f b))
      go_wp2_with (first
        | ((with_reducible refine wpList_load_blk rfl 42 (.tmp 2) rfl ?_ hx row16' (rowN_len 16 _) ?_); rfl)
        | ((with_reducible refine wpList_store_part rfl 42 (.tmp 4) (.tmp 18) rfl ?_ ?_ hr HI HF.out H1.out ?_); rfl; rfl; intro w9 hR9 hg9))
      rw [over16] at hR9
      (try simp only [Exit.inBlock, Exit.then])
      refine bodyPost_ret (results_blk rfl rfl hR9 HI) rfl ?_
      refine ⟨rfl, ?_⟩
      rw [hg.out]
      exact hB.trans (below_of_grown hg9 (by omega) hr.lt)
end Go.Proofs.Ytclcnngpgbdjgaa

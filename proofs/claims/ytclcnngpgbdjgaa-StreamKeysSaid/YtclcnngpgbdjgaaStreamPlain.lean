/-
  The block of a number (eight bytes 0, and the number in eight bytes): what the call comes to. New memory alone is written. Conditions: the number is below 2^64.
-/
import Derived.Test.YtclcnngpgbdjgaaStreamMem
namespace Go.Proofs.Ytclcnngpgbdjgaa
open Go.RowKit

/-- The last k bytes of a number's block, ahead of them 0. -/
def dn (k n : Nat) : Nat → Nat := fun i => if i < 16 - k then 0 else ctr n i
theorem dn_zero (n : Nat) : Ag 16 (dn 0 n) zf := fun i hi => by unfold dn; rw [if_pos (by omega)]; rfl
theorem dn_all (n : Nat) : Ag 16 (dn 8 n) (ctr n) := fun i hi => by
  unfold dn ctr
  by_cases h : i < 8
  · rw [if_pos (by omega), if_pos h]
  · rw [if_neg (by omega)]
theorem dn_step (k n : Nat) (hk : k < 8) : upd (dn k n) (15 - k) (n / 2 ^ (8 * k) % 256) = dn (k + 1) n := by
  funext i
  unfold upd dn ctr
  by_cases e : i = 15 - k
  · rw [if_pos e, if_neg (by omega), if_neg (by omega), show 15 - i = k by omega]
  · rw [if_neg e]
    by_cases h : i < 16 - k
    · rw [if_pos h, if_pos (by omega)]
    · rw [if_neg h, if_neg (show ¬ i < 16 - (k + 1) by omega)]

set_option maxRecDepth 100000 in
set_option maxHeartbeats 1000000 in
theorem plain_any (n : Nat) (w : World) (hn : n < 18446744073709551616) :
    Calls Try.prog 18 #[.int .u64 (n : Int)] w fun e w' => e = .returned (.agg (rowN 16 (ctr n)).toArray) ∧ Below w.heap.size w w' := by
  go_enter Try.func18, Try.ntmps18
  go_wp2_with (with_reducible refine wpList_alloc_blk rfl 42 rfl zero16 ?_)
  obtain ⟨W0, hW0⟩ : ∃ W0, (w.alloc (.cells (rowN 16 zf).toArray 42)).alloc (.cells (rowN 16 zf).toArray 42) = W0 := ⟨_, rfl⟩
  obtain ⟨g, hg⟩ : ∃ g, w.heap.size = g := ⟨_, rfl⟩
  have hr0 : Blk W0 g 42 (rowN 16 zf) := by rw [← hW0, ← hg]; exact (Blk.new w _ _).alloc _
  have hx0 : Blk W0 (g + 1) 42 (rowN 16 (dn 0 n)) := by rw [rowN_congr (dn_zero n), ← hW0, ← hg]; exact Blk.new1 w _ _ _
  have hB0 : Below g w W0 := by rw [← hW0, ← hg]; exact below2 w _ _
  rw [hW0, hg]
  clear hW0
  have hg := Lib.hid hg
  have hn := Lib.hid hn
  go_loopw [5] (fun i wr => ∃ k : Nat, k ≤ 8 ∧ i = .int .i64 k ∧ Blk wr (g + 1) 42 (rowN 16 (dn k n)) ∧ Blk wr g 42 (rowN 16 zf) ∧ Below g w wr) (fun i _ => 8 - (intOf i).toNat)
  case atStart => exact ⟨0, by omega, rfl, hx0, hr0, hB0⟩
  case round =>
    clear hx0 hr0 hB0
    obtain ⟨k, hk, rfl, hx, hr, hB⟩ := hrel
    by_cases hlt : k < 8
    · obtain ⟨m, hm⟩ : ∃ m, 15 - k = m := ⟨_, rfl⟩
      obtain ⟨j, hj⟩ : ∃ j, 8 * k = j := ⟨_, rfl⟩
      have m1 : (15 : Int) - (k : Int) = (m : Int) := by omega
      have m2 : (8 : Int) * (k : Int) = (j : Int) := by omega
      have hml : m < 16 := by omega
      have cx := hx.cell m
      rw [rowN_at 16 _ m hml] at cx
      have fx : wr.frozen? ⟨g + 1, m, none⟩ = false := Blk.frozen hx m
      have hset := hx.set m (.int .u8 (n / 2 ^ (8 * k) % 256 : Nat))
      rw [rowN_set 16 _ _ _ hml, ← hm, dn_step k n hlt, hm, hj] at hset
      have hki : (k : Int) < 8 := by omega
      have hset := Lib.hid hset
      have hlt := Lib.hid hlt
      have hmi : (m : Int) < 16 := by omega
      have hji : (j : Int) < 64 := by omega
      clear hm hj hml hk
      go_wp2
      go_roundw
      case rel => exact ⟨k + 1, by have := hlt.out; omega, by go_num, hset.out, hr.far (p := ⟨g + 1, m, none⟩) (by simp) _, hB.setCell (p := ⟨g + 1, m, none⟩) (Nat.le_succ g) _⟩
      case measure => have := hlt.out; simp [intOf]; omega
    · obtain rfl : k = 8 := by omega
      have hx : Blk wr _ 42 (rowN 16 (ctr n)) := hx.cast (rowN_congr (dn_all n))
      go_wp2_with (first
        | ((refine wpList_load16 rfl (.tmp 3) rfl ?_ hx ?_); rfl)
        | ((refine wpList_store16 (new := ctr n) rfl (.tmp 2) (.tmp 17) rfl ?_ ?_ hr ?_); rfl; rfl; intro w9 hR9 hg9))
      (try simp only [Exit.inBlock, Exit.then])
      refine bodyPost_ret (results_blk rfl rfl hR9 (row16 _)) rfl ?_
      refine ⟨rfl, ?_⟩
      rw [hg.out]
      exact hB.trans (below_of_grown hg9 (Nat.le_refl g) hr.lt)
end Go.Proofs.Ytclcnngpgbdjgaa

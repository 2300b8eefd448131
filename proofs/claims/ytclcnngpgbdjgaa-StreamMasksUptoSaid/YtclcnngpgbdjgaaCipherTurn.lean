/-
  A block's rows turned: what the call comes to; new memory alone is written.
-/
import Derived.Test.YtclcnngpgbdjgaaCipherMix
namespace Go.Proofs.Ytclcnngpgbdjgaa
open Go.RowKit

theorem quo4 (k q : Nat) (h : k / 4 = q) : (k : Int).tdiv 4 = (q : Int) ∧ (k : Int) / 4 = (q : Int) := by
  subst h
  exact ⟨Int.ofNat_tdiv k 4, (Int.natCast_ediv k 4).symm⟩
theorem rem4 (k q : Nat) (h : k % 4 = q) : (k : Int).tmod 4 = (q : Int) ∧ (k : Int) % 4 = (q : Int) := by
  subst h
  exact ⟨Int.ofNat_tmod k 4, (Int.natCast_emod k 4).symm⟩
theorem tix_arith (q r m s x : Nat) (hm : m < 16) (hq : q < 4) (hr : r < 4) (hs : (q + m) % 4 = s) (hx : x = s * 4 + r) :
    (((q : Int) + (m : Int)).tmod 4 = (s : Int) ∧ ((q : Int) + (m : Int)) % 4 = (s : Int)) ∧ (s : Int) * 4 + (r : Int) = (x : Int) ∧ wrap64 (m : Int) = (m : Int) ∧ wrap64 ((q : Int) + (m : Int)) = (q : Int) + (m : Int) ∧ wrap64 ((s : Int) * 4) = (s : Int) * 4 ∧ wrap64 (x : Int) = (x : Int) ∧ (x : Int) < 16 := by
  have h4 : s < 4 := by rw [← hs]; exact Nat.mod_lt _ (by decide)
  have h16 : x < 16 := by omega
  refine ⟨?_, by omega, w64' _ (by omega) (by omega), w64' _ (by omega) (by omega), w64' _ (by omega) (by omega), w64' _ (by omega) (by omega), by omega⟩
  rw [← Int.natCast_add]
  exact rem4 (q + m) s hs

set_option maxRecDepth 100000 in
set_option maxHeartbeats 400000 in
theorem cTurned_any (b : Nat → Nat) (t : Nat) (w : World) (ht : t < 4) :
    Calls Try.prog 28 #[.agg (rowN 16 b).toArray, .int .i64 (t : Int)] w fun e w' => e = .returned (.agg (rowN 16 (bTurn t b)).toArray) ∧ Below w.heap.size w w' := by
  go_enter Try.func28, Try.ntmps28
  go_wp2_with (first
    | ((with_reducible refine wpList_box_blk rfl 42 (.tmp 0) rfl (rowN 16 b) ?_ ?_); rfl)
    | (with_reducible refine wpList_alloc_blk rfl 42 rfl zero16 ?_))
  obtain ⟨W0, hW0⟩ : ∃ W0, ((w.alloc (.cells (rowN 16 b).toArray 42)).alloc (.cells (rowN 16 zf).toArray 42)).alloc (.cells (rowN 16 zf).toArray 42) = W0 := ⟨_, rfl⟩
  obtain ⟨g, hg⟩ : ∃ g, w.heap.size = g := ⟨_, rfl⟩
  have hy0 : Blk W0 g 42 (rowN 16 b) := by rw [← hW0, ← hg]; exact ((Blk.new w _ _).alloc _).alloc _
  have hr0 : Blk W0 (g + 1) 42 (rowN 16 zf) := by rw [← hW0, ← hg]; exact (Blk.new1 w _ _ _).alloc _
  have hx0 : Blk W0 (g + 1 + 1) 42 (rowN 16 (upto 0 (bTurn t b) zf)) := by
    rw [upto_zero, ← hW0, ← hg, ← size2 w (.cells (rowN 16 b).toArray 42) (.cells (rowN 16 zf).toArray 42)]; exact Blk.new _ _ _
  have hB0 : Below g w W0 := by rw [← hW0, ← hg]; exact below3 w _ _ _
  rw [hW0, hg]
  clear hW0
  have hg := Lib.hid hg
  have ht := Lib.hid ht
  go_loopw [9] (fun i wr => ∃ k : Nat, k ≤ 16 ∧ i = .int .i64 k ∧ Blk wr (g + 1 + 1) 42 (rowN 16 (upto k (bTurn t b) zf)) ∧ Blk wr g 42 (rowN 16 b) ∧ Blk wr (g + 1) 42 (rowN 16 zf) ∧ Below g w wr) (fun i _ => 16 - (intOf i).toNat)
  case atStart => exact ⟨0, by omega, rfl, hx0, hy0, hr0, hB0⟩
  case round =>
    obtain ⟨k, hk, rfl, hx, hy, hr, hB⟩ := hrel
    by_cases hlt : k < 16
    · have cx := hx.cell k
      have cy := hy.cell (tIx t k)
      rw [rowN_at 16 _ k hlt, upto_at] at cx
      rw [rowN_at 16 _ _ (tIx_lt t k)] at cy
      have fx : wr.frozen? ⟨g + 1 + 1, k, none⟩ = false := Blk.frozen hx k
      have hset := hx.set k (.int .u8 (bTurn t b k : Nat))
      rw [rowN_set 16 _ _ _ hlt, upto_step _ _ _ _ rfl] at hset
      have hki : (k : Int) < 16 := by omega
      have hle := Lib.hid hlt
      obtain ⟨x, hxx⟩ : ∃ x, tIx t k = x := ⟨_, rfl⟩
      have htt := ht.out
      obtain ⟨q, hq⟩ : ∃ q, k / 4 = q := ⟨_, rfl⟩
      obtain ⟨r, hr'⟩ : ∃ r, k % 4 = r := ⟨_, rfl⟩
      obtain ⟨m, hm⟩ : ∃ m, r * t = m := ⟨_, rfl⟩
      have hmm : m < 16 := by
        have : r * t ≤ 3 * 3 := Nat.mul_le_mul (by omega) (by omega)
        omega
      have hmi : (r : Int) * (t : Int) = (m : Int) := by rw [← hm]; exact (Int.natCast_mul _ _).symm
      obtain ⟨s, hs⟩ : ∃ s, (q + m) % 4 = s := ⟨_, rfl⟩
      have hxe : x = s * 4 + r := by rw [← hxx, ← hs, ← hm, ← hr', ← hq, tIx]
      rw [hxx] at cy
      rw [show bTurn t b k = b x by rw [← hxx]; rfl] at hset
      have hset := Lib.hid hset
      obtain ⟨q1, q2⟩ := quo4 k q hq
      obtain ⟨q3, q4⟩ := rem4 k r hr'
      obtain ⟨⟨q5, q6⟩, q7, w1, w2, w3, w4, x1⟩ := tix_arith q r m s x hmm (by clear q1 q2 q3 q4 hmi hxe hs hmm; omega) (by clear q1 q2 q3 q4 hmi hxe hs hmm; omega) hs hxe
      clear hs hq hr' hxe hm hmm hxx
      clear hlt hk htt
      have hX : wrap64 (wrap64 ((wrap64 ((k : Int) / 4 + wrap64 ((k : Int) % 4 * (t : Int)))).tmod 4 * 4) + (k : Int) % 4) = (x : Int) := by
        rw [q2, q4, hmi, w1, w2, q5, w3, q7, w4]
      clear q1 q2 q3 q4 q5 q6 q7 w1 w2 w3 w4 hmi
      go_wp2
      go_roundw
      case rel => exact ⟨k + 1, by have := hle.out; omega, by go_num, hset.out, hy.far (p := ⟨g + 1 + 1, k, none⟩) (by simp; omega) _, hr.far (p := ⟨g + 1 + 1, k, none⟩) (by simp) _, hB.setCell (p := ⟨g + 1 + 1, k, none⟩) (by simp; omega) _⟩
      case measure => have := hle.out; simp [intOf]; omega
    · obtain rfl : k = 16 := by omega
      have hx : Blk wr _ 42 (rowN 16 (bTurn t b)) := hx.cast (rowN_congr (upto_all 16 (bTurn t b) zf))
      have HI := row16 (bTurn t b)
      have HF := Lib.hid (fit16 zf (bTurn t b))
      have H1 := Lib.hid (rowN_one 16 (bTurn t b))
      go_wp2_with (first
        | ((with_reducible refine wpList_load_blk rfl 42 (.tmp 5) rfl ?_ hx row16' (rowN_len 16 _) ?_); rfl)
        | ((with_reducible refine wpList_store_part rfl 42 (.tmp 4) (.tmp 30) rfl ?_ ?_ hr HI HF.out H1.out ?_); rfl; rfl; intro w9 hR9 hg9))
      rw [over16] at hR9
      (try simp only [Exit.inBlock, Exit.then])
      refine bodyPost_ret (results_blk rfl rfl hR9 HI) rfl ?_
      refine ⟨rfl, ?_⟩
      rw [hg.out]
      exact hB.trans (below_of_grown hg9 (by omega) hr.lt)
end Go.Proofs.Ytclcnngpgbdjgaa

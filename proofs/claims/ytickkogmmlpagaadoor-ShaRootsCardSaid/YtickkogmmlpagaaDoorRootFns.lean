/-
  What the document's test of a root, its search for a prime, and package sha's Constant and Start come to. Conditions: of the test: the power is 2 or 3, the number is below 2^40; of the prime: its place is below 64.
-/
import Derived.Test.YtickkogmmlpagaaDoorRootDig
import Derived.Test.YtickkogmmlpagaaDoorShaTake
namespace Go.Proofs.YtickkogmmlpagaaDoor
open Go.RowKit

theorem top_set (p : Int) (K : Nat) : (List.replicate (2 * K + 1) (Value.int .u64 0)).set (2 * K) (.int .u64 p) = (topOf p K).map (Value.int .u64) := by
  unfold topOf
  rw [List.replicate_succ', List.set_append_right _ _ (by rw [List.length_replicate]; omega), List.length_replicate, Nat.sub_self, List.set_cons_zero, List.map_append, List.map_replicate]; rfl
theorem top_length (p : Int) (K : Nat) : (topOf p K).length = 2 * K + 1 := by simp [topOf]
theorem pow_len3 (n : Int) (j : Nat) (h : 1 ≤ j) : (powOf (digitsOf n) (j - 1)).length = 3 * j := by
  rw [powOf_length, show j - 1 + 1 = j from by omega]; show j * 3 = _; omega

set_option maxHeartbeats 1600000 in
theorem root_any (n p : Int) (K : Nat) (w : World) (h0 : 0 ≤ n) (h1 : n < 1099511627776) (hK2 : 2 ≤ K) (hK3 : K ≤ 3) :
    Calls Tryd.prog 19 #[.int .u64 n, .int .u64 p, .int .i64 K] w fun e w' => e = .returned (.bool (rootOf n p K)) ∧ Below w.heap.size w w' := by
  obtain ⟨i0, hi, hz0, hz1, hz2⟩ := info_parts infoU64
  have hKl : (2 : Int) ≤ (K : Int) := by omega
  have hKh : (K : Int) ≤ 3 := by omega
  have kn : (2 * (K : Int)).toNat = 2 * K := by omega
  obtain ⟨G, hG⟩ : ∃ G, G = w.heap.size := ⟨_, rfl⟩
  have HG := Lib.hid hG
  clear hG
  go_enter Tryd.func19, Tryd.ntmps19
  go_wp2_with (at_make; refine wpList_make_two rfl (.tmp 15) (.tmp 15) 59 rfl w.heap.size 34 i0 (.int .u64 0) Tryd.underlying59 hi hz0 hz1 rfl rfl rfl (n := 2 * K + 1) (C := 2 * K + 1) ?_ ?_ ?_ ?_ ?_ (Nat.le_refl _) ?_; omega; omega; exact Nat.le_refl _; (rw [hz2]; omega); (unfold maxLen; omega); intro w1 hown1 hblk1 hgr1; rw [← HG.out] at hown1 hblk1 ⊢; have c1 := hblk1.cell (2 * K); have f1 := hblk1.frozen (2 * K); rw [List.getElem?_replicate, if_pos (by omega)] at c1)
  have hv1 : Blk (w1.setCell ⟨G, 2 * K, none⟩ (.int .u64 p)) G 34 ((topOf p K).map (Value.int .u64)) := (hblk1.set (2 * K) _).cast (top_set p K)
  have hGw : G ≤ w.heap.size := by rw [HG.out]; exact Nat.le_refl _
  have b0 : Below G w w1 := (Below.refl G w).grown hgr1 hGw (by simp)
  have b1 : Below G w (w1.setCell ⟨G, 2 * K, none⟩ (.int .u64 p)) := b0.setCell (Nat.le_refl _) _
  clear b0
  generalize w1.setCell ⟨G, 2 * K, none⟩ (.int .u64 p) = w2 at hv1 b1 ⊢
  clear hown1 hblk1 hgr1 c1 f1
  refine (digits_any n w2 h0 (by omega)).mono ?_
  rintro e w3 ⟨la, lc, rfl, L3, b3⟩
  have hv3 := hv1.keep b3 hv1.lt
  have b13 := b1.trans (b3.mono (Nat.le_trans hGw b1.size))
  clear hv1 b3
  go_wp2_with fail
  refine (digits_any (n + 1) w3 (by omega) (by omega)).mono ?_
  rintro e w4 ⟨ha, hc, rfl, H4, b4⟩
  have L4 := L3.keep b4
  have hv4 := hv3.keep b4 hv3.lt
  have b14 := b13.trans (b4.mono (Nat.le_trans hGw b13.size))
  clear hv3 b4 b13 L3 b1
  have hT4 : Ints .u64 w4 (some ⟨G, 0, none⟩) (2 * K + 1) (2 * K + 1) (topOf p K) :=
    Ints.of_blk hv4 (top_length p K) (Nat.le_refl _) (fun i hi => by rw [Nat.zero_add]; exact getElem?_mapInt _ _ _ (by rw [top_length]; exact hi))
  clear hv4
  go_wp2_with fail
  go_loopw [10, 11, 12] (fun va vb i wr => ∃ (j : Nat) (A : Option Addr) (ca : Nat) (B : Option Addr) (cb : Nat), 1 ≤ j ∧ j ≤ K ∧ i = .int .i64 j ∧ va = .slice A (3 * j) ca ∧ vb = .slice B (3 * j) cb ∧ Ints .u64 wr A (3 * j) ca (powOf (digitsOf n) (j - 1)) ∧ Ints .u64 wr B (3 * j) cb (powOf (digitsOf (n + 1)) (j - 1)) ∧ Below w4.heap.size w4 wr) (fun _ _ i _ => K - (intOf i).toNat)
  case atStart => exact ⟨1, la, lc, ha, hc, Nat.le_refl _, by omega, rfl, rfl, rfl, L4, H4, Below.refl _ _⟩
  case round =>
    obtain ⟨j, A, ca, B, cb, hj1, hj, rfl, rfl, rfl, IA, IB, hb⟩ := hrel
    by_cases hlt : j < K
    · have hltI : (j : Int) < (K : Int) := by omega
      have hj2 : j = 1 ∨ j = 2 := by omega
      go_wp2_with fail
      refine (times_any A (3 * j) ca _ la 3 lc _ wr IA (L4.keep hb) (by omega) (by omega) (by omega) (by omega)).mono ?_
      rintro e w5 ⟨A5, ca5, rfl, IA5, b5⟩
      have IB5 := IB.keep b5
      have hb5 := hb.trans (b5.mono hb.size)
      clear IA IB b5 hb
      go_wp2_with fail
      refine (times_any B (3 * j) cb _ ha 3 hc _ w5 IB5 (H4.keep hb5) (by omega) (by omega) (by omega) (by omega)).mono ?_
      rintro e w6 ⟨B6, cb6, rfl, IB6, b6⟩
      have IA6 := IA5.keep b6
      have hb6 := hb5.trans (b6.mono hb5.size)
      clear IA5 IB5 b6 hb5
      go_wp2_with fail
      go_roundw
      case rel =>
        refine ⟨j + 1, A5, ca5, B6, cb6, by omega, by omega, by go_num, rfl, rfl, ?_, ?_, hb6⟩
        · rw [show j + 1 - 1 = (j - 1) + 1 from by omega]; exact IA6
        · rw [show j + 1 - 1 = (j - 1) + 1 from by omega]; exact IB6
      case measure => simp [intOf] <;> omega
    · obtain rfl : K = j := by omega
      have hge : (K : Int) ≤ (K : Int) := Int.le_refl _
      obtain ⟨X, hX⟩ : ∃ X, X = mostOf (powOf (digitsOf n) (K - 1)) (topOf p K) (3 * K) := ⟨_, rfl⟩
      obtain ⟨Y, hY⟩ : ∃ Y, Y = mostOf (powOf (digitsOf (n + 1)) (K - 1)) (topOf p K) (3 * K) := ⟨_, rfl⟩
      have RT := Lib.hid (show rootOf n p K = (X && !Y) by rw [hX, hY]; rfl)
      have HX := Lib.hid hX
      have HY := Lib.hid hY
      have hbG : Below G w wr := b14.trans (hb.mono (Nat.le_trans hGw b14.size))
      have hTr := hT4.keep hb
      clear hX hY hT4
      go_wp2_with fail
      refine (most_any A (3 * K) ca _ (some ⟨G, 0, none⟩) (2 * K + 1) (2 * K + 1) _ wr IA hTr (by omega) (by omega) (by omega)).mono ?_
      rintro e w7 ⟨rfl, rfl⟩
      rw [← HX.out]
      cases X
      · go_wp2_with fail
        go_ret
        exact ⟨by rw [RT.out]; rfl, by rw [← HG.out]; exact hbG⟩
      · go_wp2_with fail
        refine (most_any B (3 * K) cb _ (some ⟨G, 0, none⟩) (2 * K + 1) (2 * K + 1) _ wr IB hTr (by omega) (by omega) (by omega)).mono ?_
        rintro e w8 ⟨rfl, rfl⟩
        rw [← HY.out]
        go_wp2_with fail
        go_ret
        exact ⟨by rw [RT.out]; rfl, by rw [← HG.out]; exact hbG⟩

theorem seek_facts (k : Nat) (hk : k < 64) :
    (∀ t, t < prSteps k → (seekTo (primes.getD k 0 + 1) t).2 * (seekTo (primes.getD k 0 + 1) t).2 ≤ (seekTo (primes.getD k 0 + 1) t).1 ∧ 1 ≤ (seekTo (primes.getD k 0 + 1) t).2 ∧ (seekTo (primes.getD k 0 + 1) t).2 ≤ 400 ∧ (seekTo (primes.getD k 0 + 1) t).1 ≤ 400)
    ∧ (seekTo (primes.getD k 0 + 1) (prSteps k)).1 < (seekTo (primes.getD k 0 + 1) (prSteps k)).2 * (seekTo (primes.getD k 0 + 1) (prSteps k)).2 ∧ (seekTo (primes.getD k 0 + 1) (prSteps k)).2 ≤ 400 ∧ (seekTo (primes.getD k 0 + 1) (prSteps k)).1 = primes.getD (k + 1) 0 := by
  have h := List.all_eq_true.1 seek_all k (List.mem_range.2 hk)
  unfold seekOk at h
  simp only [Bool.and_eq_true, decide_eq_true_eq, List.all_eq_true, List.mem_range] at h
  obtain ⟨⟨⟨h1, h2⟩, h3⟩, h4⟩ := h
  exact ⟨fun t ht => by obtain ⟨⟨⟨a, b⟩, c⟩, d⟩ := h1 t ht; exact ⟨a, b, c, d⟩, h2, h3, h4⟩
theorem primes_small (k : Nat) (hk : k < 65) : primes.getD k 0 ≤ 311 := by
  have h : (List.range 65).all (fun k => decide (primes.getD k 0 ≤ 311)) = true := by decide +kernel
  simpa using List.all_eq_true.1 h k (List.mem_range.2 hk)

set_option maxHeartbeats 800000 in
theorem prime_any (i : Nat) (w : World) (hi : i < 64) :
    Calls Tryd.prog 18 #[.int .i64 i] w fun e w' => e = .returned (.int .u64 (primes.getD (i + 1) 0 : Nat)) ∧ w = w' := by
  go_enter Tryd.func18, Tryd.ntmps18
  go_wp2_with fail
  go_loop [3, 4] (fun nv kv => ∃ k : Nat, k ≤ i + 1 ∧ kv = .int .i64 k ∧ nv = .int .u64 (primes.getD k 0 : Nat)) (fun _ kv => i + 1 - (intOf kv).toNat)
  case atStart => exact ⟨0, Nat.zero_le _, rfl, rfl⟩
  case round =>
    obtain ⟨k, hk, rfl, rfl⟩ := hrel
    by_cases hlt : k ≤ i
    · have hltI : (k : Int) ≤ (i : Int) := by omega
      have SF := Lib.hid (seek_facts k (by omega))
      have PS := primes_small k (by omega)
      obtain ⟨P, hP⟩ : ∃ P, P = primes.getD k 0 := ⟨_, rfl⟩
      rw [← hP] at SF PS ⊢
      clear hP
      go_wp2_with fail
      go_loop [3, 5] (fun nv dv => ∃ t : Nat, t ≤ prSteps k ∧ nv = .int .u64 ((seekTo (P + 1) t).1 : Nat) ∧ dv = .int .u64 ((seekTo (P + 1) t).2 : Nat)) (fun nv dv => (401 - (intOf nv).toNat) * 1000 + (1000 - (intOf dv).toNat))
      case atStart => exact ⟨0, Nat.zero_le _, by go_num, rfl⟩
      case round =>
        obtain ⟨t, ht, rfl, rfl⟩ := hrel
        have ST := Lib.hid (show seekTo (P + 1) (t + 1) = seek (seekTo (P + 1) t) from rfl)
        by_cases htl : t < prSteps k
        · obtain ⟨f1, f2, f3, f4⟩ := SF.out.1 t htl
          obtain ⟨⟨n, d⟩, hnd⟩ : ∃ s, s = seekTo (P + 1) t := ⟨_, rfl⟩
          rw [← hnd] at f1 f2 f3 f4 ST ⊢
          dsimp only at f1 f2 f3 f4 ⊢
          clear hnd
          obtain ⟨q, hq⟩ : ∃ q, q = d * d := ⟨_, rfl⟩
          have hqq : (d : Int) * (d : Int) = (q : Int) := by rw [hq]; push_cast; rfl
          have hqn : (q : Int) ≤ (n : Int) := by omega
          have hnI : (n : Int) ≤ 400 := by omega
          have hdI : (d : Int) ≤ 400 := by omega
          have hd1 : (1 : Int) ≤ (d : Int) := by omega
          have hnn : (0 : Int) ≤ (n : Int) := by omega
          clear hq f1
          by_cases hr : n % d = 0
          · have hrI : (n : Int) % (d : Int) = 0 := by omega
            go_wp2_with fail
            go_round
            case rel => exact ⟨t + 1, by omega, by rw [ST.out]; unfold seek; rw [if_pos hr]; go_num, by rw [ST.out]; unfold seek; rw [if_pos hr]; rfl⟩
            case measure => simp [intOf] <;> omega
          · have hrI : ¬ (n : Int) % (d : Int) = 0 := by omega
            go_wp2_with fail
            go_round
            case rel => exact ⟨t + 1, by omega, by rw [ST.out]; unfold seek; rw [if_neg hr], by rw [ST.out]; unfold seek; rw [if_neg hr]; go_num⟩
            case measure => simp [intOf] <;> omega
        · obtain rfl : prSteps k = t := by omega
          obtain ⟨-, f1, f2, f3⟩ := SF.out
          obtain ⟨⟨n, d⟩, hnd⟩ : ∃ s, s = seekTo (P + 1) (prSteps k) := ⟨_, rfl⟩
          rw [← hnd] at f1 f2 f3 ⊢
          dsimp only at f1 f2 f3 ⊢
          subst f3
          have PN := primes_small (k + 1) (by omega)
          obtain ⟨n, hn⟩ : ∃ n, n = primes.getD (k + 1) 0 := ⟨_, rfl⟩
          rw [← hn] at f1 PN ⊢
          have HN := Lib.hid hn
          clear hnd hn
          obtain ⟨q, hq⟩ : ∃ q, q = d * d := ⟨_, rfl⟩
          have hqb : q ≤ 160000 := by rw [hq]; exact Nat.mul_le_mul f2 f2
          have hqq : (d : Int) * (d : Int) = (q : Int) := by rw [hq]; push_cast; rfl
          have hqn : (n : Int) < (q : Int) := by omega
          have hqI : (q : Int) ≤ 160000 := by omega
          have hdI : (d : Int) ≤ 400 := by omega
          clear hq f1
          go_wp2_with fail
          go_round
          case rel => exact ⟨k + 1, by omega, by go_num, by rw [← HN.out]⟩
          case measure => simp [intOf] <;> omega
    · obtain rfl : k = i + 1 := by omega
      have hgt : (i : Int) < ((i + 1 : Nat) : Int) := by omega
      go_wp2_with fail
      go_ret
      exact ⟨rfl, rfl⟩

theorem constant_any (n : Nat) (w : World) (hG : Glob w) (hn : n < 64) :
    Calls Tryd.prog 16 #[.int .i64 n] w fun e w' => e = .returned (.tuple #[.int .u32 (kW.getD n 0), .bool true]) ∧ w = w' := by
  have hc := hG.k n hn
  have h1 : (0 : Int) ≤ (n : Int) := by omega
  have h2 : (n : Int) < 64 := by omega
  go_enter Tryd.func16, Tryd.ntmps16
  go_wp2_with fail
  go_ret2
  exact ⟨rfl, rfl⟩
theorem constant_no (a : Int) (w : World) (hn : a < 0 ∨ 64 ≤ a) :
    Calls Tryd.prog 16 #[.int .i64 a] w fun e w' => e = .returned (.tuple #[.int .u32 0, .bool false]) ∧ w = w' := by
  go_enter Tryd.func16, Tryd.ntmps16
  rcases hn with h | h
  · go_wp2_with fail
    go_ret2
    exact ⟨rfl, rfl⟩
  · have h' : ¬ a < 0 := by omega
    go_wp2_with fail
    go_ret2
    exact ⟨rfl, rfl⟩
theorem start_any (n : Nat) (w : World) (hG : Glob w) (hn : n < 8) :
    Calls Tryd.prog 17 #[.int .i64 n] w fun e w' => e = .returned (.tuple #[.int .u32 (starts8.list.getD n 0), .bool true]) ∧ w = w' := by
  have hc := hG.s n hn
  have h1 : (0 : Int) ≤ (n : Int) := by omega
  have h2 : (n : Int) < 8 := by omega
  go_enter Tryd.func17, Tryd.ntmps17
  go_wp2_with fail
  go_ret2
  exact ⟨rfl, rfl⟩
theorem start_no (a : Int) (w : World) (hn : a < 0 ∨ 8 ≤ a) :
    Calls Tryd.prog 17 #[.int .i64 a] w fun e w' => e = .returned (.tuple #[.int .u32 0, .bool false]) ∧ w = w' := by
  go_enter Tryd.func17, Tryd.ntmps17
  rcases hn with h | h
  · go_wp2_with fail
    go_ret2
    exact ⟨rfl, rfl⟩
  · have h' : ¬ a < 0 := by omega
    go_wp2_with fail
    go_ret2
    exact ⟨rfl, rfl⟩
end Go.Proofs.YtickkogmmlpagaaDoor

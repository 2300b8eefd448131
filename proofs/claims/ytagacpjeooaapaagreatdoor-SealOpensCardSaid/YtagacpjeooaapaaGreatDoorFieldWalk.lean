/-
  What the calls of package field come to: sums, products, powers of any exponent, inverses, orders. Conditions: elements are numbers below 256; an exponent is an int.
-/
import Derived.Test.YtagacpjeooaapaaGreatDoorFieldMath
import Derived.Test.YtagacpjeooaapaaGreatDoorRows
import Derived.WalkSpells
import Derived.Lib.Hide
import Derived.WalkLawsBesides
namespace Go.Proofs.YtagacpjeooaapaaGreatDoor
open Go.RowKit

theorem ofInt_toNat (w a : Nat) (h : a < 2 ^ w) : (BitVec.ofInt w (a : Int)).toNat = a := by
  rw [BitVec.ofInt_natCast, BitVec.toNat_ofNat, Nat.mod_eq_of_lt h]
theorem bits_xor8 (a b : Nat) (ha : a < 256) (hb : b < 256) : bits .xor .u8 (a : Int) (b : Int) = ((a ^^^ b : Nat) : Int) := by
  show IntKind.u8.wrap (((BitVec.ofInt 8 (a : Int)) ^^^ (BitVec.ofInt 8 (b : Int))).toNat : Int) = _
  rw [BitVec.toNat_xor, ofInt_toNat 8 a ha, ofInt_toNat 8 b hb, IntKind.wrap_u8]
  have := xor_256 ha hb
  omega
theorem bits_and8 (a b : Nat) (ha : a < 256) (hb : b < 256) : bits .and .u8 (a : Int) (b : Int) = ((a &&& b : Nat) : Int) := by
  show IntKind.u8.wrap (((BitVec.ofInt 8 (a : Int)) &&& (BitVec.ofInt 8 (b : Int))).toNat : Int) = _
  rw [BitVec.toNat_and, ofInt_toNat 8 a ha, ofInt_toNat 8 b hb, IntKind.wrap_u8]
  have : a &&& b ≤ a := Nat.and_le_left
  omega
theorem and8_one (b k : Nat) (hb : b < 256) : bits .and .u8 ((b : Int) / 2 ^ k) 1 = ((b / 2 ^ k % 2 : Nat) : Int) := by
  have h : b / 2 ^ k < 256 := Nat.lt_of_le_of_lt (Nat.div_le_self _ _) hb
  have := bits_and8 (b / 2 ^ k) 1 h (by decide)
  rw [Nat.and_one_is_mod] at this
  rw [← this]
  congr 1
theorem and8_top : ∀ a < 256, a &&& 128 = if a / 128 % 2 = 1 then 128 else 0 := by decide +kernel
theorem nx_low : ∀ a < 256, a / 128 % 2 = 0 → a * 2 % 256 = nx a := by decide +kernel
theorem nx_high : ∀ a < 256, a / 128 % 2 = 1 → (a * 2 % 256) ^^^ 27 = nx a := by decide +kernel
theorem ret_u8 {a b : Int} (h : a = b) : Ending.returned (.int .u8 a) = .returned (.int .u8 b) := by rw [h]

set_option maxRecDepth 100000 in
set_option maxHeartbeats 400000 in
theorem fAdd_any (a b : Nat) (w : World) (ha : a < 256) (hb : b < 256) :
    Calls Tryz.prog 93 #[.int .u8 (a : Int), .int .u8 (b : Int)] w fun e w' => e = .returned (.int .u8 ((a ^^^ b : Nat) : Int)) ∧ w = w' := by
  have h := bits_xor8 a b ha hb
  go_enter Tryz.func93, Tryz.ntmps93
  go_wp2
  go_ret
  exact ⟨rfl, rfl⟩

theorem fAdd_of (x y : Int) (a b : Nat) (w : World) (hx : x = a) (hy : y = b) (ha : a < 256) (hb : b < 256) :
    Calls Tryz.prog 93 #[.int .u8 x, .int .u8 y] w fun e w' => e = .returned (.int .u8 ((a ^^^ b : Nat) : Int)) ∧ w = w' := by
  subst hx; subst hy; exact fAdd_any a b w ha hb

theorem tr_one (n a b p : Nat) (h : b % 2 = 1) : (p ^^^ a) ^^^ tr n (nx a) (b / 2) = p ^^^ tr (n + 1) a b := by
  simp only [tr, if_pos h]; rw [Nat.xor_assoc]
theorem tr_none (n a b p : Nat) (h : ¬ b % 2 = 1) : p ^^^ tr n (nx a) (b / 2) = p ^^^ tr (n + 1) a b := by
  simp only [tr, if_neg h]; rw [Nat.zero_xor]

set_option maxRecDepth 100000 in
set_option maxHeartbeats 400000 in
theorem fShifted_any (a : Nat) (w : World) (ha : a < 256) :
    Calls Tryz.prog 108 #[.int .u8 (a : Int)] w fun e w' => e = .returned (.int .u8 (nx a : Int)) ∧ w = w' := by
  have h : bits .and .u8 (a : Int) 128 = ((if a / 128 % 2 = 1 then 128 else 0 : Nat) : Int) := by rw [← and8_top a ha]; exact bits_and8 a 128 ha (by decide)
  by_cases ht : a / 128 % 2 = 1
  · rw [if_pos ht, show ((128 : Nat) : Int) = 128 from rfl] at h
    have hn := Lib.hid (nx_high a ha ht)
    go_enter Tryz.func108, Tryz.ntmps108
    go_wp2_with (go_at_call 93; refine (fAdd_of _ _ (a * 2 % 256) 27 _ (by omega) (by omega) (by omega) (by omega)).mono ?_; rintro e w' ⟨rfl, rfl⟩)
    go_ret
    exact ⟨ret_u8 (by rw [hn.out]), rfl⟩
  · rw [if_neg ht, show ((0 : Nat) : Int) = 0 from rfl] at h
    have hn := Lib.hid (nx_low a ha (by omega))
    go_enter Tryz.func108, Tryz.ntmps108
    go_wp2
    go_ret
    refine ⟨ret_u8 ?_, rfl⟩
    rw [← hn.out]
    omega

set_option maxRecDepth 100000 in
set_option maxHeartbeats 400000 in
theorem fTimes_any (a b : Nat) (w : World) (ha : a < 256) (hb : b < 256) :
    Calls Tryz.prog 94 #[.int .u8 (a : Int), .int .u8 (b : Int)] w fun e w' => e = .returned (.int .u8 (tm a b : Int)) ∧ w = w' := by
  have H := Lib.hid hb
  go_enter Tryz.func94, Tryz.ntmps94
  go_wp2
  go_loop [0, 5, 7] (fun x p i => ∃ k a' p' : Nat, k ≤ 8 ∧ i = .int .i64 k ∧ x = .int .u8 a' ∧ p = .int .u8 p' ∧ a' < 256 ∧ p' < 256 ∧ p' ^^^ tr (8 - k) a' (b / 2 ^ k) = tm a b) (fun _ _ i => 8 - (intOf i).toNat)
  case atStart => exact ⟨0, a, 0, by omega, rfl, rfl, rfl, ha, by omega, by simp [tm]⟩
  case round =>
    obtain ⟨k, a', p', hk, rfl, rfl, rfl, ha', hp', hinv⟩ := hrel
    have hinv := Lib.hid hinv
    by_cases hlt : k < 8
    · have hn := nx_256 a' ha'
      have hx := xor_256 hp' ha'
      have hd := Lib.hid (show b / 2 ^ (k + 1) = b / 2 ^ k / 2 from by rw [Nat.pow_succ, Nat.div_div_eq_div_mul])
      have h8 := Lib.hid (show 8 - k = 8 - (k + 1) + 1 from by omega)
      by_cases ht : b / 2 ^ k % 2 = 1
      · have hbit : bits .and .u8 ((b : Int) / 2 ^ k) 1 = 1 := by rw [and8_one b k hb, ht]; rfl
        go_wp2_with (first
          | (go_at_call 93; refine (fAdd_any _ _ _ hp' ha').mono ?_; rintro e w' ⟨rfl, rfl⟩)
          | (go_at_call 108; refine (fShifted_any _ _ ha').mono ?_; rintro e w' ⟨rfl, rfl⟩))
        go_round
        case rel => exact ⟨k + 1, nx a', p' ^^^ a', by omega, by go_num, rfl, rfl, hn, hx, by rw [hd.out, tr_one _ _ _ _ ht, ← h8.out]; exact hinv.out⟩
        case measure => simp [intOf]; omega
      · have hbit : bits .and .u8 ((b : Int) / 2 ^ k) 1 = 0 := by rw [and8_one b k hb, show b / 2 ^ k % 2 = 0 from by omega]; rfl
        go_wp2_with (go_at_call 108; refine (fShifted_any _ _ ha').mono ?_; rintro e w' ⟨rfl, rfl⟩)
        go_round
        case rel => exact ⟨k + 1, nx a', p', by omega, by go_num, rfl, rfl, hn, hp', by rw [hd.out, tr_none _ _ _ _ ht, ← h8.out]; exact hinv.out⟩
        case measure => simp [intOf]; omega
    · obtain rfl : k = 8 := by omega
      have hv : p' = tm a b := by have := hinv.out; simpa [tr] using this
      subst hv
      go_wp2
      go_ret
      exact ⟨rfl, rfl⟩

theorem wrap_u64_small (n : Nat) (h : n < 18446744073709551616) : IntKind.u64.wrap (n : Int) = n := by
  rw [IntKind.wrap_u64]; omega

theorem ret_u64 {a b : Int} (h : a = b) : Ending.returned (.int .u64 a) = .returned (.int .u64 b) := by rw [h]
set_option maxRecDepth 100000 in
set_option maxHeartbeats 400000 in
theorem fSize_any (n : Int) (m : Nat) (w : World) (h0 : -9223372036854775808 ≤ n) (h1 : n < 9223372036854775808) (hm : n.natAbs = m) :
    Calls Tryz.prog 111 #[.int .i64 n] w fun e w' => e = .returned (.int .u64 (m : Int)) ∧ w = w' := by
  have hm := Lib.hid hm
  go_enter Tryz.func111, Tryz.ntmps111
  by_cases hn : n < 0
  · go_wp2
    go_ret
    refine ⟨ret_u64 ?_, rfl⟩
    have := hm.out
    rw [IntKind.wrap_u64, IntKind.wrap_u64]
    omega
  · go_wp2
    go_ret
    refine ⟨ret_u64 ?_, rfl⟩
    have := hm.out
    omega

theorem and64_one (l : Nat) (h : l < 18446744073709551616) : bits .and .u64 (l : Int) 1 = ((l % 2 : Nat) : Int) := by
  show IntKind.u64.wrap (((BitVec.ofInt 64 (l : Int)) &&& (BitVec.ofInt 64 ((1 : Nat) : Int))).toNat : Int) = _
  rw [BitVec.toNat_and, ofInt_toNat 64 l h, ofInt_toNat 64 1 (by decide), Nat.and_one_is_mod, IntKind.wrap_u64]
  omega

set_option maxRecDepth 100000 in
set_option maxHeartbeats 400000 in
/-- A power of an exponent not below 0. -/
theorem fPowerPos_any (a n : Nat) (w : World) (ha : a < 256) (hn : n < 9223372036854775808) :
    Calls Tryz.prog 107 #[.int .u8 (a : Int), .int .i64 (n : Int)] w fun e w' => e = .returned (.int .u8 (pw a n : Int)) ∧ w = w' := by
  have hneg : ¬ ((n : Int) < 0) := by omega
  go_enter Tryz.func107, Tryz.ntmps107
  go_wp2_with (go_at_call 111; refine (fSize_any _ n _ (by omega) (by omega) (by omega)).mono ?_; rintro e w' ⟨rfl, rfl⟩)
  go_loop [0, 5, 6] (fun x p i => ∃ a' p' l : Nat, l ≤ n ∧ x = .int .u8 a' ∧ p = .int .u8 p' ∧ i = .int .u64 l ∧ a' < 256 ∧ p' < 256 ∧ tm p' (pw a' l) = pw a n) (fun _ _ i => (intOf i).toNat)
  case atStart => exact ⟨a, 1, n, by omega, rfl, rfl, rfl, ha, by omega, one_tm _ (pw_256 _)⟩
  case round =>
    obtain ⟨a', p', l, hl, rfl, rfl, rfl, ha', hp', hinv⟩ := hrel
    have hinv := Lib.hid hinv
    by_cases hz : l = 0
    · subst hz
      have hv : p' = pw a n := by rw [← hinv.out]; exact (tm_one p' hp').symm
      subst hv
      go_wp2
      go_ret
      exact ⟨rfl, rfl⟩
    · have hsq := tm_256 a' ha'
      have hpa := tm_256 a' hp'
      by_cases ht : l % 2 = 1
      · have hbit : bits .and .u64 (l : Int) 1 = 1 := by rw [and64_one l (by omega), ht]; rfl
        have hnext := Lib.hid (show tm (tm p' a') (pw (tm a' a') (l / 2)) = pw a n from by
          rw [← hinv.out, tm_assoc _ _ _ hp' ha' (pw_256 _), ← pw_sq_odd a' _ ha', show 2 * (l / 2) + 1 = l from by omega])
        go_wp2_with fail
        refine (fTimes_any _ _ _ hp' ha').mono ?_; rintro e w' ⟨rfl, rfl⟩
        go_wp2_with (go_at_call 94; refine (fTimes_any _ _ _ ha' ha').mono ?_; rintro e w' ⟨rfl, rfl⟩)
        go_round
        case rel => exact ⟨tm a' a', tm p' a', l / 2, by omega, rfl, rfl, by go_num, hsq, hpa, hnext.out⟩
        case measure => simp [intOf]; omega
      · have hbit : bits .and .u64 (l : Int) 1 = 0 := by rw [and64_one l (by omega), show l % 2 = 0 from by omega]; rfl
        have hnext := Lib.hid (show tm p' (pw (tm a' a') (l / 2)) = pw a n from by
          rw [← hinv.out, ← pw_sq a' _ ha', show 2 * (l / 2) = l from by omega])
        go_wp2_with (go_at_call 94; refine (fTimes_any _ _ _ ha' ha').mono ?_; rintro e w' ⟨rfl, rfl⟩)
        go_round
        case rel => exact ⟨tm a' a', p', l / 2, by omega, rfl, rfl, by go_num, hsq, hp', hnext.out⟩
        case measure => simp [intOf]; omega

set_option maxRecDepth 100000 in
set_option maxHeartbeats 400000 in
theorem fInverse_any (a : Nat) (w : World) (ha : a < 256) :
    Calls Tryz.prog 102 #[.int .u8 (a : Int)] w fun e w' => e = .returned (.int .u8 (inv a : Int)) ∧ w = w' := by
  go_enter Tryz.func102, Tryz.ntmps102
  go_wp2_with (go_at_call 107; refine (fPowerPos_any _ 254 _ ha (by decide)).mono ?_; rintro e w' ⟨rfl, rfl⟩)
  go_ret
  exact ⟨rfl, rfl⟩

theorem fInverse_of (a b : Nat) (w : World) (ha : a < 256) (hb : inv a = b) :
    Calls Tryz.prog 102 #[.int .u8 (a : Int)] w fun e w' => e = .returned (.int .u8 (b : Int)) ∧ w = w' := by
  subst hb; exact fInverse_any a w ha

set_option maxRecDepth 100000 in
set_option maxHeartbeats 400000 in
/-- A power of an exponent below 0: the walk goes on behind the inverse as that of one not below 0. -/
theorem fPowerNeg_any (a b : Nat) (n : Int) (m : Nat) (w : World) (ha : a < 256) (hb : inv a = b) (h0 : -9223372036854775808 ≤ n) (h1 : n < 0) (hm : n.natAbs = m) :
    Calls Tryz.prog 107 #[.int .u8 (a : Int), .int .i64 n] w fun e w' => e = .returned (.int .u8 (pw b m : Int)) ∧ w = w' := by
  have hb2 : b < 256 := by rw [← hb]; exact inv_256 a
  have hb := Lib.hid (fInverse_of a b w ha hb)
  have hm2 := Lib.hid (show m ≤ 9223372036854775808 from by omega)
  have hm := Lib.hid hm
  go_enter Tryz.func107, Tryz.ntmps107
  go_wp2_with fail
  refine hb.out.mono ?_; rintro e w' ⟨rfl, rfl⟩
  go_wp2_with (go_at_call 111; refine (fSize_any _ m _ h0 (by omega) hm.out).mono ?_; rintro e w' ⟨rfl, rfl⟩)
  have hml := hm2.out
  go_loop [0, 5, 6] (fun x p i => ∃ a' p' l : Nat, l ≤ m ∧ x = .int .u8 a' ∧ p = .int .u8 p' ∧ i = .int .u64 l ∧ a' < 256 ∧ p' < 256 ∧ tm p' (pw a' l) = pw b m) (fun _ _ i => (intOf i).toNat)
  case atStart => exact ⟨b, 1, m, by omega, rfl, rfl, rfl, hb2, by omega, one_tm _ (pw_256 _)⟩
  case round =>
    obtain ⟨a', p', l, hl, rfl, rfl, rfl, ha', hp', hinv⟩ := hrel
    have hinv := Lib.hid hinv
    by_cases hz : l = 0
    · subst hz
      have hv : p' = pw b m := by rw [← hinv.out]; exact (tm_one p' hp').symm
      subst hv
      go_wp2
      go_ret
      exact ⟨rfl, rfl⟩
    · have hsq := tm_256 a' ha'
      have hpa := tm_256 a' hp'
      by_cases ht : l % 2 = 1
      · have hbit : bits .and .u64 (l : Int) 1 = 1 := by rw [and64_one l (by omega), ht]; rfl
        have hnext := Lib.hid (show tm (tm p' a') (pw (tm a' a') (l / 2)) = pw b m from by
          rw [← hinv.out, tm_assoc _ _ _ hp' ha' (pw_256 _), ← pw_sq_odd a' _ ha', show 2 * (l / 2) + 1 = l from by omega])
        go_wp2_with fail
        refine (fTimes_any _ _ _ hp' ha').mono ?_; rintro e w' ⟨rfl, rfl⟩
        go_wp2_with (go_at_call 94; refine (fTimes_any _ _ _ ha' ha').mono ?_; rintro e w' ⟨rfl, rfl⟩)
        go_round
        case rel => exact ⟨tm a' a', tm p' a', l / 2, by omega, rfl, rfl, by go_num, hsq, hpa, hnext.out⟩
        case measure => simp [intOf]; omega
      · have hbit : bits .and .u64 (l : Int) 1 = 0 := by rw [and64_one l (by omega), show l % 2 = 0 from by omega]; rfl
        have hnext := Lib.hid (show tm p' (pw (tm a' a') (l / 2)) = pw b m from by
          rw [← hinv.out, ← pw_sq a' _ ha', show 2 * (l / 2) = l from by omega])
        go_wp2_with (go_at_call 94; refine (fTimes_any _ _ _ ha' ha').mono ?_; rintro e w' ⟨rfl, rfl⟩)
        go_round
        case rel => exact ⟨tm a' a', p', l / 2, by omega, rfl, rfl, by go_num, hsq, hp', hnext.out⟩
        case measure => simp [intOf]; omega
theorem fPower_any (a : Nat) (n : Int) (w : World) (ha : a < 256) (h0 : -9223372036854775808 ≤ n) (h1 : n < 9223372036854775808) :
    Calls Tryz.prog 107 #[.int .u8 (a : Int), .int .i64 n] w fun e w' => e = .returned (.int .u8 (pz a n : Int)) ∧ w = w' := by
  unfold pz
  by_cases hn : n < 0
  · rw [if_pos hn]
    exact fPowerNeg_any a _ n (-n).toNat w ha rfl h0 hn (by omega)
  · rw [if_neg hn]
    obtain ⟨k, rfl⟩ : ∃ k : Nat, n = k := ⟨n.toNat, by omega⟩
    exact fPowerPos_any a k w ha (by omega)

set_option maxRecDepth 100000 in
set_option maxHeartbeats 400000 in
theorem fOrder_any (a o : Nat) (w : World) (ha : a < 256) (h : a ≠ 0) (ho : IsOrd a o) :
    Calls Tryz.prog 103 #[.int .u8 (a : Int)] w fun e w' => e = .returned (.int .i64 (o : Int)) ∧ w = w' := by
  obtain ⟨o0, o1, o2, o3⟩ := ho
  have o2 := Lib.hid o2
  have o3 := Lib.hid o3
  have hza : ((a : Int) == 0) = false := beq_false_of_ne (by omega)
  go_enter Tryz.func103, Tryz.ntmps103
  go_wp2
  go_loop [3, 4] (fun i p => ∃ k : Nat, 0 < k ∧ k ≤ o ∧ i = .int .i64 k ∧ p = .int .u8 (pw a k)) (fun i _ => o - (intOf i).toNat)
  case atStart => exact ⟨1, by omega, by omega, rfl, by rw [pw_one ha]⟩
  case round =>
    obtain ⟨k, hk, hko, rfl, rfl⟩ := hrel
    by_cases he : k = o
    · subst he
      rw [o2.out]
      go_wp2
      go_ret
      exact ⟨rfl, rfl⟩
    · have hne : ¬ ((pw a k : Nat) : Int) = 1 := fun h => o3.out k hk (by omega) (by omega)
      have hp := pw_256 (a := a) k
      go_wp2_with (go_at_call 94; refine (fTimes_any _ _ _ hp ha).mono ?_; rintro e w' ⟨rfl, rfl⟩)
      go_round
      case rel => exact ⟨k + 1, by omega, by omega, by go_num, rfl⟩
      case measure => simp [intOf]; omega

set_option maxRecDepth 100000 in
set_option maxHeartbeats 400000 in
theorem fOrder_zero (w : World) :
    Calls Tryz.prog 103 #[.int .u8 0] w fun e w' => e = .returned (.int .i64 0) ∧ w = w' := by
  go_enter Tryz.func103, Tryz.ntmps103
  go_wp2
  go_ret
  exact ⟨rfl, rfl⟩

theorem fTimes_is (x y z : Int) (a b t : Nat) (w : World) (hx : x = a) (hy : y = b) (ha : a < 256) (hb : b < 256) (ht : tm a b = t) (hz : z = t) :
    Calls Tryz.prog 94 #[.int .u8 x, .int .u8 y] w fun e w' => e = .returned (.int .u8 z) ∧ w = w' := by
  subst hx; subst hy; subst ht; subst hz; exact fTimes_any a b w ha hb
theorem fInverse_is (x z : Int) (a t : Nat) (w : World) (hx : x = a) (ha : a < 256) (ht : inv a = t) (hz : z = t) :
    Calls Tryz.prog 102 #[.int .u8 x] w fun e w' => e = .returned (.int .u8 z) ∧ w = w' := by
  subst hx; subst ht; subst hz; exact fInverse_any a w ha
theorem fAdd_is (x y z : Int) (a b t : Nat) (w : World) (hx : x = a) (hy : y = b) (ha : a < 256) (hb : b < 256) (ht : a ^^^ b = t) (hz : z = t) :
    Calls Tryz.prog 93 #[.int .u8 x, .int .u8 y] w fun e w' => e = .returned (.int .u8 z) ∧ w = w' := by
  subst hx; subst hy; subst ht; subst hz; exact fAdd_any a b w ha hb
theorem fOrder_is (x z : Int) (a o : Nat) (w : World) (hx : x = a) (ha : a < 256) (h : a ≠ 0) (ho : IsOrd a o) (hz : z = o) :
    Calls Tryz.prog 103 #[.int .u8 x] w fun e w' => e = .returned (.int .i64 z) ∧ w = w' := by
  subst hx; subst hz; exact fOrder_any a o w ha h ho
end Go.Proofs.YtagacpjeooaapaaGreatDoor

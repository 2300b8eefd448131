/-
  What the document's own answers on the field come to: the same products, inverses, orders and powers. Conditions: elements are numbers below 256; an exponent lies between -1000 and 1000.
-/
import Derived.Test.YtagacpjeooaapaaGreatDoorFieldWalk
namespace Go.Proofs.YtagacpjeooaapaaGreatDoor
open Go.RowKit

theorem bits_xor64 (a b : Nat) (ha : a < 32768) (hb : b < 32768) : bits .xor .i64 (a : Int) (b : Int) = ((a ^^^ b : Nat) : Int) := by
  show IntKind.i64.wrap (((BitVec.ofInt 64 (a : Int)) ^^^ (BitVec.ofInt 64 (b : Int))).toNat : Int) = _
  rw [BitVec.toNat_xor, ofInt_toNat 64 a (by omega), ofInt_toNat 64 b (by omega), IntKind.wrap_i64]
  have : a ^^^ b < 2 ^ 15 := Nat.xor_lt_two_pow (n := 15) ha hb
  omega
theorem mul_pow_lt (a k : Nat) (ha : a < 256) (hk : k < 8) : a * 2 ^ k < 32768 := by
  have : 2 ^ k ≤ 2 ^ 7 := Nat.pow_le_pow_right (by omega) (by omega)
  calc a * 2 ^ k ≤ 255 * 2 ^ 7 := Nat.mul_le_mul (by omega) this
    _ < 32768 := by decide
theorem mul_pow_lt' (k : Nat) (hk : k < 7) : 283 * 2 ^ k < 32768 := by
  have : 2 ^ k ≤ 2 ^ 6 := Nat.pow_le_pow_right (by omega) (by omega)
  calc 283 * 2 ^ k ≤ 283 * 2 ^ 6 := Nat.mul_le_mul (by omega) this
    _ < 32768 := by decide

theorem odd_bit (b k : Nat) (h : b / 2 ^ k % 2 = 1) : ((b : Int) / 2 ^ k).tmod 2 = 1 := by
  have h2 : (((b / 2 ^ k % 2 : Nat)) : Int) = 1 := by rw [h]; rfl
  rw [← h2]; rfl
theorem even_bit (b k : Nat) (h : ¬ b / 2 ^ k % 2 = 1) : ((b : Int) / 2 ^ k).tmod 2 = 0 := by
  have h2 : (((b / 2 ^ k % 2 : Nat)) : Int) = 0 := by rw [show b / 2 ^ k % 2 = 0 from by omega]; rfl
  rw [← h2]; rfl
theorem bits_xor64' (p a k : Nat) (hp : p < 32768) (h : a * 2 ^ k < 32768) : bits .xor .i64 (p : Int) (wrap64 ((a : Int) * 2 ^ k)) = ((p ^^^ (a * 2 ^ k) : Nat) : Int) := by
  have : wrap64 ((a : Int) * 2 ^ k) = ((a * 2 ^ k : Nat) : Int) := by
    have h2 : (a : Int) * 2 ^ k = ((a * 2 ^ k : Nat) : Int) := by simp
    rw [h2]
    unfold wrap64; omega
  rw [this]
  exact bits_xor64 p _ hp h

theorem toNat_add8 (j : Nat) : ((j : Int) + 8).toNat = j + 8 := by omega
theorem toNat_add8_sub (j : Nat) : ((j : Int) + 8 - 8).toNat = j := by omega

set_option maxRecDepth 100000 in
set_option maxHeartbeats 400000 in
theorem rTimes_any (a b : Nat) (w : World) (ha : a < 256) (hb : b < 256) :
    Calls Tryz.prog 95 #[.int .u8 (a : Int), .int .u8 (b : Int)] w fun e w' => e = .returned (.int .u8 (tm a b : Int)) ∧ w = w' := by
  have hr := Lib.hid (ref_tm a b ha hb)
  go_enter Tryz.func95, Tryz.ntmps95
  go_wp2
  go_loop [5, 6] (fun p i => ∃ k : Nat, k ≤ 8 ∧ i = .int .i64 k ∧ p = .int .i64 (rb a b k)) (fun _ i => 8 - (intOf i).toNat)
  case atStart => exact ⟨0, by omega, rfl, rfl⟩
  case round =>
    obtain ⟨k, hk, rfl, rfl⟩ := hrel
    by_cases hlt : k < 8
    · by_cases ht : b / 2 ^ k % 2 = 1
      · have hbit := odd_bit b k ht
        have hx := bits_xor64' (rb a b k) a k (rb_lt a b k ha hk) (mul_pow_lt a k ha hlt)
        have hs := Lib.hid (show rb a b (k + 1) = rb a b k ^^^ (a * 2 ^ k) from by simp only [rb, if_pos ht])
        go_wp2
        go_round
        case rel => exact ⟨k + 1, by omega, by go_num, by rw [hs.out]⟩
        case measure => simp [intOf]; omega
      · have hbit := even_bit b k ht
        have hs := Lib.hid (show rb a b (k + 1) = rb a b k from by simp only [rb, if_neg ht, Nat.xor_zero])
        go_wp2
        go_round
        case rel => exact ⟨k + 1, by omega, by go_num, by rw [hs.out]⟩
        case measure => simp [intOf]; omega
    · obtain rfl : k = 8 := by omega
      have hl := rb_lt a b 8 ha (by omega)
      obtain ⟨p0, hp0⟩ : ∃ p, p = rb a b 8 := ⟨_, rfl⟩
      rw [← hp0] at hl hr ⊢
      clear hp0
      go_wp2
      go_loop [5, 7] (fun p i => ∃ k q : Nat, k ≤ 7 ∧ i = .int .i64 ((k : Int) + 7) ∧ p = .int .i64 q ∧ q < 32768 ∧ rd q k = tm a b) (fun _ i => (intOf i).toNat)
      case atStart => exact ⟨7, p0, by omega, rfl, rfl, hl, hr.out⟩
      case round =>
        obtain ⟨k, q, hk, rfl, rfl, hq, hinv⟩ := hrel
        have hinv := Lib.hid hinv
        by_cases hz : k = 0
        · subst hz
          have hv : q = tm a b := hinv.out
          subst hv
          have hlt := tm_256 b ha
          go_wp2
          go_ret
          exact ⟨rfl, rfl⟩
        · obtain ⟨j, rfl⟩ : ∃ j, k = j + 1 := ⟨k - 1, by omega⟩
          rw [show ((j + 1 : Nat) : Int) + 7 = (j : Int) + 8 from by omega]
          have hi := toNat_add8 j
          have hi2 := toNat_add8_sub j
          by_cases ht : q / 2 ^ (j + 8) % 2 = 1
          · have hbit := odd_bit q (j + 8) ht
            have hx : bits .xor .i64 (q : Int) (wrap64 (283 * 2 ^ j)) = ((q ^^^ (283 * 2 ^ j) : Nat) : Int) := bits_xor64' q 283 j hq (mul_pow_lt' j (by omega))
            have hlt := Nat.xor_lt_two_pow (n := 15) hq (mul_pow_lt' j (by omega))
            have hs := Lib.hid (show rd (q ^^^ (283 * 2 ^ j)) j = tm a b from by have h := hinv.out; simp only [rd, if_pos ht] at h; exact h)
            go_wp2
            go_round
            case rel => exact ⟨j, _, by omega, by go_num, rfl, hlt, hs.out⟩
            case measure => simp [intOf]; omega
          · have hbit := even_bit q (j + 8) ht
            have hs := Lib.hid (show rd q j = tm a b from by have h := hinv.out; simp only [rd, if_neg ht, Nat.xor_zero] at h; exact h)
            go_wp2
            go_round
            case rel => exact ⟨j, q, by omega, by go_num, rfl, hq, hs.out⟩
            case measure => simp [intOf]; omega

theorem rTimes_of (x y : Int) (a b : Nat) (w : World) (hx : x = a) (hy : y = b) (ha : a < 256) (hb : b < 256) :
    Calls Tryz.prog 95 #[.int .u8 x, .int .u8 y] w fun e w' => e = .returned (.int .u8 (tm a b : Int)) ∧ w = w' := by
  subst hx; subst hy; exact rTimes_any a b w ha hb

theorem rTimes_is (x y z : Int) (a b t : Nat) (w : World) (hx : x = a) (hy : y = b) (ha : a < 256) (hb : b < 256) (ht : tm a b = t) (hz : z = t) :
    Calls Tryz.prog 95 #[.int .u8 x, .int .u8 y] w fun e w' => e = .returned (.int .u8 z) ∧ w = w' := by
  subst hx; subst hy; subst ht; subst hz; exact rTimes_any a b w ha hb

set_option maxRecDepth 100000 in
set_option maxHeartbeats 400000 in
theorem rInverse_any (a : Nat) (w : World) (ha : a < 256) :
    Calls Tryz.prog 97 #[.int .u8 (a : Int)] w fun e w' => e = .returned (.int .u8 (inv a : Int)) ∧ w = w' := by
  have hv : ∃ v : Nat, inv a = v ∧ (∀ b, b < 256 → tm a b = 1 → b = v) ∧ ((∀ b, b < 256 → tm a b ≠ 1) → v = 0) := by
    refine ⟨inv a, rfl, fun b hb h => inv_uniq a b ha hb h, fun h => ?_⟩
    by_cases h0 : a = 0
    · subst h0; exact inv_zero
    · exact absurd (tm_inv a ha h0) (h _ (inv_256 a))
  obtain ⟨v, hv1, hv2, hv3⟩ := hv
  rw [hv1]
  clear hv1
  have hv2 := Lib.hid hv2
  have hv3 := Lib.hid hv3
  obtain ⟨N, hN⟩ : ∃ N : Nat, 257 ≤ N := ⟨257, Nat.le_refl _⟩
  have hN := Lib.hid hN
  go_enter Tryz.func97, Tryz.ntmps97
  go_wp2
  go_loop [3] (fun i => ∃ k : Nat, k ≤ 256 ∧ i = .int .i64 k ∧ ∀ b, b < k → tm a b ≠ 1) (fun i => N - (intOf i).toNat)
  case atStart => exact ⟨1, by omega, rfl, fun b hb => by rw [show b = 0 from by omega, tm_zero]; decide⟩
  case round =>
    obtain ⟨k, hk, rfl, hno⟩ := hrel
    have hno := Lib.hid hno
    by_cases hlt : k < 256
    · have hki : (k : Int) < 256 := by omega
      have hlt := Lib.hid hlt
      have hk := Lib.hid hk
      by_cases h1 : tm a k = 1
      · have hkv := hv2.out k hlt.out h1
        subst hkv
        have h1 := Lib.hid h1
        go_wp2_with (go_at_call 95; refine (rTimes_is _ _ 1 a k 1 _ (by omega) (by omega) ha hlt.out h1.out rfl).mono ?_; rintro e w' ⟨rfl, rfl⟩)
        go_ret
        exact ⟨rfl, rfl⟩
      · obtain ⟨v, hv⟩ : ∃ v, tm a k = v := ⟨_, rfl⟩
        have h1i : (((v : Nat) : Int) == 1) = false := beq_false_of_ne (by omega)
        have h1 := Lib.hid h1
        have hv := Lib.hid hv
        go_wp2_with (go_at_call 95; refine (rTimes_is _ _ v a k v _ (by omega) (by omega) ha hlt.out hv.out rfl).mono ?_; rintro e w' ⟨rfl, rfl⟩)
        go_round
        case rel => exact ⟨k + 1, by have := hlt.out; omega, by go_num, fun b hb => by
          by_cases hbk : b = k
          · subst hbk; exact h1.out
          · exact hno.out b (by omega)⟩
        case measure => have := hN.out; simp [intOf]; omega
    · obtain rfl : k = 256 := by omega
      have hz := hv3.out hno.out
      subst hz
      go_wp2
      go_ret
      exact ⟨rfl, rfl⟩

set_option maxRecDepth 100000 in
set_option maxHeartbeats 400000 in
theorem rPowerPos_any (a n : Nat) (w : World) (ha : a < 256) (hn : n ≤ 1000) :
    Calls Tryz.prog 79 #[.int .u8 (a : Int), .int .i64 (n : Int)] w fun e w' => e = .returned (.int .u8 (pw a n : Int)) ∧ w = w' := by
  have hneg : ¬ ((n : Int) < 0) := by omega
  go_enter Tryz.func79, Tryz.ntmps79
  go_wp2
  go_loop [5, 6] (fun p i => ∃ k : Nat, k ≤ n ∧ i = .int .i64 k ∧ p = .int .u8 (pw a k)) (fun _ i => n - (intOf i).toNat)
  case atStart => exact ⟨0, by omega, rfl, rfl⟩
  case round =>
    obtain ⟨k, hk, rfl, rfl⟩ := hrel
    have hp := pw_256 (a := a) k
    by_cases he : k = n
    · subst he
      go_wp2
      go_ret
      exact ⟨rfl, rfl⟩
    · have hlt : k < n := by omega
      go_wp2_with (go_at_call 95; refine (rTimes_any _ _ _ hp ha).mono ?_; rintro e w' ⟨rfl, rfl⟩)
      go_round
      case rel => exact ⟨k + 1, by omega, by go_num, rfl⟩
      case measure => simp [intOf]; omega

theorem rInverse_of (a b : Nat) (w : World) (ha : a < 256) (hb : inv a = b) :
    Calls Tryz.prog 97 #[.int .u8 (a : Int)] w fun e w' => e = .returned (.int .u8 (b : Int)) ∧ w = w' := by
  subst hb; exact rInverse_any a w ha
set_option maxRecDepth 100000 in
set_option maxHeartbeats 400000 in
theorem rPowerNeg_any (a b n : Nat) (w : World) (ha : a < 256) (hb : inv a = b) (hn : n ≤ 1000) (hz : 0 < n) :
    Calls Tryz.prog 79 #[.int .u8 (a : Int), .int .i64 (-(n : Int))] w fun e w' => e = .returned (.int .u8 (pw b n : Int)) ∧ w = w' := by
  have hb2 : b < 256 := by rw [← hb]; exact inv_256 a
  have hb := Lib.hid (rInverse_of a b w ha hb)
  have hneg : -(n : Int) < 0 := by omega
  go_enter Tryz.func79, Tryz.ntmps79
  go_wp2_with fail
  refine hb.out.mono ?_; rintro e w' ⟨rfl, rfl⟩
  go_wp2
  go_loop [5, 6] (fun p i => ∃ k : Nat, k ≤ n ∧ i = .int .i64 k ∧ p = .int .u8 (pw b k)) (fun _ i => n - (intOf i).toNat)
  case atStart => exact ⟨0, by omega, rfl, rfl⟩
  case round =>
    obtain ⟨k, hk, rfl, rfl⟩ := hrel
    have hp := pw_256 (a := b) k
    by_cases he : k = n
    · subst he
      go_wp2
      go_ret
      exact ⟨rfl, rfl⟩
    · have hlt : k < n := by omega
      go_wp2_with (go_at_call 95; refine (rTimes_any _ _ _ hp hb2).mono ?_; rintro e w' ⟨rfl, rfl⟩)
      go_round
      case rel => exact ⟨k + 1, by omega, by go_num, rfl⟩
      case measure => simp [intOf]; omega

theorem rPower_any (a : Nat) (n : Int) (w : World) (ha : a < 256) (h0 : -1000 ≤ n) (h1 : n ≤ 1000) :
    Calls Tryz.prog 79 #[.int .u8 (a : Int), .int .i64 n] w fun e w' => e = .returned (.int .u8 (pz a n : Int)) ∧ w = w' := by
  unfold pz
  by_cases hn : n < 0
  · rw [if_pos hn]
    obtain ⟨k, rfl⟩ : ∃ k : Nat, n = -(k : Int) := ⟨(-n).toNat, by omega⟩
    rw [show (- -(k : Int)).toNat = k from by omega]
    exact rPowerNeg_any a _ k w ha rfl (by omega) (by omega)
  · rw [if_neg hn]
    obtain ⟨k, rfl⟩ : ∃ k : Nat, n = k := ⟨n.toNat, by omega⟩
    exact rPowerPos_any a k w ha (by omega)
end Go.Proofs.YtagacpjeooaapaaGreatDoor

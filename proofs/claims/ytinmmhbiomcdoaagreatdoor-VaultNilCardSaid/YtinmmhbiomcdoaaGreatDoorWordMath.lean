/-
  Words of 32 bits: a number from 0 to 2^32 - 1 beside the 32 bits that it has; turns to the left and to the right, bit by bit; plain facts, no Go. No conditions but those that each row names.
-/
import Derived.WalkKit
namespace Go.Proofs.YtinmmhbiomcdoaaGreatDoor
def bv (a : Int) : BitVec 32 := BitVec.ofInt 32 a
def nv (x : BitVec 32) : Int := (x.toNat : Int)
theorem nv_lo (x : BitVec 32) : 0 ≤ nv x := by unfold nv; omega
theorem nv_hi (x : BitVec 32) : nv x < 4294967296 := by unfold nv; have := x.isLt; omega
theorem bv_nv (x : BitVec 32) : bv (nv x) = x := by unfold bv nv; simp
theorem nv_bv_mod (a : Int) : nv (bv a) = a % 4294967296 := by
  unfold bv nv; rw [BitVec.toNat_ofInt]; omega
theorem nv_bv (a : Int) (h0 : 0 ≤ a) (h1 : a < 4294967296) : nv (bv a) = a := by rw [nv_bv_mod]; omega
theorem wrap_nv (x : BitVec 32) : IntKind.u32.wrap (x.toNat : Int) = nv x := by
  rw [IntKind.wrap_u32]; have := x.isLt; unfold nv; omega
theorem wrap_bv (a : Int) : IntKind.u32.wrap a = nv (bv a) := by rw [IntKind.wrap_u32, nv_bv_mod]
theorem bits_or (a b : Int) : bits .or .u32 a b = nv (bv a ||| bv b) := wrap_nv _
theorem bits_and (a b : Int) : bits .and .u32 a b = nv (bv a &&& bv b) := wrap_nv _
theorem bits_xor (a b : Int) : bits .xor .u32 a b = nv (bv a ^^^ bv b) := wrap_nv _
theorem bv_add (a b : Int) : bv (a + b) = bv a + bv b := by unfold bv; exact BitVec.ofInt_add ..
theorem bv_mul (a b : Int) : bv (a * b) = bv a * bv b := by unfold bv; exact BitVec.ofInt_mul ..
theorem bv_natCast (n : Nat) : bv (n : Int) = BitVec.ofNat 32 n := by unfold bv; simp
theorem wrap_shl (a : Int) (n : Nat) : IntKind.u32.wrap (a * 2 ^ n) = nv (bv a <<< n) := by
  rw [wrap_bv, bv_mul]
  congr 1
  rw [BitVec.shiftLeft_eq_mul_twoPow]
  congr 1
  rw [show ((2 : Int) ^ n) = ((2 ^ n : Nat) : Int) from by simp, bv_natCast]
  apply BitVec.eq_of_toNat_eq; simp
theorem shr_nv (x : BitVec 32) (n : Nat) : nv x / 2 ^ n = nv (x >>> n) := by
  unfold nv
  rw [BitVec.toNat_ushiftRight, Nat.shiftRight_eq_div_pow]; simp
theorem bv_range (a : Int) (h0 : 0 ≤ a) (h1 : a < 4294967296) : ∃ x : BitVec 32, a = nv x := ⟨bv a, (nv_bv a h0 h1).symm⟩
theorem not_nv (a : Int) : bits .xor .u32 4294967295 a = nv (~~~ bv a) := by
  rw [bits_xor, show bv 4294967295 = BitVec.allOnes 32 from by decide, BitVec.allOnes_xor]

/-- A number's rest by 32, not below 0. -/
def r32 (n : Int) : Nat := (n % 32).toNat
theorem r32_lt (n : Int) : r32 n < 32 := by unfold r32; omega
def rotl (a n : Int) : Int := nv ((bv a).rotateLeft (r32 n))
def rotr (a n : Int) : Int := nv ((bv a).rotateRight (r32 n))

theorem lsb_rl (x : BitVec 32) (k i : Nat) (hk : k < 32) (hi : i < 32) : (x.rotateLeft k).getLsbD i = x.getLsbD (if i < k then 32 - k + i else i - k) := by
  rw [BitVec.getLsbD_rotateLeft, Nat.mod_eq_of_lt hk]
  split <;> (rename_i h; simp [hi, h])
theorem lsb_rr (x : BitVec 32) (k i : Nat) (hk : k < 32) (hi : i < 32) : (x.rotateRight k).getLsbD i = x.getLsbD (if i < 32 - k then k + i else i - (32 - k)) := by
  rw [BitVec.getLsbD_rotateRight, Nat.mod_eq_of_lt hk]
  split <;> (rename_i h; simp [hi, h])
theorem rl_zero (x : BitVec 32) : x.rotateLeft 0 = x := by
  apply BitVec.eq_of_getLsbD_eq; intro i hi; rw [lsb_rl _ _ _ (by omega) hi]; simp
theorem rr_zero (x : BitVec 32) : x.rotateRight 0 = x := by
  apply BitVec.eq_of_getLsbD_eq; intro i hi; rw [lsb_rr _ _ _ (by omega) hi]; simp [hi]
theorem rl_succ (x : BitVec 32) (k : Nat) (h : k + 1 < 32) : (x.rotateLeft k).rotateLeft 1 = x.rotateLeft (k + 1) := by
  apply BitVec.eq_of_getLsbD_eq; intro i hi
  rw [lsb_rl _ _ _ (by omega) hi, lsb_rl _ _ _ (by omega) (by split <;> omega), lsb_rl _ _ _ (by omega) hi]
  congr 1; repeat' split
  all_goals omega
theorem rr_succ (x : BitVec 32) (k : Nat) (h : k + 1 < 32) : (x.rotateRight k).rotateRight 1 = x.rotateRight (k + 1) := by
  apply BitVec.eq_of_getLsbD_eq; intro i hi
  rw [lsb_rr _ _ _ (by omega) hi, lsb_rr _ _ _ (by omega) (by split <;> omega), lsb_rr _ _ _ (by omega) hi]
  congr 1; repeat' split
  all_goals omega
theorem rr_rl (x : BitVec 32) (k : Nat) (h : k < 32) : (x.rotateLeft k).rotateRight k = x := by
  apply BitVec.eq_of_getLsbD_eq; intro i hi
  rw [lsb_rr _ _ _ (by omega) hi, lsb_rl _ _ _ (by omega) (by split <;> omega)]
  congr 1; repeat' split
  all_goals omega
theorem rl_rr (x : BitVec 32) (k : Nat) (h : k < 32) : (x.rotateRight k).rotateLeft k = x := by
  apply BitVec.eq_of_getLsbD_eq; intro i hi
  rw [lsb_rl _ _ _ (by omega) hi, lsb_rr _ _ _ (by omega) (by split <;> omega)]
  congr 1; repeat' split
  all_goals omega
theorem rl_neg (x : BitVec 32) (k j : Nat) (h : k < 32) (hj : j < 32) (e : (k + j) % 32 = 0) : x.rotateLeft j = x.rotateRight k := by
  apply BitVec.eq_of_getLsbD_eq; intro i hi
  rw [lsb_rl _ _ _ (by omega) hi, lsb_rr _ _ _ (by omega) hi]
  congr 1; repeat' split
  all_goals omega
/-- One place: what falls out at the top comes in at the bottom. -/
theorem rl_one (x : BitVec 32) : nv (x.rotateLeft 1) = 2 * nv x % 4294967296 + nv x / 2147483648 := by
  rw [BitVec.rotateLeft_def]
  unfold nv
  rw [← BitVec.add_eq_or_of_and_eq_zero]
  · rw [BitVec.toNat_add, BitVec.toNat_shiftLeft, BitVec.toNat_ushiftRight, Nat.shiftLeft_eq, Nat.shiftRight_eq_div_pow]
    have := x.isLt
    simp
    omega
  · apply BitVec.eq_of_getLsbD_eq; intro i hi
    by_cases h : i = 0
    · subst h; simp
    · have : x.getLsbD (31 + i) = false := BitVec.getLsbD_of_ge _ _ (by omega)
      simp [this]
theorem rr_one (x : BitVec 32) : nv (x.rotateRight 1) = nv x / 2 + nv x % 2 * 2147483648 := by
  rw [BitVec.rotateRight_def]
  unfold nv
  rw [← BitVec.add_eq_or_of_and_eq_zero]
  · rw [BitVec.toNat_add, BitVec.toNat_shiftLeft, BitVec.toNat_ushiftRight, Nat.shiftLeft_eq, Nat.shiftRight_eq_div_pow]
    have := x.isLt
    simp
    omega
  · apply BitVec.eq_of_getLsbD_eq; intro i hi
    by_cases h : i < 31
    · simp [h]
    · have : x.getLsbD (1 + i) = false := BitVec.getLsbD_of_ge _ _ (by omega)
      simp [this]
theorem rotl_lo (a n : Int) : 0 ≤ rotl a n := nv_lo _
theorem rotl_hi (a n : Int) : rotl a n < 4294967296 := nv_hi _
theorem rotr_lo (a n : Int) : 0 ≤ rotr a n := nv_lo _
theorem rotr_hi (a n : Int) : rotr a n < 4294967296 := nv_hi _
theorem rotr_rotl (a n : Int) (h0 : 0 ≤ a) (h1 : a < 4294967296) : rotr (rotl a n) n = a := by
  unfold rotr rotl; rw [bv_nv, rr_rl _ _ (r32_lt n), nv_bv a h0 h1]
theorem rotl_rotr (a n : Int) (h0 : 0 ≤ a) (h1 : a < 4294967296) : rotl (rotr a n) n = a := by
  unfold rotr rotl; rw [bv_nv, rl_rr _ _ (r32_lt n), nv_bv a h0 h1]

theorem r32_cast (n : Int) : ((r32 n : Nat) : Int) = n % 32 := by unfold r32; omega
theorem wrap_rl (a : Int) (k : Nat) (h0 : 0 ≤ a) (h1 : a < 4294967296) (hk : k < 32) : bits .or .u32 (IntKind.u32.wrap (a * 2 ^ k)) (a / 2 ^ (32 - k)) = nv ((bv a).rotateLeft k) := by
  obtain ⟨x, rfl⟩ := bv_range a h0 h1
  rw [wrap_shl, shr_nv, bits_or, bv_nv, bv_nv, bv_nv, BitVec.rotateLeft_def, Nat.mod_eq_of_lt hk]
theorem and31_i64 (a : Int) : bits .and .i64 a 31 = a % 32 := by
  show IntKind.i64.wrap ((BitVec.ofInt 64 a &&& BitVec.ofInt 64 31).toNat : Int) = _
  rw [BitVec.toNat_and, show (BitVec.ofInt 64 31).toNat = 2 ^ 5 - 1 from by decide, Nat.and_two_pow_sub_one_eq_mod, BitVec.toNat_ofInt, IntKind.wrap_i64]
  omega
theorem and31_u64 (a : Int) : bits .and .u64 (IntKind.u64.wrap a) 31 = a % 32 := by
  show IntKind.u64.wrap ((BitVec.ofInt 64 (IntKind.u64.wrap a) &&& BitVec.ofInt 64 31).toNat : Int) = _
  rw [BitVec.toNat_and, show (BitVec.ofInt 64 31).toNat = 2 ^ 5 - 1 from by decide, Nat.and_two_pow_sub_one_eq_mod, BitVec.toNat_ofInt]
  simp only [IntKind.wrap, IntKind.bits, IntKind.signed]
  simp
  omega
theorem rotl_eq (a n : Int) (k : Nat) (hk : (k : Int) = n % 32) : nv ((bv a).rotateLeft k) = rotl a n := by
  unfold rotl; rw [show k = r32 n from by unfold r32; omega]
theorem rotl_neg (a n m : Int) (h : (n + m) % 32 = 0) : rotl a m = rotr a n := by
  unfold rotl rotr
  rw [rl_neg (bv a) (r32 n) (r32 m) (r32_lt n) (r32_lt m) (by unfold r32; omega)]

/-! ### What is chosen, bit by bit -/
def choose (x y z : Int) : Int := nv (bv x &&& bv y ||| ~~~ bv x &&& bv z)
def major (x y z : Int) : Int := nv (bv x &&& bv y ||| bv x &&& bv z ||| bv y &&& bv z)
theorem choose_lo (x y z : Int) : 0 ≤ choose x y z := nv_lo _
theorem choose_hi (x y z : Int) : choose x y z < 4294967296 := nv_hi _
theorem major_lo (x y z : Int) : 0 ≤ major x y z := nv_lo _
theorem major_hi (x y z : Int) : major x y z < 4294967296 := nv_hi _
theorem bits_choose (x y z : Int) : bits .or .u32 (bits .and .u32 x y) (bits .and .u32 (bits .xor .u32 4294967295 x) z) = choose x y z := by
  rw [not_nv, bits_and, bits_and, bits_or, bv_nv, bv_nv, bv_nv]; rfl
theorem bits_major (x y z : Int) : bits .or .u32 (bits .or .u32 (bits .and .u32 x y) (bits .and .u32 x z)) (bits .and .u32 y z) = major x y z := by
  rw [bits_and, bits_and, bits_and, bits_or, bits_or, bv_nv, bv_nv, bv_nv, bv_nv]; rfl
theorem major_turn (x y z : Int) : major z x y = major x y z := by
  unfold major; congr 1
  apply BitVec.eq_of_getLsbD_eq; intro i hi
  simp only [BitVec.getLsbD_or, BitVec.getLsbD_and]
  cases (bv x).getLsbD i <;> cases (bv y).getLsbD i <;> cases (bv z).getLsbD i <;> rfl
theorem choose_same (x y : Int) (h0 : 0 ≤ y) (h1 : y < 4294967296) : choose x y y = y := by
  unfold choose
  rw [show bv x &&& bv y ||| ~~~ bv x &&& bv y = bv y from ?_, nv_bv y h0 h1]
  apply BitVec.eq_of_getLsbD_eq; intro i hi
  simp only [BitVec.getLsbD_or, BitVec.getLsbD_and, BitVec.getLsbD_not, hi]
  cases (bv x).getLsbD i <;> cases (bv y).getLsbD i <;> rfl
theorem choose_rotl (x y z n : Int) : choose (rotl x n) (rotl y n) (rotl z n) = rotl (choose x y z) n := by
  unfold choose rotl; simp only [bv_nv]; congr 1
  have hk := r32_lt n
  apply BitVec.eq_of_getLsbD_eq; intro i hi
  simp only [BitVec.getLsbD_or, BitVec.getLsbD_and, BitVec.getLsbD_not, lsb_rl _ _ _ hk hi, hi]
  have h : (if i < r32 n then 32 - r32 n + i else i - r32 n) < 32 := by split <;> omega
  simp only [h]
/-- The bit at a place, as a number. -/
def bitOf (a : Int) (i : Nat) : Int := if (bv a).getLsbD i then 1 else 0
theorem bitOf_two (a : Int) (i : Nat) : bitOf a i = 0 ∨ bitOf a i = 1 := by unfold bitOf; split <;> simp
theorem shr_bit (x : BitVec 32) (i : Nat) : nv (x >>> i) % 2 = if x.getLsbD i then 1 else 0 := by
  unfold nv
  rw [BitVec.toNat_ushiftRight, Nat.shiftRight_eq_div_pow, ← BitVec.testBit_toNat, Nat.testBit_eq_decide_div_mod_eq]
  generalize x.toNat / 2 ^ i = q
  simp only [decide_eq_true_eq]; split <;> omega
theorem bitOf_eq (a : Int) (i : Nat) (h0 : 0 ≤ a) (h1 : a < 4294967296) : a / 2 ^ i % 2 = bitOf a i := by
  obtain ⟨x, rfl⟩ := bv_range a h0 h1
  rw [shr_nv, shr_bit]; unfold bitOf; rw [bv_nv]
theorem shr_succ (x : BitVec 32) (i : Nat) : nv (x >>> i) = 2 * nv (x >>> (i + 1)) + if x.getLsbD i then 1 else 0 := by
  rw [← shr_bit]
  have : nv (x >>> (i + 1)) = nv (x >>> i) / 2 := by
    unfold nv
    rw [BitVec.toNat_ushiftRight, BitVec.toNat_ushiftRight, Nat.shiftRight_succ]; simp
  omega
theorem shr_top (x : BitVec 32) : nv (x >>> 32) = 0 := by
  unfold nv; rw [BitVec.toNat_ushiftRight, Nat.shiftRight_eq_div_pow]; have := x.isLt; simp; omega
theorem shr_half (x : BitVec 32) (i : Nat) : nv (x >>> (i + 1)) ≤ 2147483647 := by
  have := shr_succ x i; have := nv_hi (x >>> i); split at * <;> omega
def chooseB (x y z : Int) : BitVec 32 := bv x &&& bv y ||| ~~~ bv x &&& bv z
def majorB (x y z : Int) : BitVec 32 := bv x &&& bv y ||| bv x &&& bv z ||| bv y &&& bv z
theorem choose_bit (x y z : Int) (i : Nat) (h : i < 32) : nv (chooseB x y z >>> i) = 2 * nv (chooseB x y z >>> (i + 1)) + if bitOf x i = 1 then bitOf y i else bitOf z i := by
  rw [shr_succ]; unfold bitOf chooseB
  simp only [BitVec.getLsbD_or, BitVec.getLsbD_and, BitVec.getLsbD_not, h]
  cases (bv x).getLsbD i <;> cases (bv y).getLsbD i <;> cases (bv z).getLsbD i <;> simp
theorem major_bit (x y z : Int) (i : Nat) : nv (majorB x y z >>> i) = 2 * nv (majorB x y z >>> (i + 1)) + if 2 ≤ bitOf x i + bitOf y i + bitOf z i then 1 else 0 := by
  rw [shr_succ]; unfold bitOf majorB
  simp only [BitVec.getLsbD_or, BitVec.getLsbD_and]
  cases (bv x).getLsbD i <;> cases (bv y).getLsbD i <;> cases (bv z).getLsbD i <;> simp
/-! ### Four bytes joined -/
theorem or_four (a b c d : Nat) (hb : b < 256) (hc : c < 256) (hd : d < 256) :
    ((a * 16777216 ||| b * 65536) ||| c * 256) ||| d = a * 16777216 + b * 65536 + c * 256 + d := by
  have h1 := Nat.two_pow_add_eq_or_of_lt (i := 24) (b := b * 65536) (by omega) a
  have h2 := Nat.two_pow_add_eq_or_of_lt (i := 16) (b := c * 256) (by omega) (a * 256 + b)
  have h3 := Nat.two_pow_add_eq_or_of_lt (i := 8) (b := d) (by omega) (a * 65536 + b * 256 + c)
  rw [show a * 16777216 = 2 ^ 24 * a from by omega, ← h1]
  rw [show 2 ^ 24 * a + b * 65536 = 2 ^ 16 * (a * 256 + b) from by omega, ← h2]
  rw [show 2 ^ 16 * (a * 256 + b) + c * 256 = 2 ^ 8 * (a * 65536 + b * 256 + c) from by omega, ← h3]
theorem or_word4 (a b c d : Int) (ha : 0 ≤ a ∧ a < 256) (hb : 0 ≤ b ∧ b < 256) (hc : 0 ≤ c ∧ c < 256) (hd : 0 ≤ d ∧ d < 256) :
    bits .or .u32 (bits .or .u32 (bits .or .u32 (a * 16777216) (b * 65536)) (c * 256)) d = a * 16777216 + b * 65536 + c * 256 + d := by
  obtain ⟨A, rfl⟩ := Int.eq_ofNat_of_zero_le ha.1
  obtain ⟨B, rfl⟩ := Int.eq_ofNat_of_zero_le hb.1
  obtain ⟨C, rfl⟩ := Int.eq_ofNat_of_zero_le hc.1
  obtain ⟨D, rfl⟩ := Int.eq_ofNat_of_zero_le hd.1
  have e := or_four A B C D (by omega) (by omega) (by omega)
  have l1 : A * 16777216 ||| B * 65536 < 2 ^ 32 := Nat.or_lt_two_pow (by omega) (by omega)
  have l2 : A * 16777216 ||| B * 65536 ||| C * 256 < 2 ^ 32 := Nat.or_lt_two_pow l1 (by omega)
  have h1 := u32_or_nat (A * 16777216) (B * 65536) (by omega) (by omega)
  have h2 := u32_or_nat (A * 16777216 ||| B * 65536) (C * 256) l1 (by omega)
  have h3 := u32_or_nat (A * 16777216 ||| B * 65536 ||| C * 256) D l2 (by omega)
  simp only [Int.natCast_mul, Int.cast_ofNat_Int] at h1 h2 h3
  rw [h1, h2, h3, e]
  simp
end Go.Proofs.YtinmmhbiomcdoaaGreatDoor

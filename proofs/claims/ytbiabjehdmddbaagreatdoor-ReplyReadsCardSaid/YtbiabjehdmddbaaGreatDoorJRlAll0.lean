/-
  Texts of stages that were proved on their own, joined: WordMath, HexMath. Each begins with its own words.
-/
import Derived.WalkKit

/-
  Words of 32 bits: a number from 0 to 2^32 - 1 beside the 32 bits that it has; turns to the left and to the right, bit by bit; plain facts, no Go. No conditions but those that each row names.
-/
namespace Go.Proofs.YtbiabjehdmddbaaGreatDoor
def bv (a : Int) : BitVec 32 := BitVec.ofInt 32 a
def nv (x : BitVec 32) : Int := (x.toNat : Int)
theorem nv_lo (x : BitVec 32) : 0 ≤ nv x := by unfold nv; omega
theorem nv_hi (x : BitVec 32) : nv x < 4294967296 := by unfold nv; have := x.isLt; omega
theorem bv_nv (x : BitVec 32) : bv (nv x) = x := by unfold bv nv; simp
theorem nv_bv_mod (a : Int) : nv (bv a) = a % 4294967296 := by
  unfold bv nv; rw [BitVec.toNat_ofInt]; omega
theorem nv_bv (a : Int) (h0 : 0 ≤ a) (h1 : a < 4294967296) : nv (bv a) = a := by rw [nv_bv_mod]; omega
theorem wrap_nv (x : BitVec 32) : IntKind.u32.wrap (x.toNat : Int) = nv x := by
  rw [IntKind.wrap_u32]; have := x.isLt; unfold nv; omega
theorem wrap_bv (a : Int) : IntKind.u32.wrap a = nv (bv a) := by rw [IntKind.wrap_u32, nv_bv_mod]
theorem bits_or (a b : Int) : bits .or .u32 a b = nv (bv a ||| bv b) := wrap_nv _
theorem bits_and (a b : Int) : bits .and .u32 a b = nv (bv a &&& bv b) := wrap_nv _
theorem bits_xor (a b : Int) : bits .xor .u32 a b = nv (bv a ^^^ bv b) := wrap_nv _
theorem bv_add (a b : Int) : bv (a + b) = bv a + bv b := by unfold bv; exact BitVec.ofInt_add ..
theorem bv_mul (a b : Int) : bv (a * b) = bv a * bv b := by unfold bv; exact BitVec.ofInt_mul ..
theorem bv_natCast (n : Nat) : bv (n : Int) = BitVec.ofNat 32 n := by unfold bv; simp
theorem wrap_shl (a : Int) (n : Nat) : IntKind.u32.wrap (a * 2 ^ n) = nv (bv a <<< n) := by
  rw [wrap_bv, bv_mul]
  congr 1
  rw [BitVec.shiftLeft_eq_mul_twoPow]
  congr 1
  rw [show ((2 : Int) ^ n) = ((2 ^ n : Nat) : Int) from by simp, bv_natCast]
  apply BitVec.eq_of_toNat_eq; simp
theorem shr_nv (x : BitVec 32) (n : Nat) : nv x / 2 ^ n = nv (x >>> n) := by
  unfold nv
  rw [BitVec.toNat_ushiftRight, Nat.shiftRight_eq_div_pow]; simp
theorem bv_range (a : Int) (h0 : 0 ≤ a) (h1 : a < 4294967296) : ∃ x : BitVec 32, a = nv x := ⟨bv a, (nv_bv a h0 h1).symm⟩
theorem not_nv (a : Int) : bits .xor .u32 4294967295 a = nv (~~~ bv a) := by
  rw [bits_xor, show bv 4294967295 = BitVec.allOnes 32 from by decide, BitVec.allOnes_xor]

/-- A number's rest by 32, not below 0. -/
def r32 (n : Int) : Nat := (n % 32).toNat
theorem r32_lt (n : Int) : r32 n < 32 := by unfold r32; omega
def rotl (a n : Int) : Int := nv ((bv a).rotateLeft (r32 n))
def rotr (a n : Int) : Int := nv ((bv a).rotateRight (r32 n))

theorem lsb_rl (x : BitVec 32) (k i : Nat) (hk : k < 32) (hi : i < 32) : (x.rotateLeft k).getLsbD i = x.getLsbD (if i < k then 32 - k + i else i - k) := by
  rw [BitVec.getLsbD_rotateLeft, Nat.mod_eq_of_lt hk]
  split <;> (rename_i h; simp [hi, h])
theorem lsb_rr (x : BitVec 32) (k i : Nat) (hk : k < 32) (hi : i < 32) : (x.rotateRight k).getLsbD i = x.getLsbD (if i < 32 - k then k + i else i - (32 - k)) := by
  rw [BitVec.getLsbD_rotateRight, Nat.mod_eq_of_lt hk]
  split <;> (rename_i h; simp [hi, h])
theorem rl_zero (x : BitVec 32) : x.rotateLeft 0 = x := by
  apply BitVec.eq_of_getLsbD_eq; intro i hi; rw [lsb_rl _ _ _ (by omega) hi]; simp
theorem rr_zero (x : BitVec 32) : x.rotateRight 0 = x := by
  apply BitVec.eq_of_getLsbD_eq; intro i hi; rw [lsb_rr _ _ _ (by omega) hi]; simp [hi]
theorem rl_succ (x : BitVec 32) (k : Nat) (h : k + 1 < 32) : (x.rotateLeft k).rotateLeft 1 = x.rotateLeft (k + 1) := by
  apply BitVec.eq_of_getLsbD_eq; intro i hi
  rw [lsb_rl _ _ _ (by omega) hi, lsb_rl _ _ _ (by omega) (by split <;> omega), lsb_rl _ _ _ (by omega) hi]
  congr 1; repeat' split
  all_goals omega
theorem rr_succ (x : BitVec 32) (k : Nat) (h : k + 1 < 32) : (x.rotateRight k).rotateRight 1 = x.rotateRight (k + 1) := by
  apply BitVec.eq_of_getLsbD_eq; intro i hi
  rw [lsb_rr _ _ _ (by omega) hi, lsb_rr _ _ _ (by omega) (by split <;> omega), lsb_rr _ _ _ (by omega) hi]
  congr 1; repeat' split
  all_goals omega
theorem rr_rl (x : BitVec 32) (k : Nat) (h : k < 32) : (x.rotateLeft k).rotateRight k = x := by
  apply BitVec.eq_of_getLsbD_eq; intro i hi
  rw [lsb_rr _ _ _ (by omega) hi, lsb_rl _ _ _ (by omega) (by split <;> omega)]
  congr 1; repeat' split
  all_goals omega
theorem rl_rr (x : BitVec 32) (k : Nat) (h : k < 32) : (x.rotateRight k).rotateLeft k = x := by
  apply BitVec.eq_of_getLsbD_eq; intro i hi
  rw [lsb_rl _ _ _ (by omega) hi, lsb_rr _ _ _ (by omega) (by split <;> omega)]
  congr 1; repeat' split
  all_goals omega
theorem rl_neg (x : BitVec 32) (k j : Nat) (h : k < 32) (hj : j < 32) (e : (k + j) % 32 = 0) : x.rotateLeft j = x.rotateRight k := by
  apply BitVec.eq_of_getLsbD_eq; intro i hi
  rw [lsb_rl _ _ _ (by omega) hi, lsb_rr _ _ _ (by omega) hi]
  congr 1; repeat' split
  all_goals omega
/-- One place: what falls out at the top comes in at the bottom. -/
theorem rl_one (x : BitVec 32) : nv (x.rotateLeft 1) = 2 * nv x % 4294967296 + nv x / 2147483648 := by
  rw [BitVec.rotateLeft_def]
  unfold nv
  rw [← BitVec.add_eq_or_of_and_eq_zero]
  · rw [BitVec.toNat_add, BitVec.toNat_shiftLeft, BitVec.toNat_ushiftRight, Nat.shiftLeft_eq, Nat.shiftRight_eq_div_pow]
    have := x.isLt
    simp
    omega
  · apply BitVec.eq_of_getLsbD_eq; intro i hi
    by_cases h : i = 0
    · subst h; simp
    · have : x.getLsbD (31 + i) = false := BitVec.getLsbD_of_ge _ _ (by omega)
      simp [this]
theorem rr_one (x : BitVec 32) : nv (x.rotateRight 1) = nv x / 2 + nv x % 2 * 2147483648 := by
  rw [BitVec.rotateRight_def]
  unfold nv
  rw [← BitVec.add_eq_or_of_and_eq_zero]
  · rw [BitVec.toNat_add, BitVec.toNat_shiftLeft, BitVec.toNat_ushiftRight, Nat.shiftLeft_eq, Nat.shiftRight_eq_div_pow]
    have := x.isLt
    simp
    omega
  · apply BitVec.eq_of_getLsbD_eq; intro i hi
    by_cases h : i < 31
    · simp [h]
    · have : x.getLsbD (1 + i) = false := BitVec.getLsbD_of_ge _ _ (by omega)
      simp [this]
theorem rotl_lo (a n : Int) : 0 ≤ rotl a n := nv_lo _
theorem rotl_hi (a n : Int) : rotl a n < 4294967296 := nv_hi _
theorem rotr_lo (a n : Int) : 0 ≤ rotr a n := nv_lo _
theorem rotr_hi (a n : Int) : rotr a n < 4294967296 := nv_hi _
theorem rotr_rotl (a n : Int) (h0 : 0 ≤ a) (h1 : a < 4294967296) : rotr (rotl a n) n = a := by
  unfold rotr rotl; rw [bv_nv, rr_rl _ _ (r32_lt n), nv_bv a h0 h1]
theorem rotl_rotr (a n : Int) (h0 : 0 ≤ a) (h1 : a < 4294967296) : rotl (rotr a n) n = a := by
  unfold rotr rotl; rw [bv_nv, rl_rr _ _ (r32_lt n), nv_bv a h0 h1]

theorem r32_cast (n : Int) : ((r32 n : Nat) : Int) = n % 32 := by unfold r32; omega
theorem wrap_rl (a : Int) (k : Nat) (h0 : 0 ≤ a) (h1 : a < 4294967296) (hk : k < 32) : bits .or .u32 (IntKind.u32.wrap (a * 2 ^ k)) (a / 2 ^ (32 - k)) = nv ((bv a).rotateLeft k) := by
  obtain ⟨x, rfl⟩ := bv_range a h0 h1
  rw [wrap_shl, shr_nv, bits_or, bv_nv, bv_nv, bv_nv, BitVec.rotateLeft_def, Nat.mod_eq_of_lt hk]
theorem and31_i64 (a : Int) : bits .and .i64 a 31 = a % 32 := by
  show IntKind.i64.wrap ((BitVec.ofInt 64 a &&& BitVec.ofInt 64 31).toNat : Int) = _
  rw [BitVec.toNat_and, show (BitVec.ofInt 64 31).toNat = 2 ^ 5 - 1 from by decide, Nat.and_two_pow_sub_one_eq_mod, BitVec.toNat_ofInt, IntKind.wrap_i64]
  omega
theorem and31_u64 (a : Int) : bits .and .u64 (IntKind.u64.wrap a) 31 = a % 32 := by
  show IntKind.u64.wrap ((BitVec.ofInt 64 (IntKind.u64.wrap a) &&& BitVec.ofInt 64 31).toNat : Int) = _
  rw [BitVec.toNat_and, show (BitVec.ofInt 64 31).toNat = 2 ^ 5 - 1 from by decide, Nat.and_two_pow_sub_one_eq_mod, BitVec.toNat_ofInt]
  simp only [IntKind.wrap, IntKind.bits, IntKind.signed]
  simp
  omega
theorem rotl_eq (a n : Int) (k : Nat) (hk : (k : Int) = n % 32) : nv ((bv a).rotateLeft k) = rotl a n := by
  unfold rotl; rw [show k = r32 n from by unfold r32; omega]
theorem rotl_neg (a n m : Int) (h : (n + m) % 32 = 0) : rotl a m = rotr a n := by
  unfold rotl rotr
  rw [rl_neg (bv a) (r32 n) (r32 m) (r32_lt n) (r32_lt m) (by unfold r32; omega)]

/-! ### What is chosen, bit by bit -/
def choose (x y z : Int) : Int := nv (bv x &&& bv y ||| ~~~ bv x &&& bv z)
def major (x y z : Int) : Int := nv (bv x &&& bv y ||| bv x &&& bv z ||| bv y &&& bv z)
theorem choose_lo (x y z : Int) : 0 ≤ choose x y z := nv_lo _
theorem choose_hi (x y z : Int) : choose x y z < 4294967296 := nv_hi _
theorem major_lo (x y z : Int) : 0 ≤ major x y z := nv_lo _
theorem major_hi (x y z : Int) : major x y z < 4294967296 := nv_hi _
theorem bits_choose (x y z : Int) : bits .or .u32 (bits .and .u32 x y) (bits .and .u32 (bits .xor .u32 4294967295 x) z) = choose x y z := by
  rw [not_nv, bits_and, bits_and, bits_or, bv_nv, bv_nv, bv_nv]; rfl
theorem bits_major (x y z : Int) : bits .or .u32 (bits .or .u32 (bits .and .u32 x y) (bits .and .u32 x z)) (bits .and .u32 y z) = major x y z := by
  rw [bits_and, bits_and, bits_and, bits_or, bits_or, bv_nv, bv_nv, bv_nv, bv_nv]; rfl
theorem major_turn (x y z : Int) : major z x y = major x y z := by
  unfold major; congr 1
  apply BitVec.eq_of_getLsbD_eq; intro i hi
  simp only [BitVec.getLsbD_or, BitVec.getLsbD_and]
  cases (bv x).getLsbD i <;> cases (bv y).getLsbD i <;> cases (bv z).getLsbD i <;> rfl
theorem choose_same (x y : Int) (h0 : 0 ≤ y) (h1 : y < 4294967296) : choose x y y = y := by
  unfold choose
  rw [show bv x &&& bv y ||| ~~~ bv x &&& bv y = bv y from ?_, nv_bv y h0 h1]
  apply BitVec.eq_of_getLsbD_eq; intro i hi
  simp only [BitVec.getLsbD_or, BitVec.getLsbD_and, BitVec.getLsbD_not, hi]
  cases (bv x).getLsbD i <;> cases (bv y).getLsbD i <;> rfl
theorem choose_rotl (x y z n : Int) : choose (rotl x n) (rotl y n) (rotl z n) = rotl (choose x y z) n := by
  unfold choose rotl; simp only [bv_nv]; congr 1
  have hk := r32_lt n
  apply BitVec.eq_of_getLsbD_eq; intro i hi
  simp only [BitVec.getLsbD_or, BitVec.getLsbD_and, BitVec.getLsbD_not, lsb_rl _ _ _ hk hi, hi]
  have h : (if i < r32 n then 32 - r32 n + i else i - r32 n) < 32 := by split <;> omega
  simp only [h]
/-- The bit at a place, as a number. -/
def bitOf (a : Int) (i : Nat) : Int := if (bv a).getLsbD i then 1 else 0
theorem bitOf_two (a : Int) (i : Nat) : bitOf a i = 0 ∨ bitOf a i = 1 := by unfold bitOf; split <;> simp
theorem shr_bit (x : BitVec 32) (i : Nat) : nv (x >>> i) % 2 = if x.getLsbD i then 1 else 0 := by
  unfold nv
  rw [BitVec.toNat_ushiftRight, Nat.shiftRight_eq_div_pow, ← BitVec.testBit_toNat, Nat.testBit_eq_decide_div_mod_eq]
  generalize x.toNat / 2 ^ i = q
  simp only [decide_eq_true_eq]; split <;> omega
theorem bitOf_eq (a : Int) (i : Nat) (h0 : 0 ≤ a) (h1 : a < 4294967296) : a / 2 ^ i % 2 = bitOf a i := by
  obtain ⟨x, rfl⟩ := bv_range a h0 h1
  rw [shr_nv, shr_bit]; unfold bitOf; rw [bv_nv]
theorem shr_succ (x : BitVec 32) (i : Nat) : nv (x >>> i) = 2 * nv (x >>> (i + 1)) + if x.getLsbD i then 1 else 0 := by
  rw [← shr_bit]
  have : nv (x >>> (i + 1)) = nv (x >>> i) / 2 := by
    unfold nv
    rw [BitVec.toNat_ushiftRight, BitVec.toNat_ushiftRight, Nat.shiftRight_succ]; simp
  omega
theorem shr_top (x : BitVec 32) : nv (x >>> 32) = 0 := by
  unfold nv; rw [BitVec.toNat_ushiftRight, Nat.shiftRight_eq_div_pow]; have := x.isLt; simp; omega
theorem shr_half (x : BitVec 32) (i : Nat) : nv (x >>> (i + 1)) ≤ 2147483647 := by
  have := shr_succ x i; have := nv_hi (x >>> i); split at * <;> omega
def chooseB (x y z : Int) : BitVec 32 := bv x &&& bv y ||| ~~~ bv x &&& bv z
def majorB (x y z : Int) : BitVec 32 := bv x &&& bv y ||| bv x &&& bv z ||| bv y &&& bv z
theorem choose_bit (x y z : Int) (i : Nat) (h : i < 32) : nv (chooseB x y z >>> i) = 2 * nv (chooseB x y z >>> (i + 1)) + if bitOf x i = 1 then bitOf y i else bitOf z i := by
  rw [shr_succ]; unfold bitOf chooseB
  simp only [BitVec.getLsbD_or, BitVec.getLsbD_and, BitVec.getLsbD_not, h]
  cases (bv x).getLsbD i <;> cases (bv y).getLsbD i <;> cases (bv z).getLsbD i <;> simp
theorem major_bit (x y z : Int) (i : Nat) : nv (majorB x y z >>> i) = 2 * nv (majorB x y z >>> (i + 1)) + if 2 ≤ bitOf x i + bitOf y i + bitOf z i then 1 else 0 := by
  rw [shr_succ]; unfold bitOf majorB
  simp only [BitVec.getLsbD_or, BitVec.getLsbD_and]
  cases (bv x).getLsbD i <;> cases (bv y).getLsbD i <;> cases (bv z).getLsbD i <;> simp
/-! ### Four bytes joined -/
theorem or_four (a b c d : Nat) (hb : b < 256) (hc : c < 256) (hd : d < 256) :
    ((a * 16777216 ||| b * 65536) ||| c * 256) ||| d = a * 16777216 + b * 65536 + c * 256 + d := by
  have h1 := Nat.two_pow_add_eq_or_of_lt (i := 24) (b := b * 65536) (by omega) a
  have h2 := Nat.two_pow_add_eq_or_of_lt (i := 16) (b := c * 256) (by omega) (a * 256 + b)
  have h3 := Nat.two_pow_add_eq_or_of_lt (i := 8) (b := d) (by omega) (a * 65536 + b * 256 + c)
  rw [show a * 16777216 = 2 ^ 24 * a from by omega, ← h1]
  rw [show 2 ^ 24 * a + b * 65536 = 2 ^ 16 * (a * 256 + b) from by omega, ← h2]
  rw [show 2 ^ 16 * (a * 256 + b) + c * 256 = 2 ^ 8 * (a * 65536 + b * 256 + c) from by omega, ← h3]
theorem or_word4 (a b c d : Int) (ha : 0 ≤ a ∧ a < 256) (hb : 0 ≤ b ∧ b < 256) (hc : 0 ≤ c ∧ c < 256) (hd : 0 ≤ d ∧ d < 256) :
    bits .or .u32 (bits .or .u32 (bits .or .u32 (a * 16777216) (b * 65536)) (c * 256)) d = a * 16777216 + b * 65536 + c * 256 + d := by
  obtain ⟨A, rfl⟩ := Int.eq_ofNat_of_zero_le ha.1
  obtain ⟨B, rfl⟩ := Int.eq_ofNat_of_zero_le hb.1
  obtain ⟨C, rfl⟩ := Int.eq_ofNat_of_zero_le hc.1
  obtain ⟨D, rfl⟩ := Int.eq_ofNat_of_zero_le hd.1
  have e := or_four A B C D (by omega) (by omega) (by omega)
  have l1 : A * 16777216 ||| B * 65536 < 2 ^ 32 := Nat.or_lt_two_pow (by omega) (by omega)
  have l2 : A * 16777216 ||| B * 65536 ||| C * 256 < 2 ^ 32 := Nat.or_lt_two_pow l1 (by omega)
  have h1 := u32_or_nat (A * 16777216) (B * 65536) (by omega) (by omega)
  have h2 := u32_or_nat (A * 16777216 ||| B * 65536) (C * 256) l1 (by omega)
  have h3 := u32_or_nat (A * 16777216 ||| B * 65536 ||| C * 256) D l2 (by omega)
  simp only [Int.natCast_mul, Int.cast_ofNat_Int] at h1 h2 h3
  rw [h1, h2, h3, e]
  simp
end Go.Proofs.YtbiabjehdmddbaaGreatDoor

/-
  Bytes, ids and numbers as text (layer 12), as lists of numbers: signs and half bytes; text and back; digits and back. No Go function is spoken of.
-/
namespace Go.Proofs.YtbiabjehdmddbaaGreatDoor

/-- A half byte's sign; a sign's half byte, -1 if it is none. -/
def sgn (d : Int) : Int := if d < 10 then 48 + d else 87 + d
def dig (c : Int) : Int := if 48 ≤ c ∧ c ≤ 57 then c - 48 else if 97 ≤ c ∧ c ≤ 102 then c - 87 else -1
theorem dig_sgn {d : Int} (h : 0 ≤ d ∧ d < 16) : dig (sgn d) = d := by unfold sgn dig; split <;> split <;> first | omega | (split <;> omega)
theorem sgn_dig {c : Int} (h : 0 ≤ dig c) : sgn (dig c) = c ∧ dig c < 16 := by unfold dig at h ⊢; unfold sgn; split at h <;> (try split at h) <;> constructor <;> repeat' split <;> omega
theorem sgn_range {d : Int} (h : 0 ≤ d ∧ d < 16) : 48 ≤ sgn d ∧ sgn d < 256 := by unfold sgn; split <;> omega
theorem sgn_ne {d : Int} (h : 0 ≤ d ∧ d < 16) : sgn d ≠ 45 := by unfold sgn; split <;> omega

def textB : List Int → List Int
  | [] => []
  | x :: r => sgn (x / 16) :: sgn (x % 16) :: textB r
def textL (xs : List Int) : List Int := if xs = [] then [45] else textB xs
def ofB : List Int → Option (List Int)
  | [] => some []
  | [_] => none
  | a :: b :: r => if dig a < 0 ∨ dig b < 0 then none else (ofB r).map (fun l => (16 * dig a + dig b) :: l)
def ofL (ss : List Int) : Option (List Int) := if ss = [45] then some [] else if ss = [] then none else ofB ss

theorem textB_append (a b : List Int) : textB (a ++ b) = textB a ++ textB b := by
  induction a with
  | nil => rfl
  | cons x a ih => show _ :: _ :: textB (a ++ b) = _; rw [ih]; rfl
theorem textB_len (xs : List Int) : (textB xs).length = 2 * xs.length := by
  induction xs with
  | nil => rfl
  | cons x r ih => show (textB r).length + 1 + 1 = 2 * (r.length + 1); omega
theorem half_range {x : Int} (h : 0 ≤ x ∧ x < 256) : (0 ≤ x / 16 ∧ x / 16 < 16) ∧ 0 ≤ x % 16 ∧ x % 16 < 16 := by omega
theorem textB_range {xs : List Int} (h : ∀ x ∈ xs, 0 ≤ x ∧ x < 256) : ∀ y ∈ textB xs, 0 ≤ y ∧ y < 256 := by
  induction xs with
  | nil => intro y hy; cases hy
  | cons x r ih =>
    intro y hy
    have hx := half_range (h x (by simp))
    rcases List.mem_cons.1 hy with rfl | hy
    · have := sgn_range hx.1; omega
    rcases List.mem_cons.1 hy with rfl | hy
    · have := sgn_range hx.2; omega
    exact ih (fun z hz => h z (by simp [hz])) y hy
theorem textL_range {xs : List Int} (h : ∀ x ∈ xs, 0 ≤ x ∧ x < 256) : ∀ y ∈ textL xs, 0 ≤ y ∧ y < 256 := by
  unfold textL
  split
  · intro y hy
    rw [List.mem_singleton.1 hy]
    omega
  · exact textB_range h
theorem textL_len (xs : List Int) : (textL xs).length ≤ 2 * xs.length + 1 := by
  unfold textL
  split
  · exact Nat.le_add_left _ _
  · rw [textB_len]; exact Nat.le_succ _
theorem ofB_textB {xs : List Int} (h : ∀ x ∈ xs, 0 ≤ x ∧ x < 256) : ofB (textB xs) = some xs := by
  induction xs with
  | nil => rfl
  | cons x r ih =>
    have hx := half_range (h x (by simp))
    show (if dig (sgn (x / 16)) < 0 ∨ dig (sgn (x % 16)) < 0 then none else (ofB (textB r)).map _) = _
    rw [dig_sgn hx.1, dig_sgn hx.2, if_neg (by omega), ih (fun z hz => h z (by simp [hz]))]
    show some ((16 * (x / 16) + x % 16) :: r) = _
    rw [show 16 * (x / 16) + x % 16 = x by omega]
/-- Text of bytes is read as they were. -/
theorem ofL_textL {xs : List Int} (h : ∀ x ∈ xs, 0 ≤ x ∧ x < 256) : ofL (textL xs) = some xs := by
  cases xs with
  | nil => rfl
  | cons x r =>
    have hx := half_range (h x (by simp))
    have e : textL (x :: r) = textB (x :: r) := if_neg (by simp)
    have e2 : textB (x :: r) = sgn (x / 16) :: sgn (x % 16) :: textB r := rfl
    unfold ofL
    rw [e, if_neg (by rw [e2]; intro e; injection e with e _; exact sgn_ne hx.1 e), if_neg (by rw [e2]; simp)]
    exact ofB_textB h
theorem ofB_some : ∀ (ss ys : List Int), ofB ss = some ys → textB ys = ss ∧ (∀ y ∈ ys, 0 ≤ y ∧ y < 256) ∧ ss.length = 2 * ys.length
  | [], ys, h => by cases h; exact ⟨rfl, by simp, rfl⟩
  | [_], ys, h => by cases h
  | a :: b :: r, ys, h => by
    rw [ofB] at h
    by_cases hd : dig a < 0 ∨ dig b < 0
    · rw [if_pos hd] at h; cases h
    rw [if_neg hd] at h
    obtain ⟨zs, hz, rfl⟩ := Option.map_eq_some_iff.1 h
    obtain ⟨h1, h2, h3⟩ := ofB_some r zs hz
    have ha := sgn_dig (c := a) (by omega)
    have hb := sgn_dig (c := b) (by omega)
    refine ⟨?_, ?_, by simp; omega⟩
    · show sgn ((16 * dig a + dig b) / 16) :: sgn ((16 * dig a + dig b) % 16) :: textB zs = _
      rw [show (16 * dig a + dig b) / 16 = dig a by omega, show (16 * dig a + dig b) % 16 = dig b by omega, ha.1, hb.1, h1]
    · intro y hy
      rcases List.mem_cons.1 hy with rfl | hy
      · omega
      · exact h2 y hy
/-- What is read as bytes is their text. -/
theorem ofL_some {ss ys : List Int} (h : ofL ss = some ys) : textL ys = ss ∧ (∀ y ∈ ys, 0 ≤ y ∧ y < 256) ∧ ys.length ≤ ss.length := by
  unfold ofL at h
  by_cases h1 : ss = [45]
  · rw [if_pos h1] at h
    cases h
    exact ⟨h1.symm, by simp, Nat.zero_le _⟩
  rw [if_neg h1] at h
  by_cases h2 : ss = []
  · rw [if_pos h2] at h; cases h
  rw [if_neg h2] at h
  obtain ⟨k1, k2, k3⟩ := ofB_some ss ys h
  refine ⟨?_, k2, by omega⟩
  unfold textL
  rw [if_neg (fun e => h2 (by rw [← k1, e]; rfl)), k1]
theorem ofB_odd : ∀ ss : List Int, ss.length % 2 = 1 → ofB ss = none
  | [], h => by simp at h
  | [_], _ => rfl
  | a :: b :: r, h => by
    rw [ofB, ofB_odd r (by simp only [List.length_cons] at h; omega)]
    split <;> rfl
/-- Bytes and fault behind Bytes(ss). -/
def unText (ss : List Int) : List Int × Int := match ofL ss with
  | some ys => (ys, 0)
  | none => ([], 4)


theorem unText_len (ss : List Int) : (unText ss).1.length ≤ ss.length := by
  unfold unText
  split
  · rename_i ys h; exact (ofL_some h).2.2
  · exact Nat.zero_le _
/-- Bytes without the noughts at their end, but for one byte. -/
def cutN (xs : List Int) : Nat → Nat
  | 0 => 0
  | n + 1 => if 0 < n ∧ xs.getD n 0 = 0 then cutN xs n else n + 1
theorem cutN_le (xs : List Int) : ∀ n, cutN xs n ≤ n
  | 0 => Nat.le_refl _
  | n + 1 => by
    unfold cutN
    split
    · exact Nat.le_trans (cutN_le xs n) (Nat.le_succ _)
    · exact Nat.le_refl _
theorem cutN_pos (xs : List Int) : ∀ n, 0 < n → 0 < cutN xs n
  | n + 1, _ => by
    unfold cutN
    split
    · rename_i h; exact cutN_pos xs n h.1
    · exact Nat.succ_pos _
/-- What is cut off is nought, and what is left ends otherwise (or is one byte). -/
theorem cutN_end (xs : List Int) : ∀ n, 1 < cutN xs n → xs.getD (cutN xs n - 1) 0 ≠ 0
  | 0, h => by simp [cutN] at h
  | n + 1, h => by
    unfold cutN at h ⊢
    split
    · rename_i hc; rw [if_pos hc] at h; exact cutN_end xs n h
    · rename_i hc; rw [if_neg hc] at h; intro h0; exact hc ⟨by omega, h0⟩
theorem cutN_zero (xs : List Int) : ∀ n i, cutN xs n ≤ i → i < n → xs.getD i 0 = 0
  | n + 1, i, h, hi => by
    unfold cutN at h
    split at h
    · rename_i hc
      by_cases e : i = n
      · rw [e]; exact hc.2
      · exact cutN_zero xs n i h (by omega)
    · omega
def idText (xs : List Int) : List Int := textL (xs.take (cutN xs 32))
/-- The id and the fault behind IdOf(ss). -/
def unId (ss : List Int) : List Int × Int := match ofL ss with
  | none => (List.replicate 32 0, 4)
  | some ys => if ys.length = 0 ∨ 32 < ys.length ∨ (1 < ys.length ∧ ys.getD (ys.length - 1) 0 = 0) then (List.replicate 32 0, 4) else (ys ++ List.replicate (32 - ys.length) 0, 0)
theorem take_getD (xs : List Int) (k i : Nat) (h : i < k) : (xs.take k).getD i 0 = xs.getD i 0 := by
  rw [List.getD_eq_getElem?_getD, List.getD_eq_getElem?_getD, List.getElem?_take_of_lt h]
theorem pad_cut {xs : List Int} (hl : xs.length = 32) (k : Nat) (hk : k ≤ 32) (h : ∀ i, k ≤ i → i < 32 → xs.getD i 0 = 0) : xs.take k ++ List.replicate (32 - k) 0 = xs := by
  apply List.ext_getElem?
  intro i
  by_cases h1 : i < k
  · rw [List.getElem?_append_left (by rw [List.length_take]; omega), List.getElem?_take_of_lt h1]
  · rw [List.getElem?_append_right (by rw [List.length_take]; omega), List.length_take, Nat.min_eq_left (by omega)]
    by_cases h2 : i < 32
    · have h3 := h i (by omega) h2
      rw [List.getD_eq_getElem?_getD, List.getElem?_eq_getElem (by omega)] at h3
      rw [List.getElem?_replicate, if_pos (by omega), List.getElem?_eq_getElem (by omega)]
      exact congrArg some h3.symm
    · rw [List.getElem?_replicate, if_neg (by omega), List.getElem?_eq_none (by omega)]
/-- An id's text is read as it was. -/
theorem unId_idText {xs : List Int} (hl : xs.length = 32) (h : ∀ x ∈ xs, 0 ≤ x ∧ x < 256) : unId (idText xs) = (xs, 0) := by
  have h1 := cutN_le xs 32
  have h2 := cutN_pos xs 32 (by decide)
  unfold unId idText
  rw [ofL_textL (fun x hx => h x (List.mem_of_mem_take hx))]
  have hk : (xs.take (cutN xs 32)).length = cutN xs 32 := by rw [List.length_take]; omega
  dsimp only
  rw [hk, if_neg]
  · rw [pad_cut hl _ h1 (fun i hi h' => cutN_zero xs 32 i hi h')]
  · rintro (h3 | h3 | ⟨h3, h4⟩)
    · omega
    · omega
    · rw [take_getD _ _ _ (by omega)] at h4
      exact cutN_end xs 32 h3 h4
theorem cutN_pad (ys : List Int) (h0 : 0 < ys.length) (he : ¬ (1 < ys.length ∧ ys.getD (ys.length - 1) 0 = 0)) : ∀ n, ys.length ≤ n → cutN (ys ++ List.replicate (32 - ys.length) 0) n = ys.length
  | 0, h => by omega
  | n + 1, h => by
    unfold cutN
    by_cases e : n + 1 = ys.length
    · rw [if_neg]
      · exact e
      · rintro ⟨h1, h2⟩
        apply he
        refine ⟨by omega, ?_⟩
        rw [List.getD_eq_getElem?_getD, List.getElem?_append_left (by omega), ← List.getD_eq_getElem?_getD] at h2
        rw [show ys.length - 1 = n by omega]
        exact h2
    · rw [if_pos]
      · exact cutN_pad ys h0 he n (by omega)
      · refine ⟨by omega, ?_⟩
        rw [List.getD_eq_getElem?_getD, List.getElem?_append_right (by omega), List.getElem?_replicate]
        split <;> rfl
/-- What is read as an id is its text. -/
theorem idText_unId {ss xs : List Int} (h : unId ss = (xs, 0)) : idText xs = ss := by
  unfold unId at h
  cases ho : ofL ss with
  | none => rw [ho] at h; cases h
  | some ys =>
    rw [ho] at h
    dsimp only at h
    by_cases hc : ys.length = 0 ∨ 32 < ys.length ∨ (1 < ys.length ∧ ys.getD (ys.length - 1) 0 = 0)
    · rw [if_pos hc] at h; cases h
    rw [if_neg hc] at h
    injection h with h _
    subst h
    have h0 : 0 < ys.length := by omega
    unfold idText
    rw [cutN_pad ys h0 (fun h => hc (.inr (.inr h))) 32 (by omega), List.take_left']
    · exact (ofL_some ho).1
    · rfl
theorem unId_len (ss : List Int) : (unId ss).1.length = 32 := by
  unfold unId
  split
  · rfl
  · split
    · rfl
    · simp; omega
theorem unId_range (ss : List Int) : ∀ x ∈ (unId ss).1, 0 ≤ x ∧ x < 256 := by
  unfold unId
  split
  · intro x hx; rw [List.eq_of_mem_replicate hx]; omega
  · rename_i ys ho
    split
    · intro x hx; rw [List.eq_of_mem_replicate hx]; omega
    · intro x hx
      rcases List.mem_append.1 hx with hx | hx
      · exact (ofL_some ho).2.1 x hx
      · rw [List.eq_of_mem_replicate hx]; omega
end Go.Proofs.YtbiabjehdmddbaaGreatDoor

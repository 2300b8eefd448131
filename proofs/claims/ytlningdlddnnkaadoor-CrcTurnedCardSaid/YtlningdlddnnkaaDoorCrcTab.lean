/-
  The sums of layer 11 by tables and by matrices: what a table of a byte's (or fewer bits') moves comes to; a move as a row of 32 sums, and its square; a move by a number of bytes, bit by bit of the number. No Go function is spoken of.
-/
import Derived.Test.YtlningdlddnnkaaDoorCrcNv
import Derived.Test.YtlningdlddnnkaaDoorByteMath
namespace Go.Proofs.YtlningdlddnnkaaDoor

theorem low_mod (x : BitVec 32) (k : Nat) : x ^^^ ((x >>> k) <<< k) = BitVec.ofNat 32 (x.toNat % 2 ^ k) := by
  apply BitVec.eq_of_getLsbD_eq
  intro i hi
  rw [BitVec.getLsbD_xor, BitVec.getLsbD_shiftLeft, BitVec.getLsbD_ushiftRight, BitVec.getLsbD_ofNat, Nat.testBit_mod_two_pow, show x.toNat.testBit i = x.getLsbD i from rfl]
  by_cases h : i < k
  · simp [h, hi]
  · rw [show k + (i - k) = i by omega]
    simp [h, hi]
/-- What a table of the moves of k bits holds at i. -/
def tabN (k i : Nat) : Int := nv (mvn k (BitVec.ofNat 32 i))
theorem low_step (X : BitVec 32) (k : Nat) (hk : k ≤ 32) : bits .xor .u32 (tabN k (X.toNat % 2 ^ k)) (nv X / 2 ^ k) = nv (mvn k X) := by
  unfold tabN
  rw [shr_nv, bits_xor, bv_nv, bv_nv, ← low_mod, ← mvn_low X k hk]
theorem nv_xor_byte (S : BitVec 32) (b : Int) (hb : 0 ≤ b ∧ b < 256) : bits .xor .u8 (nv S % 256) b = ((S ^^^ bv b).toNat % 2 ^ 8 : Nat) ∧ nv (S ^^^ bv b) / 2 ^ 8 = nv S / 2 ^ 8 := by
  obtain ⟨B, rfl⟩ := bv8_range b hb.1 hb.2
  have e : nv S % 256 = nv8 (S.setWidth 8) := by unfold nv nv8; rw [BitVec.toNat_setWidth]; omega
  have f : bv (nv8 B) = B.setWidth 32 := by
    unfold nv8
    rw [bv_natCast]
    apply BitVec.eq_of_toNat_eq
    simp
  constructor
  · rw [e, xor8, bv8_nv8, bv8_nv8, f]
    unfold nv8
    rw [← BitVec.toNat_setWidth]
    congr 2
    apply BitVec.eq_of_getLsbD_eq
    intro i hi
    have h32 : i < 32 := by omega
    simp [hi, h32]
  · rw [shr_nv, shr_nv, f]
    congr 1
    apply BitVec.eq_of_getLsbD_eq
    intro i hi
    rw [BitVec.getLsbD_ushiftRight, BitVec.getLsbD_ushiftRight, BitVec.getLsbD_xor, BitVec.getLsbD_setWidth, BitVec.getLsbD_of_ge B (8 + i) (by omega)]
    simp
/-- A byte taken in by a table of 256. -/
theorem tab_step (S : BitVec 32) (b : Int) (hb : 0 ≤ b ∧ b < 256) : ∃ i : Nat, bits .xor .u8 (nv S % 256) b = (i : Int) ∧ i < 256 ∧ bits .xor .u32 (tabN 8 i) (nv S / 2 ^ 8) = nv (mvn 8 (S ^^^ bv b)) := by
  obtain ⟨h1, h2⟩ := nv_xor_byte S b hb
  refine ⟨(S ^^^ bv b).toNat % 2 ^ 8, h1, Nat.mod_lt _ (by decide), ?_⟩
  rw [← h2]
  exact low_step (S ^^^ bv b) 8 (by decide)

/-- A move as a matrix: what each bit becomes. -/
def matK (k : Nat) : List Int := (List.range 32).map fun i => nv (mvn k (1#32 <<< i))
theorem matK_len (k : Nat) : (matK k).length = 32 := by simp [matK]
theorem matK_at (k i : Nat) (h : i < 32) : (matK k).getD i 0 = nv (mvn k (1#32 <<< i)) := by
  unfold matK
  rw [List.getD_eq_getElem?_getD, List.getElem?_map, List.getElem?_range h]
  rfl
theorem mat_step (k : Nat) (X : BitVec 32) (i : Nat) : mvn k (below X (i + 1)) = mvn k (below X i) ^^^ (if X.getLsbD i then mvn k (1#32 <<< i) else 0#32) := by
  rw [below, mvn_xor]
  by_cases h : X.getLsbD i
  · rw [if_pos h, if_pos h]
  · rw [if_neg h, if_neg h, mvn_zero]
theorem mat_square (k : Nat) (X : BitVec 32) : mvn k (mvn k X) = mvn (2 * k) X := by rw [← mvn_add, show k + k = 2 * k by omega]
theorem below_done (X : BitVec 32) (i : Nat) (hi : i ≤ 32) (h : X >>> i = 0#32) : below X i = X := by
  apply BitVec.eq_of_getLsbD_eq
  intro j hj
  rw [below_bit X i j hj hi]
  by_cases hl : j < i
  · simp [hl]
  · have h1 : (X >>> i).getLsbD (j - i) = false := by rw [h]; simp
    rw [BitVec.getLsbD_ushiftRight, show i + (j - i) = j by omega] at h1
    simp [hl, h1]
theorem shr_odd' (Y : BitVec 32) (i : Nat) : (nv Y / 2 ^ i % 2 = 1) ↔ Y.getLsbD i = true := by
  rw [shr_nv, nv_odd, BitVec.getLsbD_ushiftRight, Nat.add_zero]
theorem and1_32 (x : Int) : bits .and .u32 x 1 = x % 2 := by
  rw [bits_and, show bv 1 = 1#32 from rfl]
  unfold nv bv
  rw [BitVec.toNat_and, BitVec.toNat_ofInt, show (1#32 : BitVec 32).toNat = 1 from rfl, Nat.and_one_is_mod]
  omega
/-- A number of bytes, bit by bit: what is done behind t bits, and what the next one does. -/
theorem moved_step (n t : Nat) (X : BitVec 32) : mvn (8 * (n % 2 ^ (t + 1))) X = if n / 2 ^ t % 2 = 1 then mvn (8 * 2 ^ t) (mvn (8 * (n % 2 ^ t)) X) else mvn (8 * (n % 2 ^ t)) X := by
  rw [Nat.mod_pow_succ]
  by_cases h : n / 2 ^ t % 2 = 1
  · rw [if_pos h, h, Nat.mul_one, Nat.mul_add, mvn_add]
  · rw [if_neg h, show n / 2 ^ t % 2 = 0 by omega, Nat.mul_zero, Nat.add_zero]
theorem moved_done (n t : Nat) (X : BitVec 32) (h : n / 2 ^ t = 0) : mvn (8 * (n % 2 ^ t)) X = mvn (8 * n) X := by
  rw [Nat.mod_eq_of_lt ((Nat.div_eq_zero_iff_lt (Nat.two_pow_pos t)).1 h)]
end Go.Proofs.YtlningdlddnnkaaDoor

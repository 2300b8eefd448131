/-
  The sums of layer 11 on 32 bits: to move a sum ('mv', 'mvn'), bytes taken in ('more'): what goes over xor, what is moved away, what a turned bit does. No Go function is spoken of.
-/
import Derived.Test.YtlningdlddnnkaaDoorWordMath
namespace Go.Proofs.YtlningdlddnnkaaDoor

def crcP : BitVec 32 := 2197175160#32
/-- A sum moved by a bit. -/
def mv (x : BitVec 32) : BitVec 32 := (x >>> 1) ^^^ (if x.getLsbD 0 then crcP else 0#32)
def mvn : Nat → BitVec 32 → BitVec 32
  | 0, x => x
  | n + 1, x => mvn n (mv x)
theorem mv_zero : mv 0#32 = 0#32 := by decide
theorem mv_xor (x y : BitVec 32) : mv (x ^^^ y) = mv x ^^^ mv y := by
  unfold mv
  rw [BitVec.ushiftRight_xor_distrib, BitVec.getLsbD_xor]
  cases x.getLsbD 0 <;> cases y.getLsbD 0 <;> simp
  · rw [BitVec.xor_assoc]
  · rw [BitVec.xor_assoc, BitVec.xor_assoc, BitVec.xor_comm (y >>> 1)]
  · rw [BitVec.xor_assoc, ← BitVec.xor_assoc crcP, BitVec.xor_comm crcP, BitVec.xor_assoc, BitVec.xor_self, BitVec.xor_zero]
theorem mv_eq_zero {x : BitVec 32} (h : mv x = 0#32) : x = 0#32 := by
  unfold mv at h
  by_cases h0 : x.getLsbD 0
  · rw [if_pos h0] at h
    have h1 : ((x >>> 1) ^^^ crcP).getLsbD 31 = (0#32).getLsbD 31 := by rw [h]
    rw [BitVec.getLsbD_xor, BitVec.getLsbD_ushiftRight, BitVec.getLsbD_of_ge x (1 + 31) (by decide)] at h1
    exact absurd h1 (by decide)
  · rw [if_neg h0, BitVec.xor_zero] at h
    apply BitVec.eq_of_getLsbD_eq
    intro i hi
    cases i with
    | zero => simpa using h0
    | succ i =>
      have h1 : (x >>> 1).getLsbD i = (0#32).getLsbD i := by rw [h]
      rw [BitVec.getLsbD_ushiftRight, Nat.add_comm] at h1
      rw [h1]
      simp
theorem mvn_zero (n : Nat) : mvn n 0#32 = 0#32 := by
  induction n with
  | zero => rfl
  | succ n ih => rw [mvn, mv_zero, ih]
theorem mvn_xor (n : Nat) : ∀ x y : BitVec 32, mvn n (x ^^^ y) = mvn n x ^^^ mvn n y := by
  induction n with
  | zero => intro x y; rfl
  | succ n ih => intro x y; rw [mvn, mvn, mvn, mv_xor, ih]
theorem mvn_add (m : Nat) : ∀ (n : Nat) (x : BitVec 32), mvn (m + n) x = mvn n (mvn m x) := by
  induction m with
  | zero => intro n x; rw [Nat.zero_add]; rfl
  | succ m ih => intro n x; rw [Nat.succ_add, mvn, mvn, ih]
theorem mvn_eq_zero (n : Nat) : ∀ {x : BitVec 32}, mvn n x = 0#32 → x = 0#32 := by
  induction n with
  | zero => intro x h; exact h
  | succ n ih => intro x h; exact mv_eq_zero (ih h)
/-- A sum whose top bits are 0 is not touched by what is moved out below it. -/
theorem mv_shl (y : BitVec 32) (h : y.getLsbD 31 = false) : mv (y <<< 1) = y := by
  unfold mv
  rw [if_neg (by simp), BitVec.xor_zero]
  apply BitVec.eq_of_getLsbD_eq
  intro i hi
  rw [BitVec.getLsbD_ushiftRight, BitVec.getLsbD_shiftLeft]
  by_cases h1 : i = 31
  · subst h1
    rw [h]
    decide
  · have h2 : decide (1 + i < 32) = true := by simp; omega
    have h3 : decide (1 + i < 1) = false := by simp
    rw [h2, h3, Nat.add_sub_cancel_left]
    simp
theorem mvn_shl (k : Nat) : ∀ y : BitVec 32, k ≤ 32 → (∀ i, 32 - k ≤ i → y.getLsbD i = false) → mvn k (y <<< k) = y := by
  induction k with
  | zero => intro y _ _; simp [mvn]
  | succ k ih =>
    intro y hk h
    rw [mvn, BitVec.shiftLeft_add, mv_shl]
    · exact ih y (by omega) (fun i hi => h i (by omega))
    · rw [BitVec.getLsbD_shiftLeft]
      by_cases h1 : 31 < k
      · simp [h1]
      · rw [h (31 - k) (by omega)]
        simp
/-- Eight moves: those of the lowest byte, and the rest cut. -/
theorem mvn_low (x : BitVec 32) (k : Nat) (hk : k ≤ 32) : mvn k x = mvn k (x ^^^ ((x >>> k) <<< k)) ^^^ (x >>> k) := by
  have h : mvn k ((x >>> k) <<< k) = x >>> k := mvn_shl k _ hk (fun i hi => by
    rw [BitVec.getLsbD_ushiftRight]
    exact BitVec.getLsbD_of_ge x _ (by omega))
  have h2 := mvn_xor k x ((x >>> k) <<< k)
  rw [h] at h2
  rw [h2, BitVec.xor_assoc, BitVec.xor_self, BitVec.xor_zero]

/-- Bytes taken into a sum. -/
def more (s : BitVec 32) (bs : List (BitVec 32)) : BitVec 32 := bs.foldl (fun s b => mvn 8 (s ^^^ b)) s
/-- The sum of bytes behind a sum. -/
def crcOf (s : BitVec 32) (bs : List (BitVec 32)) : BitVec 32 := more (s ^^^ 4294967295#32) bs ^^^ 4294967295#32
theorem more_append (s : BitVec 32) (a b : List (BitVec 32)) : more s (a ++ b) = more (more s a) b := List.foldl_append ..
theorem more_cons (s b : BitVec 32) (bs : List (BitVec 32)) : more s (b :: bs) = more (mvn 8 (s ^^^ b)) bs := rfl
theorem crcOf_append (s : BitVec 32) (a b : List (BitVec 32)) : crcOf s (a ++ b) = crcOf (crcOf s a) b := by
  unfold crcOf
  rw [more_append, BitVec.xor_assoc (more _ a), BitVec.xor_self, BitVec.xor_zero]
theorem more_xor (d : BitVec 32) (bs : List (BitVec 32)) : ∀ s : BitVec 32, more (s ^^^ d) bs = more s bs ^^^ mvn (8 * bs.length) d := by
  induction bs generalizing d with
  | nil => intro s; rfl
  | cons b bs ih =>
    intro s
    rw [more_cons, more_cons, BitVec.xor_assoc, BitVec.xor_comm d b, ← BitVec.xor_assoc, mvn_xor, ih, List.length_cons, Nat.mul_succ, Nat.add_comm, mvn_add]
theorem crc_join (a b : List (BitVec 32)) : mvn (8 * b.length) (crcOf 0#32 a) ^^^ crcOf 0#32 b = crcOf 0#32 (a ++ b) := by
  have h : more (more (4294967295#32) a) b = more 4294967295#32 b ^^^ mvn (8 * b.length) (more 4294967295#32 a ^^^ 4294967295#32) := by
    rw [← more_xor, ← BitVec.xor_assoc, BitVec.xor_comm 4294967295#32, BitVec.xor_assoc, BitVec.xor_self, BitVec.xor_zero]
  unfold crcOf
  rw [BitVec.zero_xor, more_append, h, ← BitVec.xor_assoc, BitVec.xor_comm (mvn _ _)]

/-- One bit of bytes turned. -/
def turn : List (BitVec 32) → Nat → List (BitVec 32)
  | [], _ => []
  | b :: bs, t => if t < 8 then (b ^^^ (1#32 <<< t)) :: bs else b :: turn bs (t - 8)
theorem one_shl (t i : Nat) (ht : t < 32) (hi : 32 - t ≤ i) : (1#32).getLsbD i = false := by
  rw [BitVec.getLsbD_one]
  simp
  omega
theorem turn_len (bs : List (BitVec 32)) : ∀ t, (turn bs t).length = bs.length := by
  induction bs with
  | nil => intro t; rfl
  | cons b bs ih =>
    intro t
    unfold turn
    split
    · rfl
    · rw [List.length_cons, ih, List.length_cons]
theorem more_turn (bs : List (BitVec 32)) : ∀ (t : Nat) (s : BitVec 32), t < 8 * bs.length → more s (turn bs t) = more s bs ^^^ mvn (8 * bs.length - t) 1#32 := by
  induction bs with
  | nil => intro t s h; simp at h
  | cons b bs ih =>
    intro t s h
    rw [List.length_cons] at h
    unfold turn
    by_cases h8 : t < 8
    · rw [if_pos h8, more_cons, more_cons, ← BitVec.xor_assoc, mvn_xor, more_xor, ← mvn_add, List.length_cons]
      have e : 8 + 8 * bs.length = t + (8 * (bs.length + 1) - t) := by omega
      rw [e, mvn_add, mvn_shl t 1#32 (by omega) (fun i hi => one_shl t i (by omega) hi)]
    · rw [if_neg h8, more_cons, more_cons, ih (t - 8) _ (by omega), List.length_cons]
      congr 2
      omega
/-- Bits in a row turned: those of 'by' below i. -/
theorem mvn_bit (n i : Nat) (hi : i < 32) (hn : i ≤ n) : mvn (n - i) 1#32 = mvn n (1#32 <<< i) := by
  have e : n = i + (n - i) := by omega
  conv => rhs; rw [e, mvn_add, mvn_shl i 1#32 (by omega) (fun j hj => one_shl i j hi hj)]
/-- A word's bits below i. -/
def below (x : BitVec 32) : Nat → BitVec 32
  | 0 => 0#32
  | i + 1 => below x i ^^^ (if x.getLsbD i then 1#32 <<< i else 0#32)
theorem below_bit (x : BitVec 32) (i : Nat) : ∀ j, j < 32 → i ≤ 32 → (below x i).getLsbD j = (decide (j < i) && x.getLsbD j) := by
  induction i with
  | zero => intro j _ _; simp [below]
  | succ i ih =>
    intro j hj hi
    rw [below, BitVec.getLsbD_xor, ih j hj (by omega)]
    by_cases h : x.getLsbD i
    · rw [if_pos h, BitVec.getLsbD_shiftLeft, BitVec.getLsbD_one]
      by_cases e : j = i
      · subst e
        simp [h, hj]
      · by_cases l : j < i
        · have h1 : j < i + 1 := by omega
          simp [l, h1]
        · have h1 : ¬ j < i + 1 := by omega
          have h2 : ¬ (j - i = 0) := by omega
          simp [l, h1, h2]
    · rw [if_neg h]
      by_cases e : j = i
      · subst e
        simp [h]
      · by_cases l : j < i
        · have h1 : j < i + 1 := by omega
          simp [l, h1]
        · have h1 : ¬ j < i + 1 := by omega
          simp [l, h1]
theorem below_all (x : BitVec 32) : below x 32 = x := by
  apply BitVec.eq_of_getLsbD_eq
  intro j hj
  rw [below_bit x 32 j hj (Nat.le_refl _)]
  simp [hj]
end Go.Proofs.YtlningdlddnnkaaDoor

/-
  Texts of stages that were proved on their own, joined: CrcMath, CrcNv, CrcTab, HexMath. Each begins with its own words.
-/
import Derived.Test.YtinmmhbiomcdoaaGreatDoorWordMath
import Derived.Test.YtinmmhbiomcdoaaGreatDoorByteMath

/-
  The sums of layer 11 on 32 bits: to move a sum ('mv', 'mvn'), bytes taken in ('more'): what goes over xor, what is moved away, what a turned bit does. No Go function is spoken of.
-/
namespace Go.Proofs.YtinmmhbiomcdoaaGreatDoor

def crcP : BitVec 32 := 2197175160#32
/-- A sum moved by a bit. -/
def mv (x : BitVec 32) : BitVec 32 := (x >>> 1) ^^^ (if x.getLsbD 0 then crcP else 0#32)
def mvn : Nat → BitVec 32 → BitVec 32
  | 0, x => x
  | n + 1, x => mvn n (mv x)
theorem mv_zero : mv 0#32 = 0#32 := by decide
theorem mv_xor (x y : BitVec 32) : mv (x ^^^ y) = mv x ^^^ mv y := by
  unfold mv
  rw [BitVec.ushiftRight_xor_distrib, BitVec.getLsbD_xor]
  cases x.getLsbD 0 <;> cases y.getLsbD 0 <;> simp
  · rw [BitVec.xor_assoc]
  · rw [BitVec.xor_assoc, BitVec.xor_assoc, BitVec.xor_comm (y >>> 1)]
  · rw [BitVec.xor_assoc, ← BitVec.xor_assoc crcP, BitVec.xor_comm crcP, BitVec.xor_assoc, BitVec.xor_self, BitVec.xor_zero]
theorem mv_eq_zero {x : BitVec 32} (h : mv x = 0#32) : x = 0#32 := by
  unfold mv at h
  by_cases h0 : x.getLsbD 0
  · rw [if_pos h0] at h
    have h1 : ((x >>> 1) ^^^ crcP).getLsbD 31 = (0#32).getLsbD 31 := by rw [h]
    rw [BitVec.getLsbD_xor, BitVec.getLsbD_ushiftRight, BitVec.getLsbD_of_ge x (1 + 31) (by decide)] at h1
    exact absurd h1 (by decide)
  · rw [if_neg h0, BitVec.xor_zero] at h
    apply BitVec.eq_of_getLsbD_eq
    intro i hi
    cases i with
    | zero => simpa using h0
    | succ i =>
      have h1 : (x >>> 1).getLsbD i = (0#32).getLsbD i := by rw [h]
      rw [BitVec.getLsbD_ushiftRight, Nat.add_comm] at h1
      rw [h1]
      simp
theorem mvn_zero (n : Nat) : mvn n 0#32 = 0#32 := by
  induction n with
  | zero => rfl
  | succ n ih => rw [mvn, mv_zero, ih]
theorem mvn_xor (n : Nat) : ∀ x y : BitVec 32, mvn n (x ^^^ y) = mvn n x ^^^ mvn n y := by
  induction n with
  | zero => intro x y; rfl
  | succ n ih => intro x y; rw [mvn, mvn, mvn, mv_xor, ih]
theorem mvn_add (m : Nat) : ∀ (n : Nat) (x : BitVec 32), mvn (m + n) x = mvn n (mvn m x) := by
  induction m with
  | zero => intro n x; rw [Nat.zero_add]; rfl
  | succ m ih => intro n x; rw [Nat.succ_add, mvn, mvn, ih]
theorem mvn_eq_zero (n : Nat) : ∀ {x : BitVec 32}, mvn n x = 0#32 → x = 0#32 := by
  induction n with
  | zero => intro x h; exact h
  | succ n ih => intro x h; exact mv_eq_zero (ih h)
/-- A sum whose top bits are 0 is not touched by what is moved out below it. -/
theorem mv_shl (y : BitVec 32) (h : y.getLsbD 31 = false) : mv (y <<< 1) = y := by
  unfold mv
  rw [if_neg (by simp), BitVec.xor_zero]
  apply BitVec.eq_of_getLsbD_eq
  intro i hi
  rw [BitVec.getLsbD_ushiftRight, BitVec.getLsbD_shiftLeft]
  by_cases h1 : i = 31
  · subst h1
    rw [h]
    decide
  · have h2 : decide (1 + i < 32) = true := by simp; omega
    have h3 : decide (1 + i < 1) = false := by simp
    rw [h2, h3, Nat.add_sub_cancel_left]
    simp
theorem mvn_shl (k : Nat) : ∀ y : BitVec 32, k ≤ 32 → (∀ i, 32 - k ≤ i → y.getLsbD i = false) → mvn k (y <<< k) = y := by
  induction k with
  | zero => intro y _ _; simp [mvn]
  | succ k ih =>
    intro y hk h
    rw [mvn, BitVec.shiftLeft_add, mv_shl]
    · exact ih y (by omega) (fun i hi => h i (by omega))
    · rw [BitVec.getLsbD_shiftLeft]
      by_cases h1 : 31 < k
      · simp [h1]
      · rw [h (31 - k) (by omega)]
        simp
/-- Eight moves: those of the lowest byte, and the rest cut. -/
theorem mvn_low (x : BitVec 32) (k : Nat) (hk : k ≤ 32) : mvn k x = mvn k (x ^^^ ((x >>> k) <<< k)) ^^^ (x >>> k) := by
  have h : mvn k ((x >>> k) <<< k) = x >>> k := mvn_shl k _ hk (fun i hi => by
    rw [BitVec.getLsbD_ushiftRight]
    exact BitVec.getLsbD_of_ge x _ (by omega))
  have h2 := mvn_xor k x ((x >>> k) <<< k)
  rw [h] at h2
  rw [h2, BitVec.xor_assoc, BitVec.xor_self, BitVec.xor_zero]

/-- Bytes taken into a sum. -/
def more (s : BitVec 32) (bs : List (BitVec 32)) : BitVec 32 := bs.foldl (fun s b => mvn 8 (s ^^^ b)) s
/-- The sum of bytes behind a sum. -/
def crcOf (s : BitVec 32) (bs : List (BitVec 32)) : BitVec 32 := more (s ^^^ 4294967295#32) bs ^^^ 4294967295#32
theorem more_append (s : BitVec 32) (a b : List (BitVec 32)) : more s (a ++ b) = more (more s a) b := List.foldl_append ..
theorem more_cons (s b : BitVec 32) (bs : List (BitVec 32)) : more s (b :: bs) = more (mvn 8 (s ^^^ b)) bs := rfl
theorem crcOf_append (s : BitVec 32) (a b : List (BitVec 32)) : crcOf s (a ++ b) = crcOf (crcOf s a) b := by
  unfold crcOf
  rw [more_append, BitVec.xor_assoc (more _ a), BitVec.xor_self, BitVec.xor_zero]
theorem more_xor (d : BitVec 32) (bs : List (BitVec 32)) : ∀ s : BitVec 32, more (s ^^^ d) bs = more s bs ^^^ mvn (8 * bs.length) d := by
  induction bs generalizing d with
  | nil => intro s; rfl
  | cons b bs ih =>
    intro s
    rw [more_cons, more_cons, BitVec.xor_assoc, BitVec.xor_comm d b, ← BitVec.xor_assoc, mvn_xor, ih, List.length_cons, Nat.mul_succ, Nat.add_comm, mvn_add]
theorem crc_join (a b : List (BitVec 32)) : mvn (8 * b.length) (crcOf 0#32 a) ^^^ crcOf 0#32 b = crcOf 0#32 (a ++ b) := by
  have h : more (more (4294967295#32) a) b = more 4294967295#32 b ^^^ mvn (8 * b.length) (more 4294967295#32 a ^^^ 4294967295#32) := by
    rw [← more_xor, ← BitVec.xor_assoc, BitVec.xor_comm 4294967295#32, BitVec.xor_assoc, BitVec.xor_self, BitVec.xor_zero]
  unfold crcOf
  rw [BitVec.zero_xor, more_append, h, ← BitVec.xor_assoc, BitVec.xor_comm (mvn _ _)]

/-- One bit of bytes turned. -/
def turn : List (BitVec 32) → Nat → List (BitVec 32)
  | [], _ => []
  | b :: bs, t => if t < 8 then (b ^^^ (1#32 <<< t)) :: bs else b :: turn bs (t - 8)
theorem one_shl (t i : Nat) (ht : t < 32) (hi : 32 - t ≤ i) : (1#32).getLsbD i = false := by
  rw [BitVec.getLsbD_one]
  simp
  omega
theorem turn_len (bs : List (BitVec 32)) : ∀ t, (turn bs t).length = bs.length := by
  induction bs with
  | nil => intro t; rfl
  | cons b bs ih =>
    intro t
    unfold turn
    split
    · rfl
    · rw [List.length_cons, ih, List.length_cons]
theorem more_turn (bs : List (BitVec 32)) : ∀ (t : Nat) (s : BitVec 32), t < 8 * bs.length → more s (turn bs t) = more s bs ^^^ mvn (8 * bs.length - t) 1#32 := by
  induction bs with
  | nil => intro t s h; simp at h
  | cons b bs ih =>
    intro t s h
    rw [List.length_cons] at h
    unfold turn
    by_cases h8 : t < 8
    · rw [if_pos h8, more_cons, more_cons, ← BitVec.xor_assoc, mvn_xor, more_xor, ← mvn_add, List.length_cons]
      have e : 8 + 8 * bs.length = t + (8 * (bs.length + 1) - t) := by omega
      rw [e, mvn_add, mvn_shl t 1#32 (by omega) (fun i hi => one_shl t i (by omega) hi)]
    · rw [if_neg h8, more_cons, more_cons, ih (t - 8) _ (by omega), List.length_cons]
      congr 2
      omega
/-- Bits in a row turned: those of 'by' below i. -/
theorem mvn_bit (n i : Nat) (hi : i < 32) (hn : i ≤ n) : mvn (n - i) 1#32 = mvn n (1#32 <<< i) := by
  have e : n = i + (n - i) := by omega
  conv => rhs; rw [e, mvn_add, mvn_shl i 1#32 (by omega) (fun j hj => one_shl i j hi hj)]
/-- A word's bits below i. -/
def below (x : BitVec 32) : Nat → BitVec 32
  | 0 => 0#32
  | i + 1 => below x i ^^^ (if x.getLsbD i then 1#32 <<< i else 0#32)
theorem below_bit (x : BitVec 32) (i : Nat) : ∀ j, j < 32 → i ≤ 32 → (below x i).getLsbD j = (decide (j < i) && x.getLsbD j) := by
  induction i with
  | zero => intro j _ _; simp [below]
  | succ i ih =>
    intro j hj hi
    rw [below, BitVec.getLsbD_xor, ih j hj (by omega)]
    by_cases h : x.getLsbD i
    · rw [if_pos h, BitVec.getLsbD_shiftLeft, BitVec.getLsbD_one]
      by_cases e : j = i
      · subst e
        simp [h, hj]
      · by_cases l : j < i
        · have h1 : j < i + 1 := by omega
          simp [l, h1]
        · have h1 : ¬ j < i + 1 := by omega
          have h2 : ¬ (j - i = 0) := by omega
          simp [l, h1, h2]
    · rw [if_neg h]
      by_cases e : j = i
      · subst e
        simp [h]
      · by_cases l : j < i
        · have h1 : j < i + 1 := by omega
          simp [l, h1]
        · have h1 : ¬ j < i + 1 := by omega
          simp [l, h1]
theorem below_all (x : BitVec 32) : below x 32 = x := by
  apply BitVec.eq_of_getLsbD_eq
  intro j hj
  rw [below_bit x 32 j hj (Nat.le_refl _)]
  simp [hj]
end Go.Proofs.YtinmmhbiomcdoaaGreatDoor

/-
  The sums of layer 11 as the numbers that a program reckons with. No Go function is spoken of.
-/
namespace Go.Proofs.YtinmmhbiomcdoaaGreatDoor

theorem nv_odd (X : BitVec 32) : (nv X % 2 = 1) ↔ X.getLsbD 0 = true := by
  unfold nv
  rw [show X.getLsbD 0 = X.toNat.testBit 0 from rfl, Nat.testBit_zero]
  simp
  omega
theorem mv_odd {X : BitVec 32} (h : nv X % 2 = 1) : bits .xor .u32 (nv X / 2) 2197175160 = nv (mv X) := by
  have h2 := shr_nv X 1
  rw [show ((2 : Int) ^ 1) = 2 from rfl] at h2
  rw [h2, bits_xor, bv_nv]
  unfold mv
  rw [if_pos ((nv_odd X).1 h)]
  rfl
theorem mv_even {X : BitVec 32} (h : ¬ nv X % 2 = 1) : nv X / 2 = nv (mv X) := by
  have h2 := shr_nv X 1
  rw [show ((2 : Int) ^ 1) = 2 from rfl] at h2
  rw [h2]
  unfold mv
  rw [if_neg (fun h' => h ((nv_odd X).2 h')), BitVec.xor_zero]
theorem mvn_succ (k : Nat) (X : BitVec 32) : mvn (k + 1) X = mv (mvn k X) := by rw [mvn_add]; rfl
theorem xor_nv (X : BitVec 32) (b : Int) : bits .xor .u32 (nv X) b = nv (X ^^^ bv b) := by rw [bits_xor, bv_nv]
theorem nv_inj {X Y : BitVec 32} (h : nv X = nv Y) : X = Y := by
  have h1 : bv (nv X) = bv (nv Y) := by rw [h]
  rwa [bv_nv, bv_nv] at h1
/-- The bytes of a sum, as bits. -/
def bvs (xs : List Int) : List (BitVec 32) := xs.map bv
theorem bvs_len (xs : List Int) : (bvs xs).length = xs.length := List.length_map _
theorem bvs_append (xs ys : List Int) : bvs (xs ++ ys) = bvs xs ++ bvs ys := List.map_append
theorem more_take (s : BitVec 32) (xs : List Int) (j : Nat) (h : j < xs.length) : more s (bvs (xs.take (j + 1))) = mvn 8 (more s (bvs (xs.take j)) ^^^ bv (xs.getD j 0)) := by
  rw [List.take_succ_eq_append_getElem h, bvs_append, more_append, List.getD_eq_getElem?_getD, List.getElem?_eq_getElem h]
  rfl
end Go.Proofs.YtinmmhbiomcdoaaGreatDoor

/-
  The sums of layer 11 by tables and by matrices: what a table of a byte's (or fewer bits') moves comes to; a move as a row of 32 sums, and its square; a move by a number of bytes, bit by bit of the number. No Go function is spoken of.
-/
namespace Go.Proofs.YtinmmhbiomcdoaaGreatDoor

theorem low_mod (x : BitVec 32) (k : Nat) : x ^^^ ((x >>> k) <<< k) = BitVec.ofNat 32 (x.toNat % 2 ^ k) := by
  apply BitVec.eq_of_getLsbD_eq
  intro i hi
  rw [BitVec.getLsbD_xor, BitVec.getLsbD_shiftLeft, BitVec.getLsbD_ushiftRight, BitVec.getLsbD_ofNat, Nat.testBit_mod_two_pow, show x.toNat.testBit i = x.getLsbD i from rfl]
  by_cases h : i < k
  · simp [h, hi]
  · rw [show k + (i - k) = i by omega]
    simp [h, hi]
/-- What a table of the moves of k bits holds at i. -/
def tabN (k i : Nat) : Int := nv (mvn k (BitVec.ofNat 32 i))
theorem low_step (X : BitVec 32) (k : Nat) (hk : k ≤ 32) : bits .xor .u32 (tabN k (X.toNat % 2 ^ k)) (nv X / 2 ^ k) = nv (mvn k X) := by
  unfold tabN
  rw [shr_nv, bits_xor, bv_nv, bv_nv, ← low_mod, ← mvn_low X k hk]
theorem nv_xor_byte (S : BitVec 32) (b : Int) (hb : 0 ≤ b ∧ b < 256) : bits .xor .u8 (nv S % 256) b = ((S ^^^ bv b).toNat % 2 ^ 8 : Nat) ∧ nv (S ^^^ bv b) / 2 ^ 8 = nv S / 2 ^ 8 := by
  obtain ⟨B, rfl⟩ := bv8_range b hb.1 hb.2
  have e : nv S % 256 = nv8 (S.setWidth 8) := by unfold nv nv8; rw [BitVec.toNat_setWidth]; omega
  have f : bv (nv8 B) = B.setWidth 32 := by
    unfold nv8
    rw [bv_natCast]
    apply BitVec.eq_of_toNat_eq
    simp
  constructor
  · rw [e, xor8, bv8_nv8, bv8_nv8, f]
    unfold nv8
    rw [← BitVec.toNat_setWidth]
    congr 2
    apply BitVec.eq_of_getLsbD_eq
    intro i hi
    have h32 : i < 32 := by omega
    simp [hi, h32]
  · rw [shr_nv, shr_nv, f]
    congr 1
    apply BitVec.eq_of_getLsbD_eq
    intro i hi
    rw [BitVec.getLsbD_ushiftRight, BitVec.getLsbD_ushiftRight, BitVec.getLsbD_xor, BitVec.getLsbD_setWidth, BitVec.getLsbD_of_ge B (8 + i) (by omega)]
    simp
/-- A byte taken in by a table of 256. -/
theorem tab_step (S : BitVec 32) (b : Int) (hb : 0 ≤ b ∧ b < 256) : ∃ i : Nat, bits .xor .u8 (nv S % 256) b = (i : Int) ∧ i < 256 ∧ bits .xor .u32 (tabN 8 i) (nv S / 2 ^ 8) = nv (mvn 8 (S ^^^ bv b)) := by
  obtain ⟨h1, h2⟩ := nv_xor_byte S b hb
  refine ⟨(S ^^^ bv b).toNat % 2 ^ 8, h1, Nat.mod_lt _ (by decide), ?_⟩
  rw [← h2]
  exact low_step (S ^^^ bv b) 8 (by decide)

/-- A move as a matrix: what each bit becomes. -/
def matK (k : Nat) : List Int := (List.range 32).map fun i => nv (mvn k (1#32 <<< i))
theorem matK_len (k : Nat) : (matK k).length = 32 := by simp [matK]
theorem matK_at (k i : Nat) (h : i < 32) : (matK k).getD i 0 = nv (mvn k (1#32 <<< i)) := by
  unfold matK
  rw [List.getD_eq_getElem?_getD, List.getElem?_map, List.getElem?_range h]
  rfl
theorem mat_step (k : Nat) (X : BitVec 32) (i : Nat) : mvn k (below X (i + 1)) = mvn k (below X i) ^^^ (if X.getLsbD i then mvn k (1#32 <<< i) else 0#32) := by
  rw [below, mvn_xor]
  by_cases h : X.getLsbD i
  · rw [if_pos h, if_pos h]
  · rw [if_neg h, if_neg h, mvn_zero]
theorem mat_square (k : Nat) (X : BitVec 32) : mvn k (mvn k X) = mvn (2 * k) X := by rw [← mvn_add, show k + k = 2 * k by omega]
theorem below_done (X : BitVec 32) (i : Nat) (hi : i ≤ 32) (h : X >>> i = 0#32) : below X i = X := by
  apply BitVec.eq_of_getLsbD_eq
  intro j hj
  rw [below_bit X i j hj hi]
  by_cases hl : j < i
  · simp [hl]
  · have h1 : (X >>> i).getLsbD (j - i) = false := by rw [h]; simp
    rw [BitVec.getLsbD_ushiftRight, show i + (j - i) = j by omega] at h1
    simp [hl, h1]
theorem shr_odd' (Y : BitVec 32) (i : Nat) : (nv Y / 2 ^ i % 2 = 1) ↔ Y.getLsbD i = true := by
  rw [shr_nv, nv_odd, BitVec.getLsbD_ushiftRight, Nat.add_zero]
theorem and1_32 (x : Int) : bits .and .u32 x 1 = x % 2 := by
  rw [bits_and, show bv 1 = 1#32 from rfl]
  unfold nv bv
  rw [BitVec.toNat_and, BitVec.toNat_ofInt, show (1#32 : BitVec 32).toNat = 1 from rfl, Nat.and_one_is_mod]
  omega
/-- A number of bytes, bit by bit: what is done behind t bits, and what the next one does. -/
theorem moved_step (n t : Nat) (X : BitVec 32) : mvn (8 * (n % 2 ^ (t + 1))) X = if n / 2 ^ t % 2 = 1 then mvn (8 * 2 ^ t) (mvn (8 * (n % 2 ^ t)) X) else mvn (8 * (n % 2 ^ t)) X := by
  rw [Nat.mod_pow_succ]
  by_cases h : n / 2 ^ t % 2 = 1
  · rw [if_pos h, h, Nat.mul_one, Nat.mul_add, mvn_add]
  · rw [if_neg h, show n / 2 ^ t % 2 = 0 by omega, Nat.mul_zero, Nat.add_zero]
theorem moved_done (n t : Nat) (X : BitVec 32) (h : n / 2 ^ t = 0) : mvn (8 * (n % 2 ^ t)) X = mvn (8 * n) X := by
  rw [Nat.mod_eq_of_lt ((Nat.div_eq_zero_iff_lt (Nat.two_pow_pos t)).1 h)]
end Go.Proofs.YtinmmhbiomcdoaaGreatDoor

/-
  Bytes, ids and numbers as text (layer 12), as lists of numbers: signs and half bytes; text and back; digits and back. No Go function is spoken of.
-/
namespace Go.Proofs.YtinmmhbiomcdoaaGreatDoor

/-- A half byte's sign; a sign's half byte, -1 if it is none. -/
def sgn (d : Int) : Int := if d < 10 then 48 + d else 87 + d
def dig (c : Int) : Int := if 48 ≤ c ∧ c ≤ 57 then c - 48 else if 97 ≤ c ∧ c ≤ 102 then c - 87 else -1
theorem dig_sgn {d : Int} (h : 0 ≤ d ∧ d < 16) : dig (sgn d) = d := by unfold sgn dig; split <;> split <;> first | omega | (split <;> omega)
theorem sgn_dig {c : Int} (h : 0 ≤ dig c) : sgn (dig c) = c ∧ dig c < 16 := by unfold dig at h ⊢; unfold sgn; split at h <;> (try split at h) <;> constructor <;> repeat' split <;> omega
theorem sgn_range {d : Int} (h : 0 ≤ d ∧ d < 16) : 48 ≤ sgn d ∧ sgn d < 256 := by unfold sgn; split <;> omega
theorem sgn_ne {d : Int} (h : 0 ≤ d ∧ d < 16) : sgn d ≠ 45 := by unfold sgn; split <;> omega

def textB : List Int → List Int
  | [] => []
  | x :: r => sgn (x / 16) :: sgn (x % 16) :: textB r
def textL (xs : List Int) : List Int := if xs = [] then [45] else textB xs
def ofB : List Int → Option (List Int)
  | [] => some []
  | [_] => none
  | a :: b :: r => if dig a < 0 ∨ dig b < 0 then none else (ofB r).map (fun l => (16 * dig a + dig b) :: l)
def ofL (ss : List Int) : Option (List Int) := if ss = [45] then some [] else if ss = [] then none else ofB ss

theorem textB_append (a b : List Int) : textB (a ++ b) = textB a ++ textB b := by
  induction a with
  | nil => rfl
  | cons x a ih => show _ :: _ :: textB (a ++ b) = _; rw [ih]; rfl
theorem textB_len (xs : List Int) : (textB xs).length = 2 * xs.length := by
  induction xs with
  | nil => rfl
  | cons x r ih => show (textB r).length + 1 + 1 = 2 * (r.length + 1); omega
theorem half_range {x : Int} (h : 0 ≤ x ∧ x < 256) : (0 ≤ x / 16 ∧ x / 16 < 16) ∧ 0 ≤ x % 16 ∧ x % 16 < 16 := by omega
theorem textB_range {xs : List Int} (h : ∀ x ∈ xs, 0 ≤ x ∧ x < 256) : ∀ y ∈ textB xs, 0 ≤ y ∧ y < 256 := by
  induction xs with
  | nil => intro y hy; cases hy
  | cons x r ih =>
    intro y hy
    have hx := half_range (h x (by simp))
    rcases List.mem_cons.1 hy with rfl | hy
    · have := sgn_range hx.1; omega
    rcases List.mem_cons.1 hy with rfl | hy
    · have := sgn_range hx.2; omega
    exact ih (fun z hz => h z (by simp [hz])) y hy
theorem textL_range {xs : List Int} (h : ∀ x ∈ xs, 0 ≤ x ∧ x < 256) : ∀ y ∈ textL xs, 0 ≤ y ∧ y < 256 := by
  unfold textL
  split
  · intro y hy
    rw [List.mem_singleton.1 hy]
    omega
  · exact textB_range h
theorem textL_len (xs : List Int) : (textL xs).length ≤ 2 * xs.length + 1 := by
  unfold textL
  split
  · exact Nat.le_add_left _ _
  · rw [textB_len]; exact Nat.le_succ _
theorem ofB_textB {xs : List Int} (h : ∀ x ∈ xs, 0 ≤ x ∧ x < 256) : ofB (textB xs) = some xs := by
  induction xs with
  | nil => rfl
  | cons x r ih =>
    have hx := half_range (h x (by simp))
    show (if dig (sgn (x / 16)) < 0 ∨ dig (sgn (x % 16)) < 0 then none else (ofB (textB r)).map _) = _
    rw [dig_sgn hx.1, dig_sgn hx.2, if_neg (by omega), ih (fun z hz => h z (by simp [hz]))]
    show some ((16 * (x / 16) + x % 16) :: r) = _
    rw [show 16 * (x / 16) + x % 16 = x by omega]
/-- Text of bytes is read as they were. -/
theorem ofL_textL {xs : List Int} (h : ∀ x ∈ xs, 0 ≤ x ∧ x < 256) : ofL (textL xs) = some xs := by
  cases xs with
  | nil => rfl
  | cons x r =>
    have hx := half_range (h x (by simp))
    have e : textL (x :: r) = textB (x :: r) := if_neg (by simp)
    have e2 : textB (x :: r) = sgn (x / 16) :: sgn (x % 16) :: textB r := rfl
    unfold ofL
    rw [e, if_neg (by rw [e2]; intro e; injection e with e _; exact sgn_ne hx.1 e), if_neg (by rw [e2]; simp)]
    exact ofB_textB h
theorem ofB_some : ∀ (ss ys : List Int), ofB ss = some ys → textB ys = ss ∧ (∀ y ∈ ys, 0 ≤ y ∧ y < 256) ∧ ss.length = 2 * ys.length
  | [], ys, h => by cases h; exact ⟨rfl, by simp, rfl⟩
  | [_], ys, h => by cases h
  | a :: b :: r, ys, h => by
    rw [ofB] at h
    by_cases hd : dig a < 0 ∨ dig b < 0
    · rw [if_pos hd] at h; cases h
    rw [if_neg hd] at h
    obtain ⟨zs, hz, rfl⟩ := Option.map_eq_some_iff.1 h
    obtain ⟨h1, h2, h3⟩ := ofB_some r zs hz
    have ha := sgn_dig (c := a) (by omega)
    have hb := sgn_dig (c := b) (by omega)
    refine ⟨?_, ?_, by simp; omega⟩
    · show sgn ((16 * dig a + dig b) / 16) :: sgn ((16 * dig a + dig b) % 16) :: textB zs = _
      rw [show (16 * dig a + dig b) / 16 = dig a by omega, show (16 * dig a + dig b) % 16 = dig b by omega, ha.1, hb.1, h1]
    · intro y hy
      rcases List.mem_cons.1 hy with rfl | hy
      · omega
      · exact h2 y hy
/-- What is read as bytes is their text. -/
theorem ofL_some {ss ys : List Int} (h : ofL ss = some ys) : textL ys = ss ∧ (∀ y ∈ ys, 0 ≤ y ∧ y < 256) ∧ ys.length ≤ ss.length := by
  unfold ofL at h
  by_cases h1 : ss = [45]
  · rw [if_pos h1] at h
    cases h
    exact ⟨h1.symm, by simp, Nat.zero_le _⟩
  rw [if_neg h1] at h
  by_cases h2 : ss = []
  · rw [if_pos h2] at h; cases h
  rw [if_neg h2] at h
  obtain ⟨k1, k2, k3⟩ := ofB_some ss ys h
  refine ⟨?_, k2, by omega⟩
  unfold textL
  rw [if_neg (fun e => h2 (by rw [← k1, e]; rfl)), k1]
theorem ofB_odd : ∀ ss : List Int, ss.length % 2 = 1 → ofB ss = none
  | [], h => by simp at h
  | [_], _ => rfl
  | a :: b :: r, h => by
    rw [ofB, ofB_odd r (by simp only [List.length_cons] at h; omega)]
    split <;> rfl
/-- Bytes and fault behind Bytes(ss). -/
def unText (ss : List Int) : List Int × Int := match ofL ss with
  | some ys => (ys, 0)
  | none => ([], 4)


theorem unText_len (ss : List Int) : (unText ss).1.length ≤ ss.length := by
  unfold unText
  split
  · rename_i ys h; exact (ofL_some h).2.2
  · exact Nat.zero_le _
/-- Bytes without the noughts at their end, but for one byte. -/
def cutN (xs : List Int) : Nat → Nat
  | 0 => 0
  | n + 1 => if 0 < n ∧ xs.getD n 0 = 0 then cutN xs n else n + 1
theorem cutN_le (xs : List Int) : ∀ n, cutN xs n ≤ n
  | 0 => Nat.le_refl _
  | n + 1 => by
    unfold cutN
    split
    · exact Nat.le_trans (cutN_le xs n) (Nat.le_succ _)
    · exact Nat.le_refl _
theorem cutN_pos (xs : List Int) : ∀ n, 0 < n → 0 < cutN xs n
  | n + 1, _ => by
    unfold cutN
    split
    · rename_i h; exact cutN_pos xs n h.1
    · exact Nat.succ_pos _
/-- What is cut off is nought, and what is left ends otherwise (or is one byte). -/
theorem cutN_end (xs : List Int) : ∀ n, 1 < cutN xs n → xs.getD (cutN xs n - 1) 0 ≠ 0
  | 0, h => by simp [cutN] at h
  | n + 1, h => by
    unfold cutN at h ⊢
    split
    · rename_i hc; rw [if_pos hc] at h; exact cutN_end xs n h
    · rename_i hc; rw [if_neg hc] at h; intro h0; exact hc ⟨by omega, h0⟩
theorem cutN_zero (xs : List Int) : ∀ n i, cutN xs n ≤ i → i < n → xs.getD i 0 = 0
  | n + 1, i, h, hi => by
    unfold cutN at h
    split at h
    · rename_i hc
      by_cases e : i = n
      · rw [e]; exact hc.2
      · exact cutN_zero xs n i h (by omega)
    · omega
def idText (xs : List Int) : List Int := textL (xs.take (cutN xs 32))
/-- The id and the fault behind IdOf(ss). -/
def unId (ss : List Int) : List Int × Int := match ofL ss with
  | none => (List.replicate 32 0, 4)
  | some ys => if ys.length = 0 ∨ 32 < ys.length ∨ (1 < ys.length ∧ ys.getD (ys.length - 1) 0 = 0) then (List.replicate 32 0, 4) else (ys ++ List.replicate (32 - ys.length) 0, 0)
theorem take_getD (xs : List Int) (k i : Nat) (h : i < k) : (xs.take k).getD i 0 = xs.getD i 0 := by
  rw [List.getD_eq_getElem?_getD, List.getD_eq_getElem?_getD, List.getElem?_take_of_lt h]
theorem pad_cut {xs : List Int} (hl : xs.length = 32) (k : Nat) (hk : k ≤ 32) (h : ∀ i, k ≤ i → i < 32 → xs.getD i 0 = 0) : xs.take k ++ List.replicate (32 - k) 0 = xs := by
  apply List.ext_getElem?
  intro i
  by_cases h1 : i < k
  · rw [List.getElem?_append_left (by rw [List.length_take]; omega), List.getElem?_take_of_lt h1]
  · rw [List.getElem?_append_right (by rw [List.length_take]; omega), List.length_take, Nat.min_eq_left (by omega)]
    by_cases h2 : i < 32
    · have h3 := h i (by omega) h2
      rw [List.getD_eq_getElem?_getD, List.getElem?_eq_getElem (by omega)] at h3
      rw [List.getElem?_replicate, if_pos (by omega), List.getElem?_eq_getElem (by omega)]
      exact congrArg some h3.symm
    · rw [List.getElem?_replicate, if_neg (by omega), List.getElem?_eq_none (by omega)]
/-- An id's text is read as it was. -/
theorem unId_idText {xs : List Int} (hl : xs.length = 32) (h : ∀ x ∈ xs, 0 ≤ x ∧ x < 256) : unId (idText xs) = (xs, 0) := by
  have h1 := cutN_le xs 32
  have h2 := cutN_pos xs 32 (by decide)
  unfold unId idText
  rw [ofL_textL (fun x hx => h x (List.mem_of_mem_take hx))]
  have hk : (xs.take (cutN xs 32)).length = cutN xs 32 := by rw [List.length_take]; omega
  dsimp only
  rw [hk, if_neg]
  · rw [pad_cut hl _ h1 (fun i hi h' => cutN_zero xs 32 i hi h')]
  · rintro (h3 | h3 | ⟨h3, h4⟩)
    · omega
    · omega
    · rw [take_getD _ _ _ (by omega)] at h4
      exact cutN_end xs 32 h3 h4
theorem cutN_pad (ys : List Int) (h0 : 0 < ys.length) (he : ¬ (1 < ys.length ∧ ys.getD (ys.length - 1) 0 = 0)) : ∀ n, ys.length ≤ n → cutN (ys ++ List.replicate (32 - ys.length) 0) n = ys.length
  | 0, h => by omega
  | n + 1, h => by
    unfold cutN
    by_cases e : n + 1 = ys.length
    · rw [if_neg]
      · exact e
      · rintro ⟨h1, h2⟩
        apply he
        refine ⟨by omega, ?_⟩
        rw [List.getD_eq_getElem?_getD, List.getElem?_append_left (by omega), ← List.getD_eq_getElem?_getD] at h2
        rw [show ys.length - 1 = n by omega]
        exact h2
    · rw [if_pos]
      · exact cutN_pad ys h0 he n (by omega)
      · refine ⟨by omega, ?_⟩
        rw [List.getD_eq_getElem?_getD, List.getElem?_append_right (by omega), List.getElem?_replicate]
        split <;> rfl
/-- What is read as an id is its text. -/
theorem idText_unId {ss xs : List Int} (h : unId ss = (xs, 0)) : idText xs = ss := by
  unfold unId at h
  cases ho : ofL ss with
  | none => rw [ho] at h; cases h
  | some ys =>
    rw [ho] at h
    dsimp only at h
    by_cases hc : ys.length = 0 ∨ 32 < ys.length ∨ (1 < ys.length ∧ ys.getD (ys.length - 1) 0 = 0)
    · rw [if_pos hc] at h; cases h
    rw [if_neg hc] at h
    injection h with h _
    subst h
    have h0 : 0 < ys.length := by omega
    unfold idText
    rw [cutN_pad ys h0 (fun h => hc (.inr (.inr h))) 32 (by omega), List.take_left']
    · exact (ofL_some ho).1
    · rfl
theorem unId_len (ss : List Int) : (unId ss).1.length = 32 := by
  unfold unId
  split
  · rfl
  · split
    · rfl
    · simp; omega
theorem unId_range (ss : List Int) : ∀ x ∈ (unId ss).1, 0 ≤ x ∧ x < 256 := by
  unfold unId
  split
  · intro x hx; rw [List.eq_of_mem_replicate hx]; omega
  · rename_i ys ho
    split
    · intro x hx; rw [List.eq_of_mem_replicate hx]; omega
    · intro x hx
      rcases List.mem_append.1 hx with hx | hx
      · exact (ofL_some ho).2.1 x hx
      · rw [List.eq_of_mem_replicate hx]; omega
end Go.Proofs.YtinmmhbiomcdoaaGreatDoor

/-
  Texts of stages that were proved on their own, joined: CrcMath, CrcNv, CrcTab, HexMath. Each begins with its own words.
-/
import Derived.Test.YtcohbhimhacedaaGreatDoorWordMath
import Derived.Test.YtcohbhimhacedaaGreatDoorByteMath

/-
  The sums of layer 11 on 32 bits: to move a sum ('mv', 'mvn'), bytes taken in ('more'): what goes over xor, what is moved away, what a turned bit does. No Go function is spoken of.
-/
namespace Go.Proofs.YtcohbhimhacedaaGreatDoor

def crcP : BitVec 32 := 2197175160#32
/-- A sum moved by a bit. -/
def mv (x : BitVec 32) : BitVec 32 := (x >>> 1) ^^^ (if x.getLsbD 0 then crcP else 0#32)
def mvn : Nat → BitVec 32 → BitVec 32
  | 0, x => x
  | n + 1, x => mvn n (mv x)
theorem mv_xor (x y : BitVec 32) : mv (x ^^^ y) = mv x ^^^ mv y := by
  unfold mv
  rw [BitVec.ushiftRight_xor_distrib, BitVec.getLsbD_xor]
  cases x.getLsbD 0 <;> cases y.getLsbD 0 <;> simp
  · rw [BitVec.xor_assoc]
  · rw [BitVec.xor_assoc, BitVec.xor_assoc, BitVec.xor_comm (y >>> 1)]
  · rw [BitVec.xor_assoc, ← BitVec.xor_assoc crcP, BitVec.xor_comm crcP, BitVec.xor_assoc, BitVec.xor_self, BitVec.xor_zero]
theorem mvn_xor (n : Nat) : ∀ x y : BitVec 32, mvn n (x ^^^ y) = mvn n x ^^^ mvn n y := by
  induction n with
  | zero => intro x y; rfl
  | succ n ih => intro x y; rw [mvn, mvn, mvn, mv_xor, ih]
theorem mvn_add (m : Nat) : ∀ (n : Nat) (x : BitVec 32), mvn (m + n) x = mvn n (mvn m x) := by
  induction m with
  | zero => intro n x; rw [Nat.zero_add]; rfl
  | succ m ih => intro n x; rw [Nat.succ_add, mvn, mvn, ih]
/-- A sum whose top bits are 0 is not touched by what is moved out below it. -/
theorem mv_shl (y : BitVec 32) (h : y.getLsbD 31 = false) : mv (y <<< 1) = y := by
  unfold mv
  rw [if_neg (by simp), BitVec.xor_zero]
  apply BitVec.eq_of_getLsbD_eq
  intro i hi
  rw [BitVec.getLsbD_ushiftRight, BitVec.getLsbD_shiftLeft]
  by_cases h1 : i = 31
  · subst h1
    rw [h]
    decide
  · have h2 : decide (1 + i < 32) = true := by simp; omega
    have h3 : decide (1 + i < 1) = false := by simp
    rw [h2, h3, Nat.add_sub_cancel_left]
    simp
theorem mvn_shl (k : Nat) : ∀ y : BitVec 32, k ≤ 32 → (∀ i, 32 - k ≤ i → y.getLsbD i = false) → mvn k (y <<< k) = y := by
  induction k with
  | zero => intro y _ _; simp [mvn]
  | succ k ih =>
    intro y hk h
    rw [mvn, BitVec.shiftLeft_add, mv_shl]
    · exact ih y (by omega) (fun i hi => h i (by omega))
    · rw [BitVec.getLsbD_shiftLeft]
      by_cases h1 : 31 < k
      · simp [h1]
      · rw [h (31 - k) (by omega)]
        simp
/-- Eight moves: those of the lowest byte, and the rest cut. -/
theorem mvn_low (x : BitVec 32) (k : Nat) (hk : k ≤ 32) : mvn k x = mvn k (x ^^^ ((x >>> k) <<< k)) ^^^ (x >>> k) := by
  have h : mvn k ((x >>> k) <<< k) = x >>> k := mvn_shl k _ hk (fun i hi => by
    rw [BitVec.getLsbD_ushiftRight]
    exact BitVec.getLsbD_of_ge x _ (by omega))
  have h2 := mvn_xor k x ((x >>> k) <<< k)
  rw [h] at h2
  rw [h2, BitVec.xor_assoc, BitVec.xor_self, BitVec.xor_zero]

/-- Bytes taken into a sum. -/
def more (s : BitVec 32) (bs : List (BitVec 32)) : BitVec 32 := bs.foldl (fun s b => mvn 8 (s ^^^ b)) s
/-- The sum of bytes behind a sum. -/
def crcOf (s : BitVec 32) (bs : List (BitVec 32)) : BitVec 32 := more (s ^^^ 4294967295#32) bs ^^^ 4294967295#32
theorem more_append (s : BitVec 32) (a b : List (BitVec 32)) : more s (a ++ b) = more (more s a) b := List.foldl_append ..
theorem crcOf_append (s : BitVec 32) (a b : List (BitVec 32)) : crcOf s (a ++ b) = crcOf (crcOf s a) b := by
  unfold crcOf
  rw [more_append, BitVec.xor_assoc (more _ a), BitVec.xor_self, BitVec.xor_zero]
/-- One bit of bytes turned. -/
def turn : List (BitVec 32) → Nat → List (BitVec 32)
  | [], _ => []
  | b :: bs, t => if t < 8 then (b ^^^ (1#32 <<< t)) :: bs else b :: turn bs (t - 8)
/-- A word's bits below i. -/
def below (x : BitVec 32) : Nat → BitVec 32
  | 0 => 0#32
  | i + 1 => below x i ^^^ (if x.getLsbD i then 1#32 <<< i else 0#32)
end Go.Proofs.YtcohbhimhacedaaGreatDoor

/-
  The sums of layer 11 as the numbers that a program reckons with. No Go function is spoken of.
-/
namespace Go.Proofs.YtcohbhimhacedaaGreatDoor

theorem nv_odd (X : BitVec 32) : (nv X % 2 = 1) ↔ X.getLsbD 0 = true := by
  unfold nv
  rw [show X.getLsbD 0 = X.toNat.testBit 0 from rfl, Nat.testBit_zero]
  simp
  omega
theorem mv_odd {X : BitVec 32} (h : nv X % 2 = 1) : bits .xor .u32 (nv X / 2) 2197175160 = nv (mv X) := by
  have h2 := shr_nv X 1
  rw [show ((2 : Int) ^ 1) = 2 from rfl] at h2
  rw [h2, bits_xor, bv_nv]
  unfold mv
  rw [if_pos ((nv_odd X).1 h)]
  rfl
theorem mv_even {X : BitVec 32} (h : ¬ nv X % 2 = 1) : nv X / 2 = nv (mv X) := by
  have h2 := shr_nv X 1
  rw [show ((2 : Int) ^ 1) = 2 from rfl] at h2
  rw [h2]
  unfold mv
  rw [if_neg (fun h' => h ((nv_odd X).2 h')), BitVec.xor_zero]
theorem mvn_succ (k : Nat) (X : BitVec 32) : mvn (k + 1) X = mv (mvn k X) := by rw [mvn_add]; rfl
theorem xor_nv (X : BitVec 32) (b : Int) : bits .xor .u32 (nv X) b = nv (X ^^^ bv b) := by rw [bits_xor, bv_nv]
/-- The bytes of a sum, as bits. -/
def bvs (xs : List Int) : List (BitVec 32) := xs.map bv
theorem bvs_append (xs ys : List Int) : bvs (xs ++ ys) = bvs xs ++ bvs ys := List.map_append
theorem more_take (s : BitVec 32) (xs : List Int) (j : Nat) (h : j < xs.length) : more s (bvs (xs.take (j + 1))) = mvn 8 (more s (bvs (xs.take j)) ^^^ bv (xs.getD j 0)) := by
  rw [List.take_succ_eq_append_getElem h, bvs_append, more_append, List.getD_eq_getElem?_getD, List.getElem?_eq_getElem h]
  rfl
end Go.Proofs.YtcohbhimhacedaaGreatDoor

/-
  The sums of layer 11 by tables and by matrices: what a table of a byte's (or fewer bits') moves comes to; a move as a row of 32 sums, and its square; a move by a number of bytes, bit by bit of the number. No Go function is spoken of.
-/
namespace Go.Proofs.YtcohbhimhacedaaGreatDoor

theorem low_mod (x : BitVec 32) (k : Nat) : x ^^^ ((x >>> k) <<< k) = BitVec.ofNat 32 (x.toNat % 2 ^ k) := by
  apply BitVec.eq_of_getLsbD_eq
  intro i hi
  rw [BitVec.getLsbD_xor, BitVec.getLsbD_shiftLeft, BitVec.getLsbD_ushiftRight, BitVec.getLsbD_ofNat, Nat.testBit_mod_two_pow, show x.toNat.testBit i = x.getLsbD i from rfl]
  by_cases h : i < k
  · simp [h, hi]
  · rw [show k + (i - k) = i by omega]
    simp [h, hi]
/-- What a table of the moves of k bits holds at i. -/
def tabN (k i : Nat) : Int := nv (mvn k (BitVec.ofNat 32 i))
theorem low_step (X : BitVec 32) (k : Nat) (hk : k ≤ 32) : bits .xor .u32 (tabN k (X.toNat % 2 ^ k)) (nv X / 2 ^ k) = nv (mvn k X) := by
  unfold tabN
  rw [shr_nv, bits_xor, bv_nv, bv_nv, ← low_mod, ← mvn_low X k hk]
/-- A move as a matrix: what each bit becomes. -/
def matK (k : Nat) : List Int := (List.range 32).map fun i => nv (mvn k (1#32 <<< i))
end Go.Proofs.YtcohbhimhacedaaGreatDoor

/-
  Bytes, ids and numbers as text (layer 12), as lists of numbers: signs and half bytes; text and back; digits and back. No Go function is spoken of.
-/
namespace Go.Proofs.YtcohbhimhacedaaGreatDoor

/-- A half byte's sign; a sign's half byte, -1 if it is none. -/
def sgn (d : Int) : Int := if d < 10 then 48 + d else 87 + d
def dig (c : Int) : Int := if 48 ≤ c ∧ c ≤ 57 then c - 48 else if 97 ≤ c ∧ c ≤ 102 then c - 87 else -1
def textB : List Int → List Int
  | [] => []
  | x :: r => sgn (x / 16) :: sgn (x % 16) :: textB r
def textL (xs : List Int) : List Int := if xs = [] then [45] else textB xs
def ofB : List Int → Option (List Int)
  | [] => some []
  | [_] => none
  | a :: b :: r => if dig a < 0 ∨ dig b < 0 then none else (ofB r).map (fun l => (16 * dig a + dig b) :: l)
def ofL (ss : List Int) : Option (List Int) := if ss = [45] then some [] else if ss = [] then none else ofB ss

/-- Bytes and fault behind Bytes(ss). -/
def unText (ss : List Int) : List Int × Int := match ofL ss with
  | some ys => (ys, 0)
  | none => ([], 4)


/-- Bytes without the noughts at their end, but for one byte. -/
def cutN (xs : List Int) : Nat → Nat
  | 0 => 0
  | n + 1 => if 0 < n ∧ xs.getD n 0 = 0 then cutN xs n else n + 1
def idText (xs : List Int) : List Int := textL (xs.take (cutN xs 32))
/-- The id and the fault behind IdOf(ss). -/
def unId (ss : List Int) : List Int × Int := match ofL ss with
  | none => (List.replicate 32 0, 4)
  | some ys => if ys.length = 0 ∨ 32 < ys.length ∨ (1 < ys.length ∧ ys.getD (ys.length - 1) 0 = 0) then (List.replicate 32 0, 4) else (ys ++ List.replicate (32 - ys.length) 0, 0)
end Go.Proofs.YtcohbhimhacedaaGreatDoor

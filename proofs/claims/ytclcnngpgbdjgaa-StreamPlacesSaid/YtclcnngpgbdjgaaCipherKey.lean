/-
  The key's words and the round keys' bytes, on plain numbers: a word from the one ahead of it and the one eight before. Conditions: words are numbers below 2^32.
-/
import Derived.Test.YtclcnngpgbdjgaaCipherBlk
import Derived.Test.YtclcnngpgbdjgaaWordBytes
namespace Go.Proofs.Ytclcnngpgbdjgaa
open Go.RowKit

/-- All are words. -/
def Wd (f : Nat → Nat) : Prop := ∀ i, f i < 4294967296
def rl8 (x : Nat) : Nat := (x * 256 % 4294967296) ||| (x / 16777216)
theorem rl8_lt (x : Nat) (h : x < 4294967296) : rl8 x < 4294967296 := Nat.or_lt_two_pow (n := 32) (Nat.mod_lt _ (by decide)) (Nat.lt_of_le_of_lt (Nat.div_le_self _ _) h)
theorem rotl_rl8 (x : Nat) (h : x < 4294967296) : rotl (x : Int) 8 = (rl8 x : Nat) := by
  rw [← rotl_eq (x : Int) 8 8 (by decide), ← wrap_rl (x : Int) 8 (by omega) (by omega) (by decide), IntKind.wrap_u32]
  have e1 : (x : Int) * 2 ^ 8 % 4294967296 = ((x * 256 % 4294967296 : Nat) : Int) := by omega
  have e2 : (x : Int) / 2 ^ (32 - 8) = ((x / 16777216 : Nat) : Int) := by
    rw [show ((2 : Int) ^ (32 - 8)) = 16777216 by decide]; omega
  rw [e1, e2]
  exact bits_or32 _ _ (Nat.mod_lt _ (by decide)) (Nat.lt_of_le_of_lt (Nat.div_le_self _ _) h)
/-- What the word ahead of the word t gives to it. -/
def chg (t x : Nat) : Nat := if t % 8 = 0 then bwd sb (rl8 x) 4 ^^^ (pw 2 (t / 8 - 1) * 16777216) else if t % 8 = 4 then bwd sb x 4 else x
theorem wd4_lt (x : Nat) : bwd sb x 4 < 4294967296 := wd_lt sb sb_256 x 4
theorem pw2_lt (n : Nat) : pw 2 n * 16777216 < 4294967296 := by
  have := pw_256 (a := 2) n
  omega
theorem chg_lt (t x : Nat) (h : x < 4294967296) : chg t x < 4294967296 := by
  unfold chg
  split
  · exact Nat.xor_lt_two_pow (n := 32) (wd4_lt _) (pw2_lt _)
  · split
    · exact wd4_lt _
    · exact h
/-- The words, n more than the key's own. -/
def kws (u : Nat → Nat) : Nat → Nat → Nat
  | 0 => u
  | n + 1 => upd (kws u n) (8 + n) (kws u n n ^^^ chg (8 + n) (kws u n (7 + n)))
theorem kws_wd {u : Nat → Nat} (h : Wd u) : ∀ n, Wd (kws u n)
  | 0 => h
  | n + 1 => fun i => by
    show upd _ _ _ i < _
    unfold upd
    split
    · exact Nat.xor_lt_two_pow (n := 32) (kws_wd h n n) (chg_lt _ _ (kws_wd h n _))
    · exact kws_wd h n i
/-- The bytes of words. -/
def kb (W : Nat → Nat) (j : Nat) : Nat := W (j / 4) / 2 ^ (8 * (3 - j % 4)) % 256
theorem kb_by (W : Nat → Nat) : By (kb W) := fun _ => Nat.mod_lt _ (by decide)
/-- Words as a list of numbers. -/
def wordsL (n : Nat) (f : Nat → Nat) (s : Nat) : List Int := (List.range n).map fun i => (f (s + i) : Int)
theorem wordsL_len (n : Nat) (f : Nat → Nat) (s : Nat) : (wordsL n f s).length = n := by simp [wordsL]
theorem wordsL_at (n : Nat) (f : Nat → Nat) (s i : Nat) (hi : i < n) : (wordsL n f s).getD i 0 = (f (s + i) : Int) := by
  simp [wordsL, List.getD_eq_getElem?_getD, hi]
theorem wordsL_range {f : Nat → Nat} (h : Wd f) (n s : Nat) : ∀ x ∈ wordsL n f s, 0 ≤ x ∧ x < 4294967296 := by
  intro x hx
  obtain ⟨i, _, rfl⟩ := List.mem_map.1 hx
  have := h (s + i)
  omega
theorem bytes4_row (x : Nat) (h : x < 4294967296) : bytes4 (x : Int) = [((x / 2 ^ 24 % 256 : Nat) : Int), ((x / 2 ^ 16 % 256 : Nat) : Int), ((x / 2 ^ 8 % 256 : Nat) : Int), ((x / 2 ^ 0 % 256 : Nat) : Int)] := by
  unfold bytes4
  have e0 : (x : Int) / 16777216 = ((x / 2 ^ 24 % 256 : Nat) : Int) := by omega
  have e1 : (x : Int) / 65536 % 256 = ((x / 2 ^ 16 % 256 : Nat) : Int) := by omega
  have e2 : (x : Int) / 256 % 256 = ((x / 2 ^ 8 % 256 : Nat) : Int) := by omega
  have e3 : (x : Int) % 256 = ((x / 2 ^ 0 % 256 : Nat) : Int) := by omega
  rw [e0, e1, e2, e3]
theorem kb_at (W : Nat → Nat) (r i j : Nat) (hj : j < 4) : kb W (16 * r + (4 * i + j)) = W (4 * r + i) / 2 ^ (8 * (3 - j)) % 256 := by
  unfold kb
  rw [show (16 * r + (4 * i + j)) / 4 = 4 * r + i by omega, show (16 * r + (4 * i + j)) % 4 = j by omega]
theorem bytes_key (W : Nat → Nat) (h : Wd W) (r : Nat) : (bytesOf (wordsL 4 W (4 * r))).map (Value.int .u8) = rowN 16 (fun i => kb W (16 * r + i)) := by
  have e : bytesOf (wordsL 4 W (4 * r)) = bytes4 (W (4 * r + 0) : Int) ++ (bytes4 (W (4 * r + 1) : Int) ++ (bytes4 (W (4 * r + 2) : Int) ++ (bytes4 (W (4 * r + 3) : Int) ++ []))) := rfl
  rw [e, bytes4_row _ (h _), bytes4_row _ (h _), bytes4_row _ (h _), bytes4_row _ (h _)]
  have l : rowN 16 (fun i => kb W (16 * r + i)) = [0, 1, 2, 3, 4, 5, 6, 7, 8, 9, 10, 11, 12, 13, 14, 15].map fun i => Value.int .u8 ((kb W (16 * r + i) : Nat) : Int) := rfl
  rw [l]
  have k0 := kb_at W r 0 0 (by decide)
  have k1 := kb_at W r 0 1 (by decide)
  have k2 := kb_at W r 0 2 (by decide)
  have k3 := kb_at W r 0 3 (by decide)
  have k4 := kb_at W r 1 0 (by decide)
  have k5 := kb_at W r 1 1 (by decide)
  have k6 := kb_at W r 1 2 (by decide)
  have k7 := kb_at W r 1 3 (by decide)
  have k8 := kb_at W r 2 0 (by decide)
  have k9 := kb_at W r 2 1 (by decide)
  have k10 := kb_at W r 2 2 (by decide)
  have k11 := kb_at W r 2 3 (by decide)
  have k12 := kb_at W r 3 0 (by decide)
  have k13 := kb_at W r 3 1 (by decide)
  have k14 := kb_at W r 3 2 (by decide)
  have k15 := kb_at W r 3 3 (by decide)
  simp only [Nat.mul_zero, Nat.mul_one, Nat.zero_add, Nat.reduceMul, Nat.reduceAdd, Nat.reduceSub] at k0 k1 k2 k3 k4 k5 k6 k7 k8 k9 k10 k11 k12 k13 k14 k15
  simp only [List.map_cons, List.map_nil, List.cons_append, List.nil_append, k0, k1, k2, k3, k4, k5, k6, k7, k8, k9, k10, k11, k12, k13, k14, k15]
end Go.Proofs.Ytclcnngpgbdjgaa

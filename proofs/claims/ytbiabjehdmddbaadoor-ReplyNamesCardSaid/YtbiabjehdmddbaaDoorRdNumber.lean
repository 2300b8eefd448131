/-
  The document's own bytes of a number (layer 9). New memory alone is written. Conditions: a width from 0 to 8; the number is below 2^64.
-/
import Derived.Test.YtbiabjehdmddbaaDoorRdModel
namespace Go.Proofs.YtbiabjehdmddbaaDoor
open Go.RowKit

/-- The lowest k bytes of a number, the highest first. -/
def beL (n : Int) : Nat → List Int
  | 0 => []
  | k + 1 => beL (n / 256) k ++ [n % 256]
theorem beL_len (n : Int) : ∀ k, (beL n k).length = k
  | 0 => rfl
  | k + 1 => by rw [beL, List.length_append, beL_len (n / 256) k]; rfl
theorem beL_range : ∀ (k : Nat) (n : Int), ∀ x ∈ beL n k, 0 ≤ x ∧ x < 256
  | 0, n, x, h => by simp [beL] at h
  | k + 1, n, x, h => by
    rw [beL, List.mem_append] at h
    rcases h with h | h
    · exact beL_range k _ x h
    · have := List.mem_singleton.1 h; omega
theorem be_beL : ∀ (k : Nat) (n : Int), 0 ≤ n → n < 256 ^ k → be (beL n k) = n
  | 0, n, h0, h1 => by
    have h2 : n = 0 := by simp at h1; omega
    rw [h2]; rfl
  | k + 1, n, h0, h1 => by
    rw [beL, be_snoc, be_beL k (n / 256) (by omega) (by rw [Int.pow_succ] at h1; omega)]
    omega
/-- Byte by byte from the top: the first j bytes of the k. -/
theorem beL_take : ∀ (k : Nat) (n : Int) (j : Nat), j < k → (beL n k).take (j + 1) = (beL n k).take j ++ [n / 256 ^ (k - 1 - j) % 256] := by
  intro k
  induction k with
  | zero => intro n j h; omega
  | succ k ih =>
    intro n j h
    rw [beL]
    by_cases hj : j < k
    · have e1 : (beL (n / 256) k ++ [n % 256]).take (j + 1) = (beL (n / 256) k).take (j + 1) := List.take_append_of_le_length (by rw [beL_len]; omega)
      have e2 : (beL (n / 256) k ++ [n % 256]).take j = (beL (n / 256) k).take j := List.take_append_of_le_length (by rw [beL_len]; omega)
      rw [e1, e2, ih (n / 256) j hj]
      congr 2
      rw [Int.ediv_ediv_of_nonneg (by decide), Int.mul_comm, ← Int.pow_succ, show (k - 1 - j).succ = k + 1 - 1 - j by omega]
    · obtain rfl : j = k := by omega
      rw [List.take_of_length_le (by simp [beL_len]), List.take_append_of_le_length (by rw [beL_len]; exact Nat.le_refl _), List.take_of_length_le (by rw [beL_len]; exact Nat.le_refl _)]
      congr 2
      rw [show j + 1 - 1 - j = 0 by omega]
      simp

theorem info_u8b : ∃ i, Tryd.prog.info? 5 = some i ∧ i.zero = some (.int .u8 0) ∧ i.size = 1 ∧ i.bytes = 1 := by
  have h : (Tryd.prog.info? 5).map (fun i => (i.zero, i.size, i.bytes)) = some (some (.int .u8 0), 1, 1) := by kernel_rfl
  cases hq : Tryd.prog.info? 5 with
  | none => simp [hq] at h
  | some i => rw [hq] at h; simp at h; exact ⟨i, rfl, h.1, h.2.1, h.2.2⟩
end Go.Proofs.YtbiabjehdmddbaaDoor

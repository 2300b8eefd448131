/-
  What reading comes to by the document's own words of layer 9, as plain functions of place, fault and width; and Bytes, Num and Count by them. New memory alone is written. Conditions: bytes below 256, at most a million; the place is within them.
-/
import Derived.Test.YtbiabjehdmddbaaDoorRdNum
namespace Go.Proofs.YtbiabjehdmddbaaDoor
open Go.RowKit

/-- Place, fault and how many bytes, behind Bytes(A). -/
def rdStep (n p : Nat) (e A : Int) : Nat × Int × Nat :=
  if e ≠ 0 then (p, e, 0) else if A < 0 then (p, 1, 0) else if (n : Int) - p < A then (p, 2, 0) else (p + A.toNat, 0, A.toNat)
/-- The bytes that Bytes(A) tells. -/
def rdBytes (xs : List Int) (p : Nat) (e A : Int) : List Int := (xs.drop p).take (rdStep xs.length p e A).2.2
/-- Place, fault and number behind Num(A). -/
def rdNum (xs : List Int) (p : Nat) (e A : Int) : Nat × Int × Int :=
  if A < 1 ∨ 8 < A then (p, badOf e 1, 0) else ((rdStep xs.length p e A).1, (rdStep xs.length p e A).2.1, be (rdBytes xs p e A))
/-- Place, fault and count behind Count(A, M). -/
def rdCount (xs : List Int) (p : Nat) (e A M : Int) : Nat × Int × Int :=
  if (rdNum xs p e A).2.1 ≠ 0 then ((rdNum xs p e A).1, (rdNum xs p e A).2.1, 0)
  else if M < 0 ∨ M < (rdNum xs p e A).2.2 then ((rdNum xs p e A).1, 4, 0) else ((rdNum xs p e A).1, 0, (rdNum xs p e A).2.2)
theorem rdStep_le {n p : Nat} (e A : Int) (h : p ≤ n) : (rdStep n p e A).1 ≤ n ∧ (rdStep n p e A).2.2 ≤ n - p := by
  unfold rdStep
  split
  · exact ⟨h, Nat.zero_le _⟩
  split
  · exact ⟨h, Nat.zero_le _⟩
  split
  · exact ⟨h, Nat.zero_le _⟩
  · exact ⟨by simp only; omega, by simp only; omega⟩
theorem rdBytes_range {xs : List Int} (h : ∀ x ∈ xs, 0 ≤ x ∧ x < 256) (p : Nat) (e A : Int) : ∀ x ∈ rdBytes xs p e A, 0 ≤ x ∧ x < 256 := fun x hx => h x (List.mem_of_mem_drop (List.mem_of_mem_take hx))
theorem rdBytes_len {xs : List Int} {p : Nat} (e A : Int) (h : p ≤ xs.length) : (rdBytes xs p e A).length = (rdStep xs.length p e A).2.2 := by
  unfold rdBytes
  have := (rdStep_le (n := xs.length) e A h).2
  rw [List.length_take, List.length_drop]; omega

theorem rdNum_val {xs : List Int} (hy : ∀ x ∈ xs, 0 ≤ x ∧ x < 256) {p : Nat} (e A : Int) (hp : p ≤ xs.length) : 0 ≤ (rdNum xs p e A).2.2 ∧ (rdNum xs p e A).2.2 < 18446744073709551616 := by
  unfold rdNum
  by_cases h : A < 1 ∨ 8 < A
  · rw [if_pos h]; exact ⟨Int.le_refl 0, by show (0 : Int) < _; decide⟩
  · rw [if_neg h]
    refine be_lt _ (rdBytes_range hy p e A) ?_
    rw [rdBytes_len e A hp]
    unfold rdStep
    split
    · exact Nat.zero_le _
    split
    · exact Nat.zero_le _
    split
    · exact Nat.zero_le _
    · simp only; omega
theorem rdNum_le {xs : List Int} {p : Nat} (e A : Int) (hp : p ≤ xs.length) : (rdNum xs p e A).1 ≤ xs.length := by
  unfold rdNum
  by_cases h : A < 1 ∨ 8 < A
  · rw [if_pos h]; exact hp
  · rw [if_neg h]; exact (rdStep_le e A hp).1
end Go.Proofs.YtbiabjehdmddbaaDoor

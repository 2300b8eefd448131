/-
  What reading comes to by the document's own words of layer 9, as plain functions of place, fault and width; and Bytes, Num and Count by them. New memory alone is written. Conditions: bytes below 256, at most a million; the place is within them.
-/
import Derived.Test.YtpobplkijfienaaRdNum
namespace Go.Proofs.Ytpobplkijfienaa
open Go.RowKit

/-- Place, fault and how many bytes, behind Bytes(A). -/
def rdStep (n p : Nat) (e A : Int) : Nat × Int × Nat :=
  if e ≠ 0 then (p, e, 0) else if A < 0 then (p, 1, 0) else if (n : Int) - p < A then (p, 2, 0) else (p + A.toNat, 0, A.toNat)
/-- The bytes that Bytes(A) tells. -/
def rdBytes (xs : List Int) (p : Nat) (e A : Int) : List Int := (xs.drop p).take (rdStep xs.length p e A).2.2
/-- Place, fault and number behind Num(A). -/
def rdNum (xs : List Int) (p : Nat) (e A : Int) : Nat × Int × Int :=
  if A < 1 ∨ 8 < A then (p, badOf e 1, 0) else ((rdStep xs.length p e A).1, (rdStep xs.length p e A).2.1, be (rdBytes xs p e A))
/-- Place, fault and count behind Count(A, M). -/
def rdCount (xs : List Int) (p : Nat) (e A M : Int) : Nat × Int × Int :=
  if (rdNum xs p e A).2.1 ≠ 0 then ((rdNum xs p e A).1, (rdNum xs p e A).2.1, 0)
  else if M < 0 ∨ M < (rdNum xs p e A).2.2 then ((rdNum xs p e A).1, 4, 0) else ((rdNum xs p e A).1, 0, (rdNum xs p e A).2.2)
theorem rdStep_le {n p : Nat} (e A : Int) (h : p ≤ n) : (rdStep n p e A).1 ≤ n ∧ (rdStep n p e A).2.2 ≤ n - p := by
  unfold rdStep
  split
  · exact ⟨h, Nat.zero_le _⟩
  split
  · exact ⟨h, Nat.zero_le _⟩
  split
  · exact ⟨h, Nat.zero_le _⟩
  · exact ⟨by simp only; omega, by simp only; omega⟩
theorem rdBytes_range {xs : List Int} (h : ∀ x ∈ xs, 0 ≤ x ∧ x < 256) (p : Nat) (e A : Int) : ∀ x ∈ rdBytes xs p e A, 0 ≤ x ∧ x < 256 := fun x hx => h x (List.mem_of_mem_drop (List.mem_of_mem_take hx))
theorem rdBytes_len {xs : List Int} {p : Nat} (e A : Int) (h : p ≤ xs.length) : (rdBytes xs p e A).length = (rdStep xs.length p e A).2.2 := by
  unfold rdBytes
  have := (rdStep_le (n := xs.length) e A h).2
  rw [List.length_take, List.length_drop]; omega

/-- What Bytes answers beside the reader. -/
def rdSlice (a : Option Addr) (n c p : Nat) (e A : Int) : Option Addr × Nat := if e ≠ 0 ∨ A < 0 ∨ (n : Int) - p < A then (none, 0) else (cutAddr a c p, c - p)
theorem rBytes_at (a : Option Addr) (c p : Nat) (e A : Int) (n : Nat) (hp : p ≤ n) (hc : n ≤ c) (hm : n ≤ 1000000) (w : World) :
    Calls Try.prog 25 #[.agg #[.slice a n c, .int .i64 (p : Int), .int .i64 e], .int .i64 A] w fun r w' =>
      r = .returned (.tuple #[.agg #[.slice a n c, .int .i64 (((rdStep n p e A).1 : Nat) : Int), .int .i64 (rdStep n p e A).2.1], .slice (rdSlice a n c p e A).1 (rdStep n p e A).2.2 (rdSlice a n c p e A).2]) ∧ Below w.heap.size w w' := by
  unfold rdStep rdSlice
  by_cases h : e ≠ 0
  · rw [if_pos h, if_pos (.inl h)]
    exact rBytes_bad a n c p e A w h
  · obtain rfl : e = 0 := by omega
    rw [if_neg h]
    by_cases h1 : A < 0
    · rw [if_pos h1, if_pos (.inr (.inl h1))]
      exact rBytes_neg a n c p A w h1
    · rw [if_neg h1]
      by_cases h2 : (n : Int) - p < A
      · rw [if_pos h2, if_pos (.inr (.inr h2))]
        exact rBytes_short a n c p A w h1 (by unfold wrap64; omega)
      · rw [if_neg h2, if_neg (by omega)]
        obtain ⟨B, rfl⟩ : ∃ B : Nat, A = B := ⟨A.toNat, by omega⟩
        exact rBytes_ok a n c p B w (by omega) hc hm
theorem rdSlice_ints {a : Option Addr} {c p n : Nat} {xs : List Int} {w : World} (e A : Int) (hI : Ints .u8 w a n c xs) (hp : p ≤ n) :
    Ints .u8 w (rdSlice a n c p e A).1 (rdStep n p e A).2.2 (rdSlice a n c p e A).2 (rdBytes xs p e A) := by
  have hl := hI.len
  unfold rdBytes rdSlice
  rw [hl]
  by_cases h : e ≠ 0 ∨ A < 0 ∨ (n : Int) - p < A
  · rw [if_pos h]
    have h0 : (rdStep n p e A).2.2 = 0 := by
      unfold rdStep
      rcases h with h | h | h
      · rw [if_pos h]
      · split
        · rfl
        · rfl
      · split
        · rfl
        · split
          · rfl
          · rfl
    rw [h0]
    exact ⟨by simp, Nat.le_refl _, .inl rfl⟩
  · rw [if_neg h]
    have h0 : (rdStep n p e A).2.2 = A.toNat := by
      unfold rdStep
      rw [if_neg (by omega), if_neg (by omega), if_neg (by omega)]
    rw [h0]
    have hc := hI.cut2 p (p + A.toNat) (by omega) (by omega)
    rw [show p + A.toNat - p = A.toNat by omega] at hc
    exact hc

theorem rNum_any (a : Option Addr) (c p : Nat) (e A : Int) (xs : List Int) (n : Nat) (w : World) (hI : Ints .u8 w a n c xs) (hy : ∀ x ∈ xs, 0 ≤ x ∧ x < 256) (hp : p ≤ n) (hm : n ≤ 1000000) :
    Calls Try.prog 24 #[.agg #[.slice a n c, .int .i64 (p : Int), .int .i64 e], .int .i64 A] w fun r w' =>
      r = .returned (.tuple #[.agg #[.slice a n c, .int .i64 (((rdNum xs p e A).1 : Nat) : Int), .int .i64 (rdNum xs p e A).2.1], .int .u64 (rdNum xs p e A).2.2]) ∧ Below w.heap.size w w' := by
  unfold rdNum
  by_cases h : A < 1 ∨ 8 < A
  · rw [if_pos h]
    exact rNum_width a n c p e A w h
  · rw [if_neg h]
    have hl := hI.len
    have hs := rdSlice_ints e A hI hp
    have h8 : (rdStep n p e A).2.2 ≤ 8 := by
      unfold rdStep
      split
      · exact Nat.zero_le _
      split
      · exact Nat.zero_le _
      split
      · exact Nat.zero_le _
      · simp only; omega
    rw [hl]
    exact rNum_of a n c p e A _ _ _ _ _ _ w (by omega) (by omega) h8 hs (rdBytes_range hy p e A) (fun w' => rBytes_at a c p e A n hp hI.2.1 hm w')

theorem rdNum_val {xs : List Int} (hy : ∀ x ∈ xs, 0 ≤ x ∧ x < 256) {p : Nat} (e A : Int) (hp : p ≤ xs.length) : 0 ≤ (rdNum xs p e A).2.2 ∧ (rdNum xs p e A).2.2 < 18446744073709551616 := by
  unfold rdNum
  by_cases h : A < 1 ∨ 8 < A
  · rw [if_pos h]; exact ⟨Int.le_refl 0, by show (0 : Int) < _; decide⟩
  · rw [if_neg h]
    refine be_lt _ (rdBytes_range hy p e A) ?_
    rw [rdBytes_len e A hp]
    unfold rdStep
    split
    · exact Nat.zero_le _
    split
    · exact Nat.zero_le _
    split
    · exact Nat.zero_le _
    · simp only; omega
theorem rdNum_le {xs : List Int} {p : Nat} (e A : Int) (hp : p ≤ xs.length) : (rdNum xs p e A).1 ≤ xs.length := by
  unfold rdNum
  by_cases h : A < 1 ∨ 8 < A
  · rw [if_pos h]; exact hp
  · rw [if_neg h]; exact (rdStep_le e A hp).1
end Go.Proofs.Ytpobplkijfienaa

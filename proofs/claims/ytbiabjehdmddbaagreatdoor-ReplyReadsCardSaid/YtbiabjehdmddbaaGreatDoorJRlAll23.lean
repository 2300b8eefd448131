/-
  Texts of stages that were proved on their own, joined: RplRead. Each begins with its own words.
-/
import Derived.Test.YtbiabjehdmddbaaGreatDoorJRlAll3
import Derived.Test.YtbiabjehdmddbaaGreatDoorJRlAll17
import Derived.Test.YtbiabjehdmddbaaGreatDoorJRlAll22

/-
  Reading a reply with layer 9's reader, as plain functions: what the seven numbers come to is what the bytes tell. No Go function is spoken of. Conditions: bytes below 256.
-/
namespace Go.Proofs.YtbiabjehdmddbaaGreatDoor
open Go.RowKit

/-- Place and fault behind so many numbers of four bytes. -/
def rdP (xs : List Int) (p : Nat) (e : Int) : Nat → Nat × Int
  | 0 => (p, e)
  | j + 1 => ((rdNum xs (rdP xs p e j).1 (rdP xs p e j).2 4).1, (rdNum xs (rdP xs p e j).1 (rdP xs p e j).2 4).2.1)
def rdV (xs : List Int) (p : Nat) (e : Int) (j : Nat) : Int := (rdNum xs (rdP xs p e j).1 (rdP xs p e j).2 4).2.2
theorem rdP_bad {xs : List Int} {p : Nat} {e : Int} (h : e ≠ 0) : ∀ j, rdP xs p e j = (p, e)
  | 0 => rfl
  | j + 1 => by rw [rdP, rdP_bad h j, rdN_bad (by decide) h]
theorem rdP_fits {xs : List Int} {p : Nat} : ∀ j, p + 4 * j ≤ xs.length → rdP xs p 0 j = (p + 4 * j, 0)
  | 0, _ => rfl
  | j + 1, h => by
    rw [rdP, rdP_fits j (by omega)]
    dsimp only
    rw [rdN_fits (by decide) (by omega)]
    show (p + 4 * j + 4, (0 : Int)) = _
    congr 1
theorem rdP_few {xs : List Int} {p : Nat} (hp : p ≤ xs.length) : ∀ j, xs.length < p + 4 * j → (rdP xs p 0 j).2 = 2
  | 0, h => by omega
  | j + 1, h => by
    rw [rdP]
    by_cases h1 : p + 4 * j ≤ xs.length
    · rw [rdP_fits j h1]
      dsimp only
      rw [rdN_few (by decide) (by omega)]
    · have ih := rdP_few hp j (by omega)
      dsimp only
      rw [ih, rdN_bad (by decide) (by decide)]
theorem rdV_fits {xs : List Int} {p : Nat} (j : Nat) (h : p + 4 * j + 4 ≤ xs.length) : rdV xs p 0 j = numAt xs (p + 4 * j) := by
  unfold rdV
  rw [rdP_fits j (by omega)]
  dsimp only
  rw [rdN_fits (by decide) (by omega)]
  rfl
theorem rdNum_lim {xs : List Int} (h : ∀ x ∈ xs, 0 ≤ x ∧ x < 256) (p : Nat) (e A : Int) (hA : 1 ≤ A ∧ A ≤ 4) : 0 ≤ (rdNum xs p e A).2.2 ∧ (rdNum xs p e A).2.2 < 4294967296 := by
  unfold rdNum
  rw [if_neg (by omega)]
  refine be_lim _ (rdBytes_range h p e A) ?_
  unfold rdBytes rdStep
  rw [List.length_take]
  split
  · dsimp only; omega
  split
  · dsimp only; omega
  split
  · dsimp only; omega
  · dsimp only; omega
theorem rdV_lim {xs : List Int} (h : ∀ x ∈ xs, 0 ≤ x ∧ x < 256) (p : Nat) (e : Int) (j : Nat) : 0 ≤ rdV xs p e j ∧ rdV xs p e j < 4294967296 := rdNum_lim h _ _ 4 (by decide)
/-- What the readings come to. -/
theorem read_spec (xs : List Int) {P1 P2 : Nat} {E1 E2 k e : Int} (h1 : rdNum xs 0 0 1 = (P1, E1, k)) (h2 : rdNum xs P1 E1 1 = (P2, E2, e)) :
    (xs.length < 22 → doneOf xs.length ((rdP xs P2 E2 5).1 : Int) (rdP xs P2 E2 5).2 = 2) ∧ (22 < xs.length → doneOf xs.length ((rdP xs P2 E2 5).1 : Int) (rdP xs P2 E2 5).2 = 3) ∧
      (xs.length = 22 → doneOf xs.length ((rdP xs P2 E2 5).1 : Int) (rdP xs P2 E2 5).2 = 0 ∧ k = xs.getD 0 0 ∧ e = xs.getD 1 0 ∧ P2 = 2 ∧ E2 = 0) := by
  match xs, h1, h2 with
  | [], h1, h2 =>
    rw [first_nil] at h1
    cases h1
    rw [rdN_bad (by decide) (by decide)] at h2
    cases h2
    refine ⟨fun _ => ?_, fun h => absurd h (by decide), fun h => absurd h (by decide)⟩
    rw [rdP_bad (by decide)]
    rfl
  | [x], h1, h2 =>
    rw [first_cons] at h1
    injection h1 with p1 h1
    injection h1 with p2 p3
    subst p1; subst p2; subst p3
    rw [rdN_few (by decide) (by show (1 : Int) - 1 < 1; decide)] at h2
    injection h2 with q1 h2
    injection h2 with q2 q3
    subst q1; subst q2; subst q3
    refine ⟨fun _ => ?_, fun h => absurd h (by show ¬ 22 < 1; decide), fun h => absurd h (by show ¬ 1 = 22; decide)⟩
    rw [rdP_bad (by decide)]
    rfl
  | x :: y :: r, h1, h2 =>
    rw [first_cons] at h1
    injection h1 with p1 h1
    injection h1 with p2 p3
    subst p1; subst p2; subst p3
    rw [rdN_fits (by decide) (by simp only [List.length_cons]; omega)] at h2
    have hb : be (((x :: y :: r).drop 1).take (1 : Int).toNat) = y := by
      show be [y] = y
      unfold be
      simp
    rw [hb] at h2
    injection h2 with q1 h2
    injection h2 with q2 q3
    subst q1; subst q2; subst q3
    show (_ → doneOf _ ((rdP (x :: y :: r) 2 0 5).1 : Int) _ = 2) ∧ (_ → doneOf _ ((rdP (x :: y :: r) 2 0 5).1 : Int) _ = 3) ∧ (_ → doneOf _ ((rdP (x :: y :: r) 2 0 5).1 : Int) _ = 0 ∧ _)
    refine ⟨fun h => ?_, fun h => ?_, fun h => ?_⟩
    · have := rdP_few (xs := x :: y :: r) (p := 2) (by simp only [List.length_cons]; omega) 5 (by omega)
      rw [show (rdP (x :: y :: r) (1 + (1 : Int).toNat) 0 5).2 = 2 from this]
      exact doneOf_bad (by decide)
    · have hf := rdP_fits (xs := x :: y :: r) (p := 2) 5 (by omega)
      rw [show (rdP (x :: y :: r) (1 + (1 : Int).toNat) 0 5) = (2 + 4 * 5, 0) from hf, hf]
      show doneOf _ ((22 : Nat) : Int) 0 = 3
      rw [doneOf_ok, if_pos h]
    · have hf := rdP_fits (xs := x :: y :: r) (p := 2) 5 (by omega)
      rw [show (rdP (x :: y :: r) (1 + (1 : Int).toNat) 0 5) = (2 + 4 * 5, 0) from hf, hf]
      refine ⟨?_, rfl, rfl, rfl, rfl⟩
      show doneOf _ ((22 : Nat) : Int) 0 = 0
      rw [doneOf_ok, if_neg (by omega)]
theorem arP_read (xs : List Int) (h : xs.length = 22) : arP (rdV xs 2 0) 5 = arV (rplOf xs) := by
  unfold arP
  rw [if_pos (by decide), if_pos (by decide), if_pos (by decide), if_pos (by decide), if_pos (by decide)]
  rw [rdV_fits 0 (by omega), rdV_fits 1 (by omega), rdV_fits 2 (by omega), rdV_fits 3 (by omega), rdV_fits 4 (by omega)]
  rfl
theorem decR_fault {xs : List Int} {D : Int} (h2 : xs.length < 22 → D = 2) (h3 : 22 < xs.length → D = 3) (h0 : xs.length = 22 → D = 0) (h : D ≠ 0) : decR xs = (noRpl, D) := by
  unfold decR
  by_cases h4 : xs.length < 22
  · rw [if_pos h4, h2 h4]
  · by_cases h5 : 22 < xs.length
    · rw [if_neg h4, if_pos h5, h3 h5]
    · exact absurd (h0 (by omega)) h
theorem decR_fine {xs : List Int} (h : xs.length = 22) : decR xs = if rightR (rplOf xs) = true then (rplOf xs, 0) else (noRpl, 4) := by
  unfold decR
  rw [if_neg (by omega), if_neg (by omega)]
end Go.Proofs.YtbiabjehdmddbaaGreatDoor

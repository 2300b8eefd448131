/-
  Texts of stages that were proved on their own, joined: RdRef, RdNum, RdModel, RdCount. Each begins with its own words.
-/
import Derived.Test.YtinmmhbiomcdoaaGreatDoorBlocks2
import Derived.Test.YtinmmhbiomcdoaaGreatDoorSteps
import Derived.Test.YtinmmhbiomcdoaaGreatDoorSeqS
import Derived.Test.YtinmmhbiomcdoaaGreatDoorProg

/-
  The document's own words of layer 9: a fault noted, bytes, a number, a count, whether bytes are left. New memory alone is written. Conditions: the place is within the bytes.
-/
namespace Go.Proofs.YtinmmhbiomcdoaaGreatDoor
open Go.RowKit

/-- Two results: the first lies in a block of its own, the second in a slot. -/
theorem results_blk_tmp {P : Program} {fn : Func} {p u : Tmp} {ty : TypeId} (h : fn.results = #[.cell p ty, .tmp u]) {tmps : Array Value} {w : World} {g : Nat} {t : TypeId} {cs : List Value}
    (hp : tmps.getD p undef = .pointer (some ⟨g, 0, none⟩)) (hg : Blk w g t cs) (hr : IsRow P ty cs.length) : (results fn tmps).run P w = .ok (.tuple #[.agg cs.toArray, tmps.getD u undef]) w := by
  obtain ⟨⟨d, hu, hd⟩, hi⟩ := hr
  have := run_loadVar_mid (P := P) w g 0 ty cs d (hg.range 0 cs (fun j v hj => by simpa using hj)) hu hd hi
  have hp' : tmps[p]?.getD undef = .pointer (some ⟨g, 0, none⟩) := by simpa using hp
  simp [results, h, hp', asAddr, this]
/-- The fault behind a call that could not be answered. -/
def badOf (e x : Int) : Int := if e = 0 then x else e

/-- What Done answers. -/
def doneOf (n : Nat) (p e : Int) : Int := if e = 0 then (if p < (n : Int) then 3 else 0) else e

/-! ### Numbers -/
def be (l : List Int) : Int := l.foldl (fun n x => 256 * n + x) 0
theorem be_snoc (l : List Int) (x : Int) : be (l ++ [x]) = 256 * be l + x := by unfold be; rw [List.foldl_append]; rfl
theorem be_fold : ∀ (l : List Int) (z : Int), (∀ x ∈ l, 0 ≤ x ∧ x < 256) → 0 ≤ z → 0 ≤ l.foldl (fun n x => 256 * n + x) z ∧ l.foldl (fun n x => 256 * n + x) z < (z + 1) * 256 ^ l.length
  | [], z, _, hz => by simp; omega
  | x :: l, z, h, hz => by
    have hx := h x (by simp)
    have ih := be_fold l (256 * z + x) (fun y hy => h y (by simp [hy])) (by omega)
    simp only [List.foldl_cons, List.length_cons]
    refine ⟨ih.1, Int.lt_of_lt_of_le ih.2 ?_⟩
    rw [Int.pow_succ, ← Int.mul_assoc, Int.mul_right_comm]
    exact Int.mul_le_mul_of_nonneg_right (by omega) (Int.le_of_lt (Int.pow_pos (by decide)))
theorem be_take (l : List Int) (k : Nat) (h : k < l.length) : be (l.take (k + 1)) = 256 * be (l.take k) + l.getD k 0 := by
  rw [List.take_succ_eq_append_getElem h, be_snoc]; simp [List.getD_eq_getElem?_getD, List.getElem?_eq_getElem h]
theorem be_lt (l : List Int) (h : ∀ x ∈ l, 0 ≤ x ∧ x < 256) (hl : l.length ≤ 8) : 0 ≤ be l ∧ be l < 18446744073709551616 := by
  obtain ⟨h0, h1⟩ := be_fold l 0 h (Int.le_refl 0)
  have hp : ∀ k, k ≤ 8 → (256 : Int) ^ k ≤ 18446744073709551616 := by decide
  have h2 := hp _ hl
  unfold be
  omega
end Go.Proofs.YtinmmhbiomcdoaaGreatDoor

/-
  The document's own numbers of layer 9. New memory alone is written. Conditions: at most 8 bytes, each below 256.
-/
namespace Go.Proofs.YtinmmhbiomcdoaaGreatDoor
open Go.RowKit
end Go.Proofs.YtinmmhbiomcdoaaGreatDoor

/-
  What reading comes to by the document's own words of layer 9, as plain functions of place, fault and width; and Bytes, Num and Count by them. New memory alone is written. Conditions: bytes below 256, at most a million; the place is within them.
-/
namespace Go.Proofs.YtinmmhbiomcdoaaGreatDoor
open Go.RowKit

/-- Place, fault and how many bytes, behind Bytes(A). -/
def rdStep (n p : Nat) (e A : Int) : Nat × Int × Nat :=
  if e ≠ 0 then (p, e, 0) else if A < 0 then (p, 1, 0) else if (n : Int) - p < A then (p, 2, 0) else (p + A.toNat, 0, A.toNat)
/-- The bytes that Bytes(A) tells. -/
def rdBytes (xs : List Int) (p : Nat) (e A : Int) : List Int := (xs.drop p).take (rdStep xs.length p e A).2.2
/-- Place, fault and number behind Num(A). -/
def rdNum (xs : List Int) (p : Nat) (e A : Int) : Nat × Int × Int :=
  if A < 1 ∨ 8 < A then (p, badOf e 1, 0) else ((rdStep xs.length p e A).1, (rdStep xs.length p e A).2.1, be (rdBytes xs p e A))
/-- Place, fault and count behind Count(A, M). -/
def rdCount (xs : List Int) (p : Nat) (e A M : Int) : Nat × Int × Int :=
  if (rdNum xs p e A).2.1 ≠ 0 then ((rdNum xs p e A).1, (rdNum xs p e A).2.1, 0)
  else if M < 0 ∨ M < (rdNum xs p e A).2.2 then ((rdNum xs p e A).1, 4, 0) else ((rdNum xs p e A).1, 0, (rdNum xs p e A).2.2)
theorem rdStep_le {n p : Nat} (e A : Int) (h : p ≤ n) : (rdStep n p e A).1 ≤ n ∧ (rdStep n p e A).2.2 ≤ n - p := by
  unfold rdStep
  split
  · exact ⟨h, Nat.zero_le _⟩
  split
  · exact ⟨h, Nat.zero_le _⟩
  split
  · exact ⟨h, Nat.zero_le _⟩
  · exact ⟨by simp only; omega, by simp only; omega⟩
theorem rdBytes_range {xs : List Int} (h : ∀ x ∈ xs, 0 ≤ x ∧ x < 256) (p : Nat) (e A : Int) : ∀ x ∈ rdBytes xs p e A, 0 ≤ x ∧ x < 256 := fun x hx => h x (List.mem_of_mem_drop (List.mem_of_mem_take hx))
theorem rdBytes_len {xs : List Int} {p : Nat} (e A : Int) (h : p ≤ xs.length) : (rdBytes xs p e A).length = (rdStep xs.length p e A).2.2 := by
  unfold rdBytes
  have := (rdStep_le (n := xs.length) e A h).2
  rw [List.length_take, List.length_drop]; omega

theorem rdNum_val {xs : List Int} (hy : ∀ x ∈ xs, 0 ≤ x ∧ x < 256) {p : Nat} (e A : Int) (hp : p ≤ xs.length) : 0 ≤ (rdNum xs p e A).2.2 ∧ (rdNum xs p e A).2.2 < 18446744073709551616 := by
  unfold rdNum
  by_cases h : A < 1 ∨ 8 < A
  · rw [if_pos h]; exact ⟨Int.le_refl 0, by show (0 : Int) < _; decide⟩
  · rw [if_neg h]
    refine be_lt _ (rdBytes_range hy p e A) ?_
    rw [rdBytes_len e A hp]
    unfold rdStep
    split
    · exact Nat.zero_le _
    split
    · exact Nat.zero_le _
    split
    · exact Nat.zero_le _
    · simp only; omega
theorem rdNum_le {xs : List Int} {p : Nat} (e A : Int) (hp : p ≤ xs.length) : (rdNum xs p e A).1 ≤ xs.length := by
  unfold rdNum
  by_cases h : A < 1 ∨ 8 < A
  · rw [if_pos h]; exact hp
  · rw [if_neg h]; exact (rdStep_le e A hp).1
end Go.Proofs.YtinmmhbiomcdoaaGreatDoor

/-
  The document's own counts of layer 9. New memory alone is written. Conditions: bytes below 256, at most a million; the place is within them.
-/
namespace Go.Proofs.YtinmmhbiomcdoaaGreatDoor
open Go.RowKit
end Go.Proofs.YtinmmhbiomcdoaaGreatDoor

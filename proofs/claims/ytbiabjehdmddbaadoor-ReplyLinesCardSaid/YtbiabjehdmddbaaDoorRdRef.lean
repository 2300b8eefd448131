/-
  The document's own words of layer 9: a fault noted, bytes, a number, a count, whether bytes are left. New memory alone is written. Conditions: the place is within the bytes.
-/
import Derived.Test.YtbiabjehdmddbaaDoorBlocks2
import Derived.Test.YtbiabjehdmddbaaDoorSteps
import Derived.Test.YtbiabjehdmddbaaDoorSeqS
import Derived.Test.YtbiabjehdmddbaaDoorProg
namespace Go.Proofs.YtbiabjehdmddbaaDoor
open Go.RowKit

/-- Two results: the first lies in a block of its own, the second in a slot. -/
theorem results_blk_tmp {P : Program} {fn : Func} {p u : Tmp} {ty : TypeId} (h : fn.results = #[.cell p ty, .tmp u]) {tmps : Array Value} {w : World} {g : Nat} {t : TypeId} {cs : List Value}
    (hp : tmps.getD p undef = .pointer (some ⟨g, 0, none⟩)) (hg : Blk w g t cs) (hr : IsRow P ty cs.length) : (results fn tmps).run P w = .ok (.tuple #[.agg cs.toArray, tmps.getD u undef]) w := by
  obtain ⟨⟨d, hu, hd⟩, hi⟩ := hr
  have := run_loadVar_mid (P := P) w g 0 ty cs d (hg.range 0 cs (fun j v hj => by simpa using hj)) hu hd hi
  have hp' : tmps[p]?.getD undef = .pointer (some ⟨g, 0, none⟩) := by simpa using hp
  simp [results, h, hp', asAddr, this]
/-- The fault behind a call that could not be answered. -/
def badOf (e x : Int) : Int := if e = 0 then x else e

/-- What Done answers. -/
def doneOf (n : Nat) (p e : Int) : Int := if e = 0 then (if p < (n : Int) then 3 else 0) else e

/-! ### Numbers -/
def be (l : List Int) : Int := l.foldl (fun n x => 256 * n + x) 0
theorem be_snoc (l : List Int) (x : Int) : be (l ++ [x]) = 256 * be l + x := by unfold be; rw [List.foldl_append]; rfl
theorem be_fold : ∀ (l : List Int) (z : Int), (∀ x ∈ l, 0 ≤ x ∧ x < 256) → 0 ≤ z → 0 ≤ l.foldl (fun n x => 256 * n + x) z ∧ l.foldl (fun n x => 256 * n + x) z < (z + 1) * 256 ^ l.length
  | [], z, _, hz => by simp; omega
  | x :: l, z, h, hz => by
    have hx := h x (by simp)
    have ih := be_fold l (256 * z + x) (fun y hy => h y (by simp [hy])) (by omega)
    simp only [List.foldl_cons, List.length_cons]
    refine ⟨ih.1, Int.lt_of_lt_of_le ih.2 ?_⟩
    rw [Int.pow_succ, ← Int.mul_assoc, Int.mul_right_comm]
    exact Int.mul_le_mul_of_nonneg_right (by omega) (Int.le_of_lt (Int.pow_pos (by decide)))
theorem be_take (l : List Int) (k : Nat) (h : k < l.length) : be (l.take (k + 1)) = 256 * be (l.take k) + l.getD k 0 := by
  rw [List.take_succ_eq_append_getElem h, be_snoc]; simp [List.getD_eq_getElem?_getD, List.getElem?_eq_getElem h]
theorem be_lt (l : List Int) (h : ∀ x ∈ l, 0 ≤ x ∧ x < 256) (hl : l.length ≤ 8) : 0 ≤ be l ∧ be l < 18446744073709551616 := by
  obtain ⟨h0, h1⟩ := be_fold l 0 h (Int.le_refl 0)
  have hp : ∀ k, k ≤ 8 → (256 : Int) ^ k ≤ 18446744073709551616 := by decide
  have h2 := hp _ hl
  unfold be
  omega
end Go.Proofs.YtbiabjehdmddbaaDoor

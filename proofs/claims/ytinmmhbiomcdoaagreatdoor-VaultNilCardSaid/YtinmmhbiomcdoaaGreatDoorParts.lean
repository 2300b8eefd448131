/-
  A slice of slices of bytes in memory ('Parts'): its parts are known; it stays what it is where only new memory was written. No Go function is spoken of here.
-/
import Derived.Test.YtinmmhbiomcdoaaGreatDoorBlocks
namespace Go.Proofs.YtinmmhbiomcdoaaGreatDoor
open Go.RowKit

def Parts (w : World) (a : Option Addr) (n cap : Nat) (ps : List (List Int)) : Prop :=
  ps.length = n ∧ n ≤ cap ∧ (n = 0 ∨ ∃ b off, a = some ⟨b, off, none⟩ ∧ ∀ i, i < n → ∃ A m c, w.cell? ⟨b, off + i, none⟩ = some (.slice A m c) ∧ Ints .u8 w A m c (ps.getD i []))
theorem Parts.len {w : World} {a : Option Addr} {n cap : Nat} {ps : List (List Int)} (h : Parts w a n cap ps) : ps.length = n := h.1
theorem Parts.keep {w w' : World} {a : Option Addr} {n cap : Nat} {ps : List (List Int)} (h : Parts w a n cap ps) (hb : Below w.heap.size w w') : Parts w' a n cap ps := by
  refine ⟨h.1, h.2.1, ?_⟩
  rcases h.2.2 with h0 | ⟨b, off, ha, hc⟩
  · exact .inl h0
  · refine .inr ⟨b, off, ha, fun i hi => ?_⟩
    obtain ⟨A, m, c, hcell, hI⟩ := hc i hi
    exact ⟨A, m, c, by rw [hb.cell (World.block_lt_of_cell? w _ hcell)]; exact hcell, hI.keep hb⟩
theorem Parts.at {w : World} {a : Option Addr} {n cap : Nat} {ps : List (List Int)} (h : Parts w a n cap ps) (hn : 0 < n) :
    ∃ b off, a = some ⟨b, off, none⟩ ∧ ∀ i, i < n → ∃ A m c, w.cell? ⟨b, off + i, none⟩ = some (.slice A m c) ∧ Ints .u8 w A m c (ps.getD i []) := by
  rcases h.2.2 with h0 | h0
  · omega
  · exact h0
theorem Parts.take {w : World} {a : Option Addr} {n cap : Nat} {ps : List (List Int)} (h : Parts w a n cap ps) (k : Nat) (hk : k ≤ n) : Parts w a k cap (ps.take k) := by
  have hl := h.len
  refine ⟨by rw [List.length_take]; omega, by have := h.2.1; omega, ?_⟩
  by_cases h0 : k = 0
  · exact .inl h0
  · obtain ⟨b, off, ha, hc⟩ := h.at (by omega)
    refine .inr ⟨b, off, ha, fun i hi => ?_⟩
    have : (ps.take k).getD i [] = ps.getD i [] := by rw [List.getD_eq_getElem?_getD, List.getD_eq_getElem?_getD, List.getElem?_take_of_lt hi]
    rw [this]; exact hc i (by omega)
theorem parts_nil (w : World) (cap : Nat) : Parts w none 0 cap [] := ⟨rfl, Nat.zero_le _, .inl rfl⟩
theorem flatten_snoc (ps : List (List Int)) (k : Nat) (h : k < ps.length) : (ps.take (k + 1)).flatten = (ps.take k).flatten ++ ps.getD k [] := by
  rw [List.take_succ_eq_append_getElem h, List.flatten_append, List.getD_eq_getElem?_getD, List.getElem?_eq_getElem h]; simp
theorem flatten_take_le (ps : List (List Int)) (k : Nat) : (ps.take k).flatten.length ≤ ps.flatten.length := by
  have h : ps.flatten = (ps.take k).flatten ++ (ps.drop k).flatten := by rw [← List.flatten_append, List.take_append_drop]
  rw [h, List.length_append]; omega
theorem getD_mem_range {ps : List (List Int)} (h : ∀ p ∈ ps, ∀ x ∈ p, 0 ≤ x ∧ x < 256) (k : Nat) : ∀ x ∈ ps.getD k [], 0 ≤ x ∧ x < 256 := by
  intro x hx
  rw [List.getD_eq_getElem?_getD] at hx
  cases hk : ps[k]? with
  | none => rw [hk] at hx; simp at hx
  | some p => rw [hk] at hx; exact h p (List.mem_of_getElem? hk) x hx
/-- Parts that lie in a block of their own. -/
theorem Parts.of_blk {w : World} {g n : Nat} {t : TypeId} {cs : List Value} {ps : List (List Int)} (h : Blk w g t cs) (hl : ps.length = n) (hx : ∀ i, i < n → ∃ A m c, cs[i]? = some (.slice A m c) ∧ Ints .u8 w A m c (ps.getD i [])) : Parts w (some ⟨g, 0, none⟩) n n ps := by
  refine ⟨hl, Nat.le_refl _, .inr ⟨g, 0, rfl, fun i hi => ?_⟩⟩
  obtain ⟨A, m, c, h1, h2⟩ := hx i hi
  exact ⟨A, m, c, by rw [h.cell, Nat.zero_add]; exact h1, h2⟩
end Go.Proofs.YtinmmhbiomcdoaaGreatDoor

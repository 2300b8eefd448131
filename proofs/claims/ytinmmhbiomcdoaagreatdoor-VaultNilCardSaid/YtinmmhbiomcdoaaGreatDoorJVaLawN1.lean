/-
  Texts of stages that were proved on their own, joined: Moved. Each begins with its own words.
-/
import Derived.Test.YtinmmhbiomcdoaaGreatDoorBlocks

/-
  What may have been written: the blocks of a set, and new ones ('Moved', 'Grows'). No Go function is spoken of. No conditions. (Cut out of the texts of layer 9.)
-/
namespace Go.Proofs.YtinmmhbiomcdoaaGreatDoor
open Go.RowKit

/-- Only the blocks of F, and new ones, may have been written. -/
def Moved (F : Nat → Prop) (w w' : World) : Prop := Below 0 w w' ∧ ∀ b, b < w.heap.size → ¬ F b → w'.heap[b]? = w.heap[b]?
theorem Moved.below {F : Nat → Prop} {w w' : World} {B : Nat} (h : Moved F w w') (hF : ∀ b, F b → B ≤ b) (hB : B ≤ w.heap.size) : Below B w w' :=
  ⟨h.1.os, h.1.tape, h.1.output, h.1.size, fun i hi => h.2 i (Nat.lt_of_lt_of_le hi hB) (fun hf => absurd (hF i hf) (Nat.not_le.2 hi))⟩
theorem Moved.of_below {F : Nat → Prop} {w w' : World} (h : Below w.heap.size w w') : Moved F w w' := ⟨h.mono (Nat.zero_le _), fun b hb _ => h.block b hb⟩
theorem Moved.size {F : Nat → Prop} {w w' : World} (h : Moved F w w') : w.heap.size ≤ w'.heap.size := h.1.size
/-- The blocks behind a call: those of before, and new ones. -/
def Grows (F F' : Nat → Prop) (w : World) : Prop := ∀ b, F' b → F b ∨ w.heap.size ≤ b
theorem Grows.low {F F' : Nat → Prop} {w : World} {B : Nat} (h : Grows F F' w) (hF : ∀ b, F b → B ≤ b) (hB : B ≤ w.heap.size) : ∀ b, F' b → B ≤ b := fun b hb => by
  rcases h b hb with h | h
  · exact hF b h
  · exact Nat.le_trans hB h

theorem Moved.then {F : Nat → Prop} {w w1 w2 : World} (m1 : Moved F w w1) (m2 : Moved F w1 w2) : Moved F w w2 :=
  ⟨m1.1.trans m2.1, fun b hb hf => (m2.2 b (Nat.lt_of_lt_of_le hb m1.size) hf).trans (m1.2 b hb hf)⟩
theorem moved_set {F : Nat → Prop} {w w' : World} {g : Nat} (hF : F g) (hg : w.grownBy w' (some g)) : Moved F w w' :=
  ⟨⟨hg.os, hg.tape, hg.output, hg.size, fun _ h => absurd h (Nat.not_lt_zero _)⟩, fun b hb hf => hg.block b hb (fun e => by injection e with e; exact hf (e ▸ hF))⟩
theorem grows_self {F : Nat → Prop} {w : World} : Grows F F w := fun _ h => .inl h
theorem Moved.rfl' {F : Nat → Prop} {w : World} : Moved F w w := Moved.of_below (Below.refl _ _)
end Go.Proofs.YtinmmhbiomcdoaaGreatDoor

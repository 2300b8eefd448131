/-
  Texts of stages that were proved on their own, joined: RdSame, RdMoved, RdPad. Each begins with its own words.
-/
import Derived.Test.YtbiabjehdmddbaaGreatDoorJRlAll9
import Derived.Test.YtbiabjehdmddbaaGreatDoorJRlAll10
import Derived.Test.YtbiabjehdmddbaaGreatDoorJRlAll2

/-
  The document's own comparison of ids (layer 9): of the same bytes it tells that they are the same. Nothing is written. Conditions: at most 40000 ids.
-/
namespace Go.Proofs.YtbiabjehdmddbaaGreatDoor
open Go.RowKit

theorem sizeU8s : (Tryz.prog.info? 5).map (·.size) = some 1 := by kernel_rfl

theorem ids_part {w : World} {b off n : Nat} {zs : List Int} (hl : zs.length = 32 * n) (hc : ∀ i, i < 32 * n → w.cell? ⟨b, off + i, none⟩ = some (.int .u8 (zs.getD i 0))) (i : Nat) (hi : i < n) :
    w.rangeAt b (off + 32 * i) (((zs.drop (32 * i)).take 32).map (Value.int .u8)) := fun j v hj => by
  have hlt : j < 32 := by
    rcases Nat.lt_or_ge j 32 with h | h
    · exact h
    · rw [List.getElem?_eq_none (by rw [List.length_map, List.length_take]; omega)] at hj; cases hj
  rw [Nat.add_assoc, hc (32 * i + j) (by omega)]
  rw [List.getElem?_map, List.getElem?_take_of_lt hlt, List.getElem?_drop, List.getElem?_eq_getElem (by omega)] at hj
  rw [← hj, List.getD_eq_getElem?_getD, List.getElem?_eq_getElem (by omega)]
  rfl
end Go.Proofs.YtbiabjehdmddbaaGreatDoor

/-
  What may have been written: the blocks of a set, and new ones ('Moved', 'Grows'); bytes with zeros behind them. No Go function is spoken of. No conditions.
-/
namespace Go.Proofs.YtbiabjehdmddbaaGreatDoor
open Go.RowKit

/-- Only the blocks of F, and new ones, may have been written. -/
def Moved (F : Nat → Prop) (w w' : World) : Prop := Below 0 w w' ∧ ∀ b, b < w.heap.size → ¬ F b → w'.heap[b]? = w.heap[b]?
theorem Moved.below {F : Nat → Prop} {w w' : World} {B : Nat} (h : Moved F w w') (hF : ∀ b, F b → B ≤ b) (hB : B ≤ w.heap.size) : Below B w w' :=
  ⟨h.1.os, h.1.tape, h.1.output, h.1.size, fun i hi => h.2 i (Nat.lt_of_lt_of_le hi hB) (fun hf => absurd (hF i hf) (Nat.not_le.2 hi))⟩
theorem Moved.of_below {F : Nat → Prop} {w w' : World} (h : Below w.heap.size w w') : Moved F w w' := ⟨h.mono (Nat.zero_le _), fun b hb _ => h.block b hb⟩
theorem Moved.size {F : Nat → Prop} {w w' : World} (h : Moved F w w') : w.heap.size ≤ w'.heap.size := h.1.size
/-- The blocks behind a call: those of before, and new ones. -/
def Grows (F F' : Nat → Prop) (w : World) : Prop := ∀ b, F' b → F b ∨ w.heap.size ≤ b
theorem Grows.low {F F' : Nat → Prop} {w : World} {B : Nat} (h : Grows F F' w) (hF : ∀ b, F b → B ≤ b) (hB : B ≤ w.heap.size) : ∀ b, F' b → B ≤ b := fun b hb => by
  rcases h b hb with h | h
  · exact hF b h
  · exact Nat.le_trans hB h

/-- Bytes, and zeros behind them: what an array of so many bytes holds of them. -/
def padTo (n : Nat) (l : List Int) : List Int := l ++ List.replicate (n - l.length) 0
theorem Moved.then {F : Nat → Prop} {w w1 w2 : World} (m1 : Moved F w w1) (m2 : Moved F w1 w2) : Moved F w w2 :=
  ⟨m1.1.trans m2.1, fun b hb hf => (m2.2 b (Nat.lt_of_lt_of_le hb m1.size) hf).trans (m1.2 b hb hf)⟩
theorem moved_set {F : Nat → Prop} {w w' : World} {g : Nat} (hF : F g) (hg : w.grownBy w' (some g)) : Moved F w w' :=
  ⟨⟨hg.os, hg.tape, hg.output, hg.size, fun _ h => absurd h (Nat.not_lt_zero _)⟩, fun b hb hf => hg.block b hb (fun e => by injection e with e; exact hf (e ▸ hF))⟩
theorem grows_self {F : Nat → Prop} {w : World} : Grows F F w := fun _ h => .inl h
theorem Moved.rfl' {F : Nat → Prop} {w : World} : Moved F w w := Moved.of_below (Below.refl _ _)
end Go.Proofs.YtbiabjehdmddbaaGreatDoor

/-
  A copy of bytes into an array of zeros; how many bytes are read at most; the type Hint's row. No conditions.
-/
namespace Go.Proofs.YtbiabjehdmddbaaGreatDoor
open Go.RowKit

theorem rdStep_cap (n p : Nat) (e A : Int) : (rdStep n p e A).2.2 ≤ A.toNat := by
  unfold rdStep
  split
  · exact Nat.zero_le _
  split
  · exact Nat.zero_le _
  split
  · exact Nat.zero_le _
  · exact Nat.le_refl _
theorem pad_over (N : Nat) (zs : List Int) (q : Nat) (hl : zs.length = q) (hq : q ≤ N) : overV (List.replicate N (Value.int .u8 0)) 0 ((zs.take q).map (Value.int .u8)) = (padTo N zs).map (Value.int .u8) := by
  subst hl
  unfold overV padTo
  rw [List.take_length]
  simp
theorem padTo_len {N : Nat} {zs : List Int} (h : zs.length ≤ N) : (padTo N zs).length = N := by unfold padTo; simp; omega

end Go.Proofs.YtbiabjehdmddbaaGreatDoor

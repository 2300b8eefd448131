/-
  A new cipher as a value: no key yet, a box, and the mark that it was made; a struct of many cells built of parts.
-/
import Derived.Test.YtclcnngpgbdjgaaCipherMem
namespace Go.Proofs.Ytclcnngpgbdjgaa
open Go.RowKit

theorem fold_set (off : Nat) : ∀ (X : List Value) (s : Nat) (L : List Value), off + s + X.length ≤ L.length →
    (X.zipIdx s).foldl (fun (cs : Array Value) (p : Value × Nat) => cs.setIfInBounds (off + p.2) p.1) L.toArray = (L.take (off + s) ++ (X ++ L.drop (off + s + X.length))).toArray
  | [], s, L, _ => by simp
  | x :: X, s, L, h => by
    rw [List.zipIdx_cons, List.foldl_cons, List.setIfInBounds_toArray]
    rw [fold_set off X (s + 1) (L.set (off + s) x) (by rw [List.length_set]; simp only [List.length_cons] at h; omega)]
    congr 1
    simp only [List.length_cons] at h ⊢
    have h1 : (L.set (off + s) x).take (off + (s + 1)) = L.take (off + s) ++ [x] := by
      rw [show off + (s + 1) = off + s + 1 by omega, List.take_add_one, List.take_set_of_le (Nat.le_refl _), List.getElem?_set_self (by omega)]
      rfl
    have h2 : (L.set (off + s) x).drop (off + (s + 1) + X.length) = L.drop (off + s + (X.length + 1)) := by
      rw [List.drop_set_of_lt (by omega), show off + (s + 1) + X.length = off + s + (X.length + 1) by omega]
    rw [h1, h2]
    simp
theorem zeroCi : Zero Try.prog 48 (ciCells zf zf zf false false) := by unfold Zero; kernel_rfl
theorem placesCi : (match Try.prog.underlying 48 with | some (.struct fs) => fs.toList.mapM (fun f => (Try.prog.info? f.type).map fun i => (f.offset, i.size)) | _ => none) = some [(0, 240), (240, 513), (753, 1)] := by kernel_rfl
theorem fill_one (place : Nat → Option (Nat × Nat)) (L : List Value) (i off size : Nat) (v : Value) (X : List Value) (rest : List (Nat × Value)) (hp : place i = some (off, size)) (hv : v.cells = X.toArray) (hs : X.length = size) (hf : off + X.length ≤ L.length) :
    Instr.fill place L.toArray ((i, v) :: rest) = Instr.fill place (L.take off ++ (X ++ L.drop (off + X.length))).toArray rest := by
  subst hs
  have h := fold_set off X 0 L (by omega)
  rw [Nat.add_zero] at h
  rw [Instr.fill, hp, hv, ← h]
  simp only [List.size_toArray, ne_eq, not_true_eq_false, decide_false, Bool.false_or, Array.zipIdx_toArray]
  rw [if_neg (by simp; omega)]
  simp
theorem built_ci (f h : Nat → Nat) : Try.prog.built 48 [(1, Value.agg (boxCells f h true).toArray), (2, Value.bool true)] = some (ciCells zf f h true true).toArray := by
  have hz := zeroCi
  have hp := placesCi
  unfold Zero at hz
  unfold Program.built
  rw [Try.underlying48] at hp ⊢
  cases hi : Try.prog.info? 48 with
  | none => rw [hi] at hz; cases hz
  | some it =>
    rw [hi] at hz
    have hz' : it.zero = some (.agg (ciCells zf zf zf false false).toArray) := hz
    dsimp only at hp ⊢
    rw [hp, hz']
    dsimp only
    rw [show (Value.agg (ciCells zf zf zf false false).toArray).cells = (ciCells zf zf zf false false).toArray from rfl]
    rw [fill_one _ _ 1 240 513 _ (boxCells f h true) _ rfl rfl (boxCells_len _ _ _) (by rw [ciCells_len, boxCells_len]; decide)]
    rw [fill_one _ _ 2 753 1 _ [.bool true] _ rfl rfl rfl (by simp [boxCells_len, ciCells_len])]
    rw [Instr.fill]
    refine congrArg (fun l : List Value => some l.toArray) ?_
    have hl : (rowN 240 zf).length = 240 := rowN_len _ _
    have e1 : (ciCells zf zf zf false false).take 240 = rowN 240 zf := by
      unfold ciCells; rw [List.take_append_of_le_length (by rw [hl]; exact Nat.le_refl _), List.take_of_length_le (by rw [hl]; exact Nat.le_refl _)]
    have e2 : (ciCells zf zf zf false false).drop (240 + (boxCells f h true).length) = [.bool false] := by
      unfold ciCells; rw [boxCells_len, List.drop_append, hl, List.drop_of_length_le (by rw [hl]; decide), List.nil_append, show 240 + 513 - 240 = 513 from rfl, List.drop_append, boxCells_len, List.drop_of_length_le (by rw [boxCells_len]; exact Nat.le_refl _)]; rfl
    rw [e1, e2]
    have e3 : (rowN 240 zf ++ (boxCells f h true ++ [Value.bool false])).take 753 = rowN 240 zf ++ boxCells f h true := by
      rw [← List.append_assoc, List.take_append_of_le_length (by rw [List.length_append, hl, boxCells_len]; exact Nat.le_refl _), List.take_of_length_le (by rw [List.length_append, hl, boxCells_len]; exact Nat.le_refl _)]
    have e4 : (rowN 240 zf ++ (boxCells f h true ++ [Value.bool false])).drop (753 + [Value.bool true].length) = [] := List.drop_of_length_le (by simp [hl, boxCells_len])
    rw [e3, e4]
    simp [ciCells]
end Go.Proofs.Ytclcnngpgbdjgaa

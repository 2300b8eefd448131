/-
  The document's own reading of a text as bytes (layer 12): Bytes. New memory alone is written. Conditions: at most a million signs.
-/
import Derived.Test.YtbiabjehdmddbaaDoorHexRef
import Derived.Test.YtbiabjehdmddbaaDoorRdNumber
namespace Go.Proofs.YtbiabjehdmddbaaDoor
open Go.RowKit

theorem drop_two (ss : List Int) (i : Nat) (h : i + 1 < ss.length) : ss.drop i = ss.getD i 0 :: ss.getD (i + 1) 0 :: ss.drop (i + 2) := by
  rw [List.drop_eq_getElem_cons (by omega), List.drop_eq_getElem_cons h, List.getD_eq_getElem?_getD, List.getD_eq_getElem?_getD, List.getElem?_eq_getElem (by omega), List.getElem?_eq_getElem h]
  rfl
/-- What stands behind j bytes: the rest alone is still to be read. -/
def Mid (ss : List Int) (i : Nat) (ys : List Int) : Prop := ofB ss = (ofB (ss.drop i)).map (fun l => ys ++ l)
theorem Mid.start (ss : List Int) : Mid ss 0 [] := by unfold Mid; simp
theorem Mid.none {ss ys : List Int} {i : Nat} (h : Mid ss i ys) (hi : i + 1 < ss.length) (hd : dig (ss.getD i 0) < 0 ∨ dig (ss.getD (i + 1) 0) < 0) : ofB ss = none := by
  unfold Mid at h
  rw [h, drop_two ss i hi, ofB, if_pos hd]
  rfl
theorem Mid.step {ss ys : List Int} {i : Nat} (h : Mid ss i ys) (hi : i + 1 < ss.length) (hd : ¬ (dig (ss.getD i 0) < 0 ∨ dig (ss.getD (i + 1) 0) < 0)) : Mid ss (i + 2) (ys ++ [16 * dig (ss.getD i 0) + dig (ss.getD (i + 1) 0)]) := by
  unfold Mid at h ⊢
  rw [h, drop_two ss i hi, ofB, if_neg hd, Option.map_map]
  congr 1
  funext l
  simp
theorem Mid.done {ss ys : List Int} {i : Nat} (h : Mid ss i ys) (hi : ss.length ≤ i) : ofB ss = some ys := by
  unfold Mid at h
  rw [h, List.drop_eq_nil_of_le hi]
  simp [ofB]
theorem unText_nil : unText [] = ([], 4) := rfl
theorem unText_dash : unText [45] = ([], 0) := rfl
theorem unText_some {ss ys : List Int} (h1 : ss ≠ [45]) (h2 : ss ≠ []) (h : ofB ss = some ys) : unText ss = (ys, 0) := by
  unfold unText ofL
  rw [if_neg h1, if_neg h2, h]
theorem unText_none {ss : List Int} (h1 : ss ≠ [45]) (h2 : ss ≠ []) (h : ofB ss = none) : unText ss = ([], 4) := by
  unfold unText ofL
  rw [if_neg h1, if_neg h2, h]
theorem dig_lt (c : Int) : dig c < 16 := by unfold dig; repeat' split <;> try omega
theorem dig_ge (c : Int) : -1 ≤ dig c := by unfold dig; repeat' split <;> try omega

theorem WrInts {w : World} {B : Nat} {e : TypeId} {a : Option Addr} {n c : Nat} {xs : List Int} (h : w.ownsRow B e 1 (.slice a n c) n (xs.map (Value.int .u8))) : Ints .u8 w a n c xs := by
  obtain ⟨a5, c5, hv, hi⟩ := Ints.of_owns h
  injection hv with e1 _ e2
  subst e1; subst e2
  exact hi
end Go.Proofs.YtbiabjehdmddbaaDoor

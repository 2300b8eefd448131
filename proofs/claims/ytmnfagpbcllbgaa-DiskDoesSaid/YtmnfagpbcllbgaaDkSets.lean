/-
  Five cells of a row, four of them written one by one: a part laid over the row. No Go function is spoken of. No conditions.
-/
import Derived.Test.YtmnfagpbcllbgaaDkSettle
namespace Go.Proofs.Ytmnfagpbcllbgaa
open Go.RowKit

theorem overV_low (cs ys : List Value) (o i : Nat) (ho : o ≤ cs.length) (h : i < o) : (overV cs o ys)[i]? = cs[i]? := by
  unfold overV
  rw [List.getElem?_append_left (by rw [List.length_take]; omega), List.getElem?_take_of_lt h]
theorem overV_mid (cs ys : List Value) (o j : Nat) (ho : o ≤ cs.length) (h : j < ys.length) : (overV cs o ys)[o + j]? = ys[j]? := by
  unfold overV
  have hl : (cs.take o).length = o := by rw [List.length_take]; omega
  rw [List.getElem?_append_right (by omega), hl, Nat.add_sub_cancel_left, List.getElem?_append_left h]
theorem overV_high (cs ys : List Value) (o i : Nat) (ho : o ≤ cs.length) (h : o + ys.length ≤ i) : (overV cs o ys)[i]? = cs[i]? := by
  unfold overV
  have hl : (cs.take o).length = o := by rw [List.length_take]; omega
  rw [List.getElem?_append_right (by omega), hl, List.getElem?_append_right (by omega), List.getElem?_drop]
  congr 1
  omega
theorem sets_over (cs : List Value) (o : Nat) (k a h n u : Value) (hl : o + 5 ≤ cs.length) (hk : cs[o]? = some k) : (((cs.set (o + 1) a).set (o + 4) u).set (o + 2) h).set (o + 3) n = overV cs o [k, a, h, n, u] := by
  apply List.ext_getElem?
  intro i
  by_cases h1 : i < o
  · rw [overV_low _ _ _ _ (by omega) h1]
    rw [List.getElem?_set_ne (by omega), List.getElem?_set_ne (by omega), List.getElem?_set_ne (by omega), List.getElem?_set_ne (by omega)]
  · by_cases h2 : o + 5 ≤ i
    · rw [overV_high _ _ _ _ (by omega) h2]
      rw [List.getElem?_set_ne (by omega), List.getElem?_set_ne (by omega), List.getElem?_set_ne (by omega), List.getElem?_set_ne (by omega)]
    · obtain ⟨j, rfl⟩ : ∃ j, i = o + j := ⟨i - o, by omega⟩
      have hj : j < 5 := by omega
      rw [overV_mid _ _ _ _ (by omega) hj]
      match j, hj with
      | 0, _ =>
        rw [List.getElem?_set_ne (by omega), List.getElem?_set_ne (by omega), List.getElem?_set_ne (by omega), List.getElem?_set_ne (by omega)]
        exact hk
      | 1, _ =>
        rw [List.getElem?_set_ne (by omega), List.getElem?_set_ne (by omega), List.getElem?_set_ne (by omega), List.getElem?_set_self (by omega)]
        rfl
      | 2, _ =>
        rw [List.getElem?_set_ne (by omega), List.getElem?_set_self (by simp only [List.length_set]; omega)]
        rfl
      | 3, _ =>
        rw [List.getElem?_set_self (by simp only [List.length_set]; omega)]
        rfl
      | 4, _ =>
        rw [List.getElem?_set_ne (by omega), List.getElem?_set_ne (by omega), List.getElem?_set_self (by simp only [List.length_set]; omega)]
        rfl
theorem info_stp : ∃ i, Try.prog.info? 76 = some i ∧ i.zero = some .nilIface ∧ i.size = 1 ∧ i.bytes = 16 := by
  have h : (Try.prog.info? 76).map (fun i => (i.zero, i.size, i.bytes)) = some (some .nilIface, 1, 16) := by kernel_rfl
  cases hq : Try.prog.info? 76 with
  | none => simp [hq] at h
  | some i => rw [hq] at h; simp at h; exact ⟨i, rfl, h.1, h.2.1, h.2.2⟩
theorem StAt.one {P : Nat → Prop} {w : World} {v : Value} {s : StV} (h : StAt P w v s) : v.oneCell' = true := by
  cases s with
  | put xs => obtain ⟨a, c, rfl, _⟩ := h; rfl
  | cut n => obtain rfl : v = _ := h; rfl
end Go.Proofs.Ytmnfagpbcllbgaa

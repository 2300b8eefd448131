/-
  Bytes, ids and numbers as text (layer 12), as lists of numbers: signs and half bytes; text and back; digits and back. No Go function is spoken of.
-/
import Derived.Test.YtehfimkgoepngaaWordMath
namespace Go.Proofs.Ytehfimkgoepngaa

/-- A half byte's sign; a sign's half byte, -1 if it is none. -/
def sgn (d : Int) : Int := if d < 10 then 48 + d else 87 + d
def dig (c : Int) : Int := if 48 ≤ c ∧ c ≤ 57 then c - 48 else if 97 ≤ c ∧ c ≤ 102 then c - 87 else -1
theorem dig_sgn {d : Int} (h : 0 ≤ d ∧ d < 16) : dig (sgn d) = d := by unfold sgn dig; split <;> split <;> first | omega | (split <;> omega)
theorem sgn_dig {c : Int} (h : 0 ≤ dig c) : sgn (dig c) = c ∧ dig c < 16 := by unfold dig at h ⊢; unfold sgn; split at h <;> (try split at h) <;> constructor <;> repeat' split <;> omega
theorem sgn_range {d : Int} (h : 0 ≤ d ∧ d < 16) : 48 ≤ sgn d ∧ sgn d < 256 := by unfold sgn; split <;> omega
theorem sgn_ne {d : Int} (h : 0 ≤ d ∧ d < 16) : sgn d ≠ 45 := by unfold sgn; split <;> omega

def textB : List Int → List Int
  | [] => []
  | x :: r => sgn (x / 16) :: sgn (x % 16) :: textB r
def textL (xs : List Int) : List Int := if xs = [] then [45] else textB xs
def ofB : List Int → Option (List Int)
  | [] => some []
  | [_] => none
  | a :: b :: r => if dig a < 0 ∨ dig b < 0 then none else (ofB r).map (fun l => (16 * dig a + dig b) :: l)
def ofL (ss : List Int) : Option (List Int) := if ss = [45] then some [] else if ss = [] then none else ofB ss

theorem textB_append (a b : List Int) : textB (a ++ b) = textB a ++ textB b := by
  induction a with
  | nil => rfl
  | cons x a ih => show _ :: _ :: textB (a ++ b) = _; rw [ih]; rfl
theorem textB_len (xs : List Int) : (textB xs).length = 2 * xs.length := by
  induction xs with
  | nil => rfl
  | cons x r ih => show (textB r).length + 1 + 1 = 2 * (r.length + 1); omega
theorem half_range {x : Int} (h : 0 ≤ x ∧ x < 256) : (0 ≤ x / 16 ∧ x / 16 < 16) ∧ 0 ≤ x % 16 ∧ x % 16 < 16 := by omega
theorem textB_range {xs : List Int} (h : ∀ x ∈ xs, 0 ≤ x ∧ x < 256) : ∀ y ∈ textB xs, 0 ≤ y ∧ y < 256 := by
  induction xs with
  | nil => intro y hy; cases hy
  | cons x r ih =>
    intro y hy
    have hx := half_range (h x (by simp))
    rcases List.mem_cons.1 hy with rfl | hy
    · have := sgn_range hx.1; omega
    rcases List.mem_cons.1 hy with rfl | hy
    · have := sgn_range hx.2; omega
    exact ih (fun z hz => h z (by simp [hz])) y hy
theorem textL_range {xs : List Int} (h : ∀ x ∈ xs, 0 ≤ x ∧ x < 256) : ∀ y ∈ textL xs, 0 ≤ y ∧ y < 256 := by
  unfold textL
  split
  · intro y hy
    rw [List.mem_singleton.1 hy]
    omega
  · exact textB_range h
theorem textL_len (xs : List Int) : (textL xs).length ≤ 2 * xs.length + 1 := by
  unfold textL
  split
  · exact Nat.le_add_left _ _
  · rw [textB_len]; exact Nat.le_succ _
theorem ofB_textB {xs : List Int} (h : ∀ x ∈ xs, 0 ≤ x ∧ x < 256) : ofB (textB xs) = some xs := by
  induction xs with
  | nil => rfl
  | cons x r ih =>
    have hx := half_range (h x (by simp))
    show (if dig (sgn (x / 16)) < 0 ∨ dig (sgn (x % 16)) < 0 then none else (ofB (textB r)).map _) = _
    rw [dig_sgn hx.1, dig_sgn hx.2, if_neg (by omega), ih (fun z hz => h z (by simp [hz]))]
    show some ((16 * (x / 16) + x % 16) :: r) = _
    rw [show 16 * (x / 16) + x % 16 = x by omega]
/-- Text of bytes is read as they were. -/
theorem ofL_textL {xs : List Int} (h : ∀ x ∈ xs, 0 ≤ x ∧ x < 256) : ofL (textL xs) = some xs := by
  cases xs with
  | nil => rfl
  | cons x r =>
    have hx := half_range (h x (by simp))
    have e : textL (x :: r) = textB (x :: r) := if_neg (by simp)
    have e2 : textB (x :: r) = sgn (x / 16) :: sgn (x % 16) :: textB r := rfl
    unfold ofL
    rw [e, if_neg (by rw [e2]; intro e; injection e with e _; exact sgn_ne hx.1 e), if_neg (by rw [e2]; simp)]
    exact ofB_textB h
theorem ofB_some : ∀ (ss ys : List Int), ofB ss = some ys → textB ys = ss ∧ (∀ y ∈ ys, 0 ≤ y ∧ y < 256) ∧ ss.length = 2 * ys.length
  | [], ys, h => by cases h; exact ⟨rfl, by simp, rfl⟩
  | [_], ys, h => by cases h
  | a :: b :: r, ys, h => by
    rw [ofB] at h
    by_cases hd : dig a < 0 ∨ dig b < 0
    · rw [if_pos hd] at h; cases h
    rw [if_neg hd] at h
    obtain ⟨zs, hz, rfl⟩ := Option.map_eq_some_iff.1 h
    obtain ⟨h1, h2, h3⟩ := ofB_some r zs hz
    have ha := sgn_dig (c := a) (by omega)
    have hb := sgn_dig (c := b) (by omega)
    refine ⟨?_, ?_, by simp; omega⟩
    · show sgn ((16 * dig a + dig b) / 16) :: sgn ((16 * dig a + dig b) % 16) :: textB zs = _
      rw [show (16 * dig a + dig b) / 16 = dig a by omega, show (16 * dig a + dig b) % 16 = dig b by omega, ha.1, hb.1, h1]
    · intro y hy
      rcases List.mem_cons.1 hy with rfl | hy
      · omega
      · exact h2 y hy
/-- What is read as bytes is their text. -/
theorem ofL_some {ss ys : List Int} (h : ofL ss = some ys) : textL ys = ss ∧ (∀ y ∈ ys, 0 ≤ y ∧ y < 256) ∧ ys.length ≤ ss.length := by
  unfold ofL at h
  by_cases h1 : ss = [45]
  · rw [if_pos h1] at h
    cases h
    exact ⟨h1.symm, by simp, Nat.zero_le _⟩
  rw [if_neg h1] at h
  by_cases h2 : ss = []
  · rw [if_pos h2] at h; cases h
  rw [if_neg h2] at h
  obtain ⟨k1, k2, k3⟩ := ofB_some ss ys h
  refine ⟨?_, k2, by omega⟩
  unfold textL
  rw [if_neg (fun e => h2 (by rw [← k1, e]; rfl)), k1]
theorem ofB_odd : ∀ ss : List Int, ss.length % 2 = 1 → ofB ss = none
  | [], h => by simp at h
  | [_], _ => rfl
  | a :: b :: r, h => by
    rw [ofB, ofB_odd r (by simp only [List.length_cons] at h; omega)]
    split <;> rfl
/-- Bytes and fault behind Bytes(ss). -/
def unText (ss : List Int) : List Int × Int := match ofL ss with
  | some ys => (ys, 0)
  | none => ([], 4)


theorem unText_len (ss : List Int) : (unText ss).1.length ≤ ss.length := by
  unfold unText
  split
  · rename_i ys h; exact (ofL_some h).2.2
  · exact Nat.zero_le _
/-- Bytes without the noughts at their end, but for one byte. -/
def cutN (xs : List Int) : Nat → Nat
  | 0 => 0
  | n + 1 => if 0 < n ∧ xs.getD n 0 = 0 then cutN xs n else n + 1
theorem cutN_le (xs : List Int) : ∀ n, cutN xs n ≤ n
  | 0 => Nat.le_refl _
  | n + 1 => by
    unfold cutN
    split
    · exact Nat.le_trans (cutN_le xs n) (Nat.le_succ _)
    · exact Nat.le_refl _
theorem cutN_pos (xs : List Int) : ∀ n, 0 < n → 0 < cutN xs n
  | n + 1, _ => by
    unfold cutN
    split
    · rename_i h; exact cutN_pos xs n h.1
    · exact Nat.succ_pos _
/-- What is cut off is nought, and what is left ends otherwise (or is one byte). -/
theorem cutN_end (xs : List Int) : ∀ n, 1 < cutN xs n → xs.getD (cutN xs n - 1) 0 ≠ 0
  | 0, h => by simp [cutN] at h
  | n + 1, h => by
    unfold cutN at h ⊢
    split
    · rename_i hc; rw [if_pos hc] at h; exact cutN_end xs n h
    · rename_i hc; rw [if_neg hc] at h; intro h0; exact hc ⟨by omega, h0⟩
theorem cutN_zero (xs : List Int) : ∀ n i, cutN xs n ≤ i → i < n → xs.getD i 0 = 0
  | n + 1, i, h, hi => by
    unfold cutN at h
    split at h
    · rename_i hc
      by_cases e : i = n
      · rw [e]; exact hc.2
      · exact cutN_zero xs n i h (by omega)
    · omega
def idText (xs : List Int) : List Int := textL (xs.take (cutN xs 32))
/-- The id and the fault behind IdOf(ss). -/
def unId (ss : List Int) : List Int × Int := match ofL ss with
  | none => (List.replicate 32 0, 4)
  | some ys => if ys.length = 0 ∨ 32 < ys.length ∨ (1 < ys.length ∧ ys.getD (ys.length - 1) 0 = 0) then (List.replicate 32 0, 4) else (ys ++ List.replicate (32 - ys.length) 0, 0)
theorem take_getD (xs : List Int) (k i : Nat) (h : i < k) : (xs.take k).getD i 0 = xs.getD i 0 := by
  rw [List.getD_eq_getElem?_getD, List.getD_eq_getElem?_getD, List.getElem?_take_of_lt h]
theorem pad_cut {xs : List Int} (hl : xs.length = 32) (k : Nat) (hk : k ≤ 32) (h : ∀ i, k ≤ i → i < 32 → xs.getD i 0 = 0) : xs.take k ++ List.replicate (32 - k) 0 = xs := by
  apply List.ext_getElem?
  intro i
  by_cases h1 : i < k
  · rw [List.getElem?_append_left (by rw [List.length_take]; omega), List.getElem?_take_of_lt h1]
  · rw [List.getElem?_append_right (by rw [List.length_take]; omega), List.length_take, Nat.min_eq_left (by omega)]
    by_cases h2 : i < 32
    · have h3 := h i (by omega) h2
      rw [List.getD_eq_getElem?_getD, List.getElem?_eq_getElem (by omega)] at h3
      rw [List.getElem?_replicate, if_pos (by omega), List.getElem?_eq_getElem (by omega)]
      exact congrArg some h3.symm
    · rw [List.getElem?_replicate, if_neg (by omega), List.getElem?_eq_none (by omega)]
/-- An id's text is read as it was. -/
theorem unId_idText {xs : List Int} (hl : xs.length = 32) (h : ∀ x ∈ xs, 0 ≤ x ∧ x < 256) : unId (idText xs) = (xs, 0) := by
  have h1 := cutN_le xs 32
  have h2 := cutN_pos xs 32 (by decide)
  unfold unId idText
  rw [ofL_textL (fun x hx => h x (List.mem_of_mem_take hx))]
  have hk : (xs.take (cutN xs 32)).length = cutN xs 32 := by rw [List.length_take]; omega
  dsimp only
  rw [hk, if_neg]
  · rw [pad_cut hl _ h1 (fun i hi h' => cutN_zero xs 32 i hi h')]
  · rintro (h3 | h3 | ⟨h3, h4⟩)
    · omega
    · omega
    · rw [take_getD _ _ _ (by omega)] at h4
      exact cutN_end xs 32 h3 h4
theorem cutN_pad (ys : List Int) (h0 : 0 < ys.length) (he : ¬ (1 < ys.length ∧ ys.getD (ys.length - 1) 0 = 0)) : ∀ n, ys.length ≤ n → cutN (ys ++ List.replicate (32 - ys.length) 0) n = ys.length
  | 0, h => by omega
  | n + 1, h => by
    unfold cutN
    by_cases e : n + 1 = ys.length
    · rw [if_neg]
      · exact e
      · rintro ⟨h1, h2⟩
        apply he
        refine ⟨by omega, ?_⟩
        rw [List.getD_eq_getElem?_getD, List.getElem?_append_left (by omega), ← List.getD_eq_getElem?_getD] at h2
        rw [show ys.length - 1 = n by omega]
        exact h2
    · rw [if_pos]
      · exact cutN_pad ys h0 he n (by omega)
      · refine ⟨by omega, ?_⟩
        rw [List.getD_eq_getElem?_getD, List.getElem?_append_right (by omega), List.getElem?_replicate]
        split <;> rfl
/-- What is read as an id is its text. -/
theorem idText_unId {ss xs : List Int} (h : unId ss = (xs, 0)) : idText xs = ss := by
  unfold unId at h
  cases ho : ofL ss with
  | none => rw [ho] at h; cases h
  | some ys =>
    rw [ho] at h
    dsimp only at h
    by_cases hc : ys.length = 0 ∨ 32 < ys.length ∨ (1 < ys.length ∧ ys.getD (ys.length - 1) 0 = 0)
    · rw [if_pos hc] at h; cases h
    rw [if_neg hc] at h
    injection h with h _
    subst h
    have h0 : 0 < ys.length := by omega
    unfold idText
    rw [cutN_pad ys h0 (fun h => hc (.inr (.inr h))) 32 (by omega), List.take_left']
    · exact (ofL_some ho).1
    · rfl
theorem unId_len (ss : List Int) : (unId ss).1.length = 32 := by
  unfold unId
  split
  · rfl
  · split
    · rfl
    · simp; omega
theorem unId_range (ss : List Int) : ∀ x ∈ (unId ss).1, 0 ≤ x ∧ x < 256 := by
  unfold unId
  split
  · intro x hx; rw [List.eq_of_mem_replicate hx]; omega
  · rename_i ys ho
    split
    · intro x hx; rw [List.eq_of_mem_replicate hx]; omega
    · intro x hx
      rcases List.mem_append.1 hx with hx | hx
      · exact (ofL_some ho).2.1 x hx
      · rw [List.eq_of_mem_replicate hx]; omega
end Go.Proofs.Ytehfimkgoepngaa

/-
  A line read word by word as the document does (layer 15): what comes of each test. No Go function is spoken of.
-/
import Derived.Test.YtbiabjehdmddbaaDoorRlParse
namespace Go.Proofs.YtbiabjehdmddbaaDoor
open Go.RowKit

theorem stepW_len (ws : List (List Int)) (c : Int) : (stepW ws c).length ≤ ws.length + 1 := by
  unfold stepW
  split
  · rw [List.length_append]; exact Nat.le_refl _
  · rw [List.length_append, List.length_dropLast]
    show ws.length - 1 + 1 ≤ ws.length + 1
    omega
theorem foldW_len : ∀ (ss : List Int) (ws : List (List Int)), (ss.foldl stepW ws).length ≤ ws.length + ss.length
  | [], ws => Nat.le_refl _
  | c :: r, ws => by
    have h1 := foldW_len r (stepW ws c)
    have h2 := stepW_len ws c
    show (r.foldl stepW (stepW ws c)).length ≤ _
    rw [List.length_cons]
    omega
theorem splitW_len (ss : List Int) : (splitW ss).length ≤ ss.length + 1 := by
  have := foldW_len ss [[]]
  unfold splitW
  rw [List.length_cons, List.length_nil] at this
  omega
theorem splitW_pos (ss : List Int) : 0 < (splitW ss).length := List.length_pos_iff.2 (splitW_ne ss)
theorem splitW_last (ss : List Int) : ∃ l x, splitW ss = l ++ [x] := ⟨_, _, (List.dropLast_concat_getLast (splitW_ne ss)).symm⟩
theorem fold_sizes : ∀ (ss : List Int) (ws : List (List Int)) (m : Nat), (∀ v ∈ ws, v.length ≤ m) → ∀ v ∈ ss.foldl stepW ws, v.length ≤ m + ss.length
  | [], ws, m, h, v, hv => h v hv
  | c :: r, ws, m, h, v, hv => by
    have h1 : ∀ u ∈ stepW ws c, u.length ≤ m + 1 := by
      intro u hu
      unfold stepW at hu
      split at hu
      · rcases List.mem_append.1 hu with hu | hu
        · have := h u hu; omega
        · rw [List.mem_singleton.1 hu]; simp
      · rcases List.mem_append.1 hu with hu | hu
        · have := h u ((List.dropLast_sublist ws).subset hu); omega
        · rw [List.mem_singleton.1 hu, List.length_append]
          have : (ws.getLastD []).length ≤ m := by
            cases ws with
            | nil => simp
            | cons a q => exact h _ (by simp [List.getLastD, List.getLast_mem])
          show (ws.getLastD []).length + 1 ≤ m + 1
          omega
    have := fold_sizes r (stepW ws c) (m + 1) h1 v hv
    rw [List.length_cons]
    omega
theorem splitW_sizes (ss : List Int) : ∀ v ∈ splitW ss, v.length ≤ ss.length := by
  intro v hv
  have := fold_sizes ss [[]] 0 (by simp) v hv
  omega
theorem fold_okB : ∀ (ss : List Int) (ws : List (List Int)), okB ss → (∀ v ∈ ws, okB v) → ∀ v ∈ ss.foldl stepW ws, okB v
  | [], ws, _, h, v, hv => h v hv
  | c :: r, ws, ho, h, v, hv => by
    have hc := ho c (by simp)
    have h1 : ∀ u ∈ stepW ws c, okB u := by
      intro u hu
      unfold stepW at hu
      split at hu
      · rcases List.mem_append.1 hu with hu | hu
        · exact h u hu
        · rw [List.mem_singleton.1 hu]; intro x hx; cases hx
      · rcases List.mem_append.1 hu with hu | hu
        · exact h u ((List.dropLast_sublist ws).subset hu)
        · rw [List.mem_singleton.1 hu]
          refine okB_append ?_ (fun x hx => by rw [List.mem_singleton.1 hx]; exact hc)
          cases ws with
          | nil => intro x hx; cases hx
          | cons a q => exact h _ (by simp [List.getLastD, List.getLast_mem])
    exact fold_okB r (stepW ws c) (fun x hx => ho x (by simp [hx])) h1 v hv
theorem splitW_okB {ss : List Int} (h : okB ss) : ∀ v ∈ splitW ss, okB v := fold_okB ss [[]] h (by intro v hv; rw [List.mem_singleton.1 hv]; intro x hx; cases hx)

/-! ### What each test says -/
theorem doc_len {ss : List Int} (h2 : (splitW ss).length ≠ 2) (h7 : (splitW ss).length ≠ 7) : parseR ss = (noRpl, 4) := by
  refine parseR_none fun r hr ho e => ?_
  have hw := splitW_line hr
  rw [e] at hw
  rw [hw] at h2 h7
  unfold wordsR at h2 h7
  split at h7
  · exact h7 rfl
  · rw [if_neg (by assumption)] at h2
    exact h2 rfl
theorem doc_kind {ss : List Int} (h : (placeL ((splitW ss).getD 0 []) kindsL 0).2 = false) : parseR ss = (noRpl, 4) := by
  refine parseR_none fun r hr ho e => ?_
  have hw := splitW_line hr
  rw [e] at hw
  rw [hw] at h
  have hk := kind_in hr.1
  have e0 : (wordsR r).getD 0 [] = nameL kindsL r.kind := rfl
  rw [e0, hk.2.2] at h
  cases h
theorem doc_err {ss : List Int} (h : (placeL ((splitW ss).getD 1 []) errsL 0).2 = false) : parseR ss = (noRpl, 4) := by
  refine parseR_none fun r hr ho e => ?_
  have hw := splitW_line hr
  rw [e] at hw
  rw [hw] at h
  have hk := err_in hr.2.1
  have e0 : (wordsR r).getD 1 [] = nameL errsL r.err := rfl
  rw [e0, hk.2.2] at h
  cases h
theorem doc_mix {ss : List Int} (h : ¬ ((placeL ((splitW ss).getD 1 []) errsL 0).1 = 0 ↔ (splitW ss).length = 7)) : parseR ss = (noRpl, 4) := by
  refine parseR_none fun r hr ho e => h ?_
  have hw := splitW_line hr
  rw [e] at hw
  have hk := err_in hr.2.1
  have e0 : (wordsR r).getD 1 [] = nameL errsL r.err := rfl
  rw [hw, e0, hk.2.2]
  show r.err = 0 ↔ _
  unfold wordsR
  by_cases h0 : r.err = 0
  · rw [if_pos h0]
    exact ⟨fun _ => rfl, fun _ => h0⟩
  · rw [if_neg h0]
    exact ⟨fun k => absurd k h0, fun k => by cases k⟩
theorem doc_num {ss : List Int} (k : Nat) (hk : k + 2 < (splitW ss).length) (h : (unNum ((splitW ss).getD (k + 2) []) 4294967295).2 ≠ 0) : parseR ss = (noRpl, 4) := by
  refine parseR_none fun r hr ho e => h ?_
  have hw := splitW_line hr
  rw [e] at hw
  rw [hw] at hk ⊢
  unfold wordsR at hk ⊢
  by_cases h0 : r.err = 0
  · rw [if_pos h0] at hk ⊢
    have hl : k < (numsR r).length := by simpa using hk
    have e1 : (nameL kindsL r.kind :: nameL errsL r.err :: (numsR r).map (fun n => numL n.toNat)).getD (k + 2) [] = numL ((numsR r)[k]'hl).toNat := by
      rw [List.getD_eq_getElem?_getD, List.getElem?_cons_succ, List.getElem?_cons_succ, List.getElem?_map, List.getElem?_eq_getElem hl]
      rfl
    have hx := ho _ (List.getElem_mem hl)
    rw [e1, unNum_numL, if_neg (by omega)]
  · rw [if_neg h0] at hk
    have hk : k + 2 < 2 := hk
    omega
theorem place_true {ns : List (List Int)} {s : List Int} (h : (placeL s ns 0).2 = true) : 0 ≤ (placeL s ns 0).1 ∧ (placeL s ns 0).1 < (ns.length : Int) ∧ nameL ns (placeL s ns 0).1 = s := by
  rcases placeL_spec s ns 0 with ⟨h1, _⟩ | ⟨j, h1, h2, h3⟩
  · rw [h1] at h; cases h
  · rw [h2]
    dsimp only
    rw [Nat.zero_add]
    refine ⟨by omega, by omega, ?_⟩
    unfold nameL
    rw [if_pos (by omega), Int.toNat_natCast]
    exact h3
theorem num_back {w : List Int} (h : (unNum w 4294967295).2 = 0) : numL (numW w).toNat = w := by
  obtain ⟨v, e⟩ : ∃ v, unNum w 4294967295 = (v, 0) := ⟨(unNum w 4294967295).1, by rw [← h]⟩
  unfold numW
  rw [e, Int.toNat_natCast]
  exact (numL_unNum e).1
/-- All tests passed: the line is the candidate's. -/
theorem doc_good {ss : List Int} (h1 : (placeL ((splitW ss).getD 0 []) kindsL 0).2 = true) (h2 : (placeL ((splitW ss).getD 1 []) errsL 0).2 = true)
    (h3 : ((splitW ss).length = 2 ∧ (placeL ((splitW ss).getD 1 []) errsL 0).1 ≠ 0) ∨ ((splitW ss).length = 7 ∧ (placeL ((splitW ss).getD 1 []) errsL 0).1 = 0))
    (h4 : ∀ k, k + 2 < (splitW ss).length → (unNum ((splitW ss).getD (k + 2) []) 4294967295).2 = 0) : parseR ss = (candW (splitW ss), 0) := by
  have hj := joinW_splitW ss
  obtain ⟨ws, hw⟩ : ∃ ws, splitW ss = ws := ⟨_, rfl⟩
  rw [hw] at h1 h2 h3 h4 hj ⊢
  obtain ⟨k1, k2, k3⟩ := place_true h1
  obtain ⟨e1, e2, e3⟩ := place_true h2
  have k2' : (placeL (ws.getD 0 []) kindsL 0).1 < 7 := k2
  have e2' : (placeL (ws.getD 1 []) errsL 0).1 < 21 := e2
  have fin : RplRight (candW ws) → wordsR (candW ws) = ws → parseR ss = (candW ws, 0) := fun hr hq => by
    refine parseR_is hr (candW_ok ws) ?_
    unfold lineR
    rw [if_pos ((rightR_iff _).2 hr), hq, hj]
  rcases h3 with ⟨hl, h0⟩ | ⟨hl, h0⟩
  · match ws, hl with
    | [a, b], _ =>
      refine fin ⟨⟨k1, k2'⟩, ⟨e1, e2'⟩, .inr ⟨rfl, rfl, rfl, rfl, rfl⟩⟩ ?_
      unfold wordsR
      rw [if_neg (show ¬ (candW [a, b]).err = 0 from h0)]
      show [nameL kindsL (placeL a kindsL 0).1, nameL errsL (placeL b errsL 0).1] = [a, b]
      have k3' : nameL kindsL (placeL a kindsL 0).1 = a := k3
      have e3' : nameL errsL (placeL b errsL 0).1 = b := e3
      rw [k3', e3']
  · match ws, hl with
    | [a, b, n1, n2, n3, n4, n5], _ =>
      refine fin ⟨⟨k1, k2'⟩, ⟨e1, e2'⟩, .inl h0⟩ ?_
      unfold wordsR
      rw [if_pos (show (candW [a, b, n1, n2, n3, n4, n5]).err = 0 from h0)]
      have b1 : numL (numW n1).toNat = n1 := num_back (h4 0 (by simp))
      have b2 : numL (numW n2).toNat = n2 := num_back (h4 1 (by simp))
      have b3 : numL (numW n3).toNat = n3 := num_back (h4 2 (by simp))
      have b4 : numL (numW n4).toNat = n4 := num_back (h4 3 (by simp))
      have b5 : numL (numW n5).toNat = n5 := num_back (h4 4 (by simp))
      show [nameL kindsL (placeL a kindsL 0).1, nameL errsL (placeL b errsL 0).1, numL (numW n1).toNat, numL (numW n2).toNat, numL (numW n3).toNat, numL (numW n4).toNat, numL (numW n5).toNat] = [a, b, n1, n2, n3, n4, n5]
      have k3' : nameL kindsL (placeL a kindsL 0).1 = a := k3
      have e3' : nameL errsL (placeL b errsL 0).1 = b := e3
      rw [k3', e3', b1, b2, b3, b4, b5]
def numQ (ws : List (List Int)) (i : Nat) : Int := ((unNum (ws.getD (i + 2) []) 4294967295).1 : Int)
theorem numQ_w (ws : List (List Int)) (i : Nat) : numQ ws i = numW (ws.getD (i + 2) []) := rfl
theorem arQ_cand (ws : List (List Int)) (N : Nat) (h : ws.length = N + 2) : arP (numQ ws) N = arV (candW ws) := by
  have hi : ∀ i : Nat, (if i < N then numQ ws i else 0) = (if i + 2 < ws.length then numW (ws.getD (i + 2) []) else 0) := fun i => by
    rw [h]
    by_cases h1 : i < N
    · rw [if_pos h1, if_pos (by omega), numQ_w]
    · rw [if_neg h1, if_neg (by omega)]
  have h0 := hi 0
  have h1 := hi 1
  have h2 := hi 2
  have h3 := hi 3
  have h4 := hi 4
  unfold arP
  rw [h0, h1, h2, h3, h4]
  rfl

/-! ### The row of words -/
section
variable {w : World} {B : Nat} {t : TypeId} {v : Value} {n : Nat} {l : List (List Int)} {x : List Int}
theorem own_last (h : w.ownsRow B t 1 v n (strsV (l ++ [x]))) : ∃ g cap cs, v = .slice (some ⟨g, 0, none⟩) (l.length + 1) cap ∧ n = l.length + 1 ∧ B ≤ g ∧ Blk w g t cs ∧ cs[l.length]? = some (.string (strOfNums x)) ∧
    ∀ (y : List Int) (w' : World), Blk w' g t (cs.set l.length (.string (strOfNums y))) → w'.ownsRow B t 1 (.slice (some ⟨g, 0, none⟩) (l.length + 1) cap) (l.length + 1) (strsV (l ++ [y])) := by
  have hn : n = l.length + 1 := by
    have := h.1
    rw [strsV_len, List.length_append] at this
    simp only [List.length_cons, List.length_nil] at this
    omega
  subst hn
  rcases h.2 with ⟨_, e⟩ | ⟨g, cap, cur, hv, hB, hg, hnc, hm, hs, ht⟩
  · omega
  have hcl : l.length < cur.toList.length := by rw [show cur.toList.length = cur.size from Array.length_toList]; omega
  refine ⟨g, cap, cur.toList, hv, rfl, hB, hg, ?_, fun y w' hb => ?_⟩
  · have e1 : (strsV (l ++ [x]))[l.length]? = some (.string (strOfNums x)) := by
      rw [strsV_snoc, List.getElem?_append_right (by rw [strsV_len]; exact Nat.le_refl _), strsV_len, Nat.sub_self]
      rfl
    rw [← ht, List.getElem?_take_of_lt (by omega)] at e1
    exact e1
  · refine ⟨by rw [strsV_len, List.length_append]; simp, .inr ⟨g, cap, _, rfl, hB, hb, hnc, hm, ?_, ?_⟩⟩
    · rw [List.size_toArray, List.length_set, show cur.toList.length = cur.size from Array.length_toList]
      exact hs
    · rw [show (cur.toList.set l.length (.string (strOfNums y))).toArray.toList = cur.toList.set l.length (.string (strOfNums y)) from rfl, Nat.mul_one, List.take_set]
      rw [Nat.mul_one] at ht
      rw [ht, strsV_snoc, strsV_snoc, List.set_append_right _ _ (by rw [strsV_len]; exact Nat.le_refl _), strsV_len, Nat.sub_self]
      rfl
end
end Go.Proofs.YtbiabjehdmddbaaDoor

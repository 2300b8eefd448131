/-
  Replies' lines (layer 15) as lists of signs: words, split and joined; what is read of a line. No Go function is spoken of.
-/
import Derived.Test.YtbiabjehdmddbaaDoorRplMath
namespace Go.Proofs.YtbiabjehdmddbaaDoor

/-! ### Words -/
def joinW : List (List Int) → List Int
  | [] => []
  | [w] => w
  | w :: x :: r => w ++ 32 :: joinW (x :: r)
/-- A sign more behind words: a blank begins a new one. -/
def stepW (ws : List (List Int)) (c : Int) : List (List Int) := if c = 32 then ws ++ [[]] else ws.dropLast ++ [ws.getLastD [] ++ [c]]
def splitW (ss : List Int) : List (List Int) := ss.foldl stepW [[]]
theorem stepW_blank (ws : List (List Int)) : stepW ws 32 = ws ++ [[]] := if_pos rfl
theorem stepW_sign (ws : List (List Int)) (x : List Int) {c : Int} (h : c ≠ 32) : stepW (ws ++ [x]) c = ws ++ [x ++ [c]] := by
  unfold stepW
  rw [if_neg h, List.dropLast_concat]
  congr 2
  simp
theorem splitW_snoc (ss : List Int) (c : Int) : splitW (ss ++ [c]) = stepW (splitW ss) c := by
  unfold splitW
  rw [List.foldl_append]
  rfl
theorem splitW_take (ss : List Int) (j : Nat) (h : j < ss.length) : splitW (ss.take (j + 1)) = stepW (splitW (ss.take j)) (ss.getD j 0) := by
  rw [List.take_succ_eq_append_getElem h, splitW_snoc, List.getD_eq_getElem?_getD, List.getElem?_eq_getElem h]
  rfl
theorem stepW_ne (ws : List (List Int)) (c : Int) : stepW ws c ≠ [] := by
  unfold stepW
  split <;> simp
theorem splitW_ne (ss : List Int) : splitW ss ≠ [] := by
  rcases List.eq_nil_or_concat ss with rfl | ⟨r, c, rfl⟩
  · simp [splitW]
  · rw [List.concat_eq_append, splitW_snoc]
    exact stepW_ne _ _
theorem joinW_last (ws : List (List Int)) (x y : List Int) : joinW (ws ++ [x ++ y]) = joinW (ws ++ [x]) ++ y := by
  induction ws with
  | nil => rfl
  | cons w r ih =>
    match r with
    | [] => show w ++ 32 :: (x ++ y) = (w ++ 32 :: x) ++ y; simp
    | v :: r =>
      show w ++ 32 :: joinW (v :: r ++ [x ++ y]) = (w ++ 32 :: joinW (v :: r ++ [x])) ++ y
      rw [ih]
      simp
theorem joinW_new (ws : List (List Int)) (x : List Int) (h : ws ≠ []) : joinW (ws ++ [x]) = joinW ws ++ 32 :: x := by
  induction ws with
  | nil => exact absurd rfl h
  | cons w r ih =>
    match r with
    | [] => rfl
    | v :: r =>
      show w ++ 32 :: joinW (v :: r ++ [x]) = (w ++ 32 :: joinW (v :: r)) ++ 32 :: x
      rw [ih (by simp)]
      simp
theorem joinW_step (ws : List (List Int)) (c : Int) (h : ws ≠ []) : joinW (stepW ws c) = joinW ws ++ [c] := by
  obtain ⟨l, x, rfl⟩ : ∃ l x, ws = l ++ [x] := ⟨ws.dropLast, ws.getLast h, (List.dropLast_concat_getLast h).symm⟩
  by_cases hc : c = 32
  · subst hc
    rw [stepW_blank, joinW_new _ _ h]
  · rw [stepW_sign l x hc, joinW_last]
theorem joinW_fold : ∀ (ss : List Int) (ws : List (List Int)), ws ≠ [] → joinW (ss.foldl stepW ws) = joinW ws ++ ss
  | [], ws, _ => by simp
  | c :: r, ws, h => by
    show joinW (r.foldl stepW (stepW ws c)) = _
    rw [joinW_fold r _ (stepW_ne ws c), joinW_step ws c h]
    simp
/-- What was split is joined. -/
theorem joinW_splitW (ss : List Int) : joinW (splitW ss) = ss := by
  unfold splitW
  rw [joinW_fold ss [[]] (by simp)]
  rfl
/-- No blank. -/
def noB (w : List Int) : Prop := ∀ c ∈ w, c ≠ 32
theorem fold_word : ∀ (w : List Int) (ws : List (List Int)) (x : List Int), noB w → w.foldl stepW (ws ++ [x]) = ws ++ [x ++ w]
  | [], ws, x, _ => by simp
  | c :: r, ws, x, h => by
    show r.foldl stepW (stepW (ws ++ [x]) c) = _
    rw [stepW_sign ws x (h c (by simp)), fold_word r ws (x ++ [c]) (fun d hd => h d (by simp [hd]))]
    simp
theorem fold_join : ∀ (r : List (List Int)) (w : List Int) (ws : List (List Int)) (x : List Int), (∀ v ∈ w :: r, noB v) → (joinW (w :: r)).foldl stepW (ws ++ [x]) = ws ++ [x ++ w] ++ r
  | [], w, ws, x, h => by
    show w.foldl stepW (ws ++ [x]) = _
    rw [fold_word w ws x (h w (by simp)), List.append_nil]
  | v :: r, w, ws, x, h => by
    show (w ++ 32 :: joinW (v :: r)).foldl stepW (ws ++ [x]) = _
    rw [List.foldl_append, fold_word w ws x (h w (by simp))]
    show (joinW (v :: r)).foldl stepW (stepW (ws ++ [x ++ w]) 32) = _
    rw [stepW_blank, fold_join r v (ws ++ [x ++ w]) [] (fun u hu => h u (by simp only [List.mem_cons] at hu ⊢; exact .inr hu))]
    simp
/-- What was joined is split. -/
theorem splitW_joinW (ws : List (List Int)) (h0 : ws ≠ []) (h : ∀ v ∈ ws, noB v) : splitW (joinW ws) = ws := by
  match ws, h0 with
  | w :: r, _ =>
    have := fold_join r w [] [] h
    simpa [splitW] using this
theorem joinW_ok (ws : List (List Int)) (h : ∀ v ∈ ws, okB v) : okB (joinW ws) := by
  induction ws with
  | nil => intro c hc; cases hc
  | cons w r ih =>
    match r with
    | [] => exact h w (by simp)
    | v :: r =>
      show okB (w ++ 32 :: joinW (v :: r))
      refine okB_append (h w (by simp)) ?_
      intro c hc
      rcases List.mem_cons.1 hc with rfl | hc
      · decide
      · exact ih (fun u hu => h u (by simp only [List.mem_cons] at hu ⊢; exact .inr hu)) c hc

/-! ### Lines -/
def wordsR (r : RplV) : List (List Int) := nameL kindsL r.kind :: nameL errsL r.err :: (if r.err = 0 then (numsR r).map (fun n => numL n.toNat) else [])
/-- A reply's line; nothing, if it may not be. -/
def lineR (r : RplV) : List Int := if rightR r = true then joinW (wordsR r) else []
theorem numL_noB (n : Nat) : noB (numL n) := fun c hc => by have := numL_digs n c hc; unfold isDig at this; omega
theorem wordsR_noB {r : RplV} (h : RplRight r) : ∀ v ∈ wordsR r, noB v := by
  have hk := kind_in h.1
  have he := err_in h.2.1
  intro v hv
  unfold wordsR at hv
  rcases List.mem_cons.1 hv with rfl | hv
  · intro c hc; have := (kinds_ok _ hk.2.1).1 c hc; omega
  rcases List.mem_cons.1 hv with rfl | hv
  · intro c hc; have := (errs_ok _ he.2.1).1 c hc; omega
  split at hv
  · obtain ⟨n, _, rfl⟩ := List.mem_map.1 hv
    exact numL_noB _
  · cases hv
theorem splitW_line {r : RplV} (h : RplRight r) : splitW (lineR r) = wordsR r := by
  unfold lineR
  rw [if_pos ((rightR_iff r).2 h)]
  exact splitW_joinW _ (by simp [wordsR]) (wordsR_noB h)
theorem wordsR_ok (r : RplV) : ∀ v ∈ wordsR r, okB v := by
  intro v hv
  unfold wordsR at hv
  rcases List.mem_cons.1 hv with rfl | hv
  · exact nameL_ok _ kinds_b _
  rcases List.mem_cons.1 hv with rfl | hv
  · exact nameL_ok _ errs_b _
  split at hv
  · obtain ⟨n, _, rfl⟩ := List.mem_map.1 hv
    exact numL_ok _
  · cases hv
theorem lineR_ok (r : RplV) : okB (lineR r) := by
  unfold lineR
  split
  · exact joinW_ok _ (wordsR_ok r)
  · intro c hc; cases hc
/-- Words of one reply alone. -/
theorem wordsR_inj {r s : RplV} (hr : RplRight r) (hs : RplRight s) (ho : RplOk r) (hp : RplOk s) (h : wordsR r = wordsR s) : r = s := by
  obtain ⟨k, e, a, b, c, d, x⟩ := r
  obtain ⟨k', e', a', b', c', d', x'⟩ := s
  have hk := kind_in hr.1
  have he := err_in hr.2.1
  have hk' := kind_in hs.1
  have he' := err_in hs.2.1
  have h3 := hr.2.2
  have h3' := hs.2.2
  unfold wordsR at h
  dsimp only at h hk he hk' he' h3 h3'
  injection h with h1 h2
  injection h2 with h2 h4
  have q1 := hk.2.2
  rw [h1, hk'.2.2] at q1
  have q2 := he.2.2
  rw [h2, he'.2.2] at q2
  have q3 : k' = k := congrArg Prod.fst q1
  have q4 : e' = e := congrArg Prod.fst q2
  subst q3
  subst q4
  by_cases h0 : e' = 0
  · rw [if_pos h0, if_pos h0] at h4
    simp only [numsR, List.map_cons, List.map_nil, List.cons.injEq, and_true] at h4
    have nn : ∀ {y z : Int}, y ∈ [a, b, c, d, x] → z ∈ [a', b', c', d', x'] → numL y.toNat = numL z.toNat → y = z := fun {y z} hy hz e => by
      have h5 := congrArg valL e
      rw [valL_numL, valL_numL] at h5
      have h6 := ho y hy
      have h7 := hp z hz
      omega
    obtain ⟨e1, e2, e3, e4, e5⟩ := h4
    rw [nn (by simp) (by simp) e1, nn (by simp) (by simp) e2, nn (by simp) (by simp) e3, nn (by simp) (by simp) e4, nn (by simp) (by simp) e5]
  · have z1 := h3.resolve_left h0
    have z2 := h3'.resolve_left h0
    obtain ⟨rfl, rfl, rfl, rfl, rfl⟩ := z1
    obtain ⟨rfl, rfl, rfl, rfl, rfl⟩ := z2
    rfl

open Classical in
/-- The reply whose line it is; the fault of none's. -/
noncomputable def parseR (ss : List Int) : RplV × Int := if h : ∃ r, RplRight r ∧ RplOk r ∧ lineR r = ss then (Classical.choose h, 0) else (noRpl, 4)
theorem parseR_line {r : RplV} (h : RplRight r) (ho : RplOk r) : parseR (lineR r) = (r, 0) := by
  have hx : ∃ s, RplRight s ∧ RplOk s ∧ lineR s = lineR r := ⟨r, h, ho, rfl⟩
  unfold parseR
  rw [dif_pos hx]
  obtain ⟨h1, h2, h3⟩ := Classical.choose_spec hx
  have := congrArg splitW h3
  rw [splitW_line h1, splitW_line h] at this
  rw [wordsR_inj h1 h h2 ho this]
theorem parseR_is {ss : List Int} {r : RplV} (h : RplRight r) (ho : RplOk r) (e : lineR r = ss) : parseR ss = (r, 0) := e ▸ parseR_line h ho
theorem parseR_none {ss : List Int} (h : ∀ r, RplRight r → RplOk r → lineR r ≠ ss) : parseR ss = (noRpl, 4) := by
  unfold parseR
  rw [dif_neg]
  rintro ⟨r, h1, h2, h3⟩
  exact h r h1 h2 h3
theorem parseR_cases (ss : List Int) : (∃ r, RplRight r ∧ RplOk r ∧ lineR r = ss ∧ parseR ss = (r, 0)) ∨ (parseR ss = (noRpl, 4) ∧ ∀ r, RplRight r → RplOk r → lineR r ≠ ss) := by
  by_cases h : ∃ r, RplRight r ∧ RplOk r ∧ lineR r = ss
  · obtain ⟨r, h1, h2, h3⟩ := h
    exact .inl ⟨r, h1, h2, h3, parseR_is h1 h2 h3⟩
  · exact .inr ⟨parseR_none fun r h1 h2 h3 => h ⟨r, h1, h2, h3⟩, fun r h1 h2 h3 => h ⟨r, h1, h2, h3⟩⟩
/-- What the words of a line are read as, one by one: numbers that are none are 0. -/
def numW (w : List Int) : Int := ((unNum w 4294967295).1 : Int)
theorem numW_range (w : List Int) : 0 ≤ numW w ∧ numW w < 4294967296 := by
  unfold numW unNum
  split
  · decide
  split
  · decide
  · simp only; omega
theorem numW_numL {n : Int} (h : 0 ≤ n ∧ n < 4294967296) : numW (numL n.toNat) = n := by
  unfold numW
  rw [unNum_numL, if_neg (by omega)]
  show ((n.toNat : Nat) : Int) = n
  omega
def candW (ws : List (List Int)) : RplV := ⟨(placeL (ws.getD 0 []) kindsL 0).1, (placeL (ws.getD 1 []) errsL 0).1, if 2 < ws.length then numW (ws.getD 2 []) else 0, if 3 < ws.length then numW (ws.getD 3 []) else 0, if 4 < ws.length then numW (ws.getD 4 []) else 0, if 5 < ws.length then numW (ws.getD 5 []) else 0, if 6 < ws.length then numW (ws.getD 6 []) else 0⟩
theorem candW_ok (ws : List (List Int)) : RplOk (candW ws) := by
  have hif : ∀ (p : Prop) [Decidable p] (w : List Int), 0 ≤ (if p then numW w else 0) ∧ (if p then numW w else 0) < 4294967296 := fun p _ w => by
    split
    · exact numW_range w
    · decide
  intro x hx
  simp only [candW, numsR, List.mem_cons, List.mem_nil_iff, or_false] at hx
  rcases hx with rfl | rfl | rfl | rfl | rfl <;> exact hif _ _
theorem candW_words {r : RplV} (h : RplRight r) (ho : RplOk r) : candW (wordsR r) = r := by
  obtain ⟨k, e, a, b, c, d, x⟩ := r
  have hk := kind_in h.1
  have he := err_in h.2.1
  have h3 := h.2.2
  dsimp only at hk he h3
  by_cases h0 : e = 0
  · have hn : ∀ y, y ∈ [a, b, c, d, x] → numW (numL y.toNat) = y := fun y hy => numW_numL (ho y hy)
    have hw : wordsR ⟨k, e, a, b, c, d, x⟩ = [nameL kindsL k, nameL errsL e, numL a.toNat, numL b.toNat, numL c.toNat, numL d.toNat, numL x.toNat] := by
      unfold wordsR
      dsimp only
      rw [if_pos h0]
      rfl
    rw [hw]
    unfold candW
    simp only [List.getD_eq_getElem?_getD, List.getElem?_cons_zero, List.getElem?_cons_succ, Option.getD_some, List.length_cons, List.length_nil]
    rw [hk.2.2, he.2.2, hn a (by simp), hn b (by simp), hn c (by simp), hn d (by simp), hn x (by simp)]
    simp
  · have hw : wordsR ⟨k, e, a, b, c, d, x⟩ = [nameL kindsL k, nameL errsL e] := by
      unfold wordsR
      dsimp only
      rw [if_neg h0]
    obtain ⟨rfl, rfl, rfl, rfl, rfl⟩ := h3.resolve_left h0
    rw [hw]
    unfold candW
    simp only [List.getD_eq_getElem?_getD, List.getElem?_cons_zero, List.getElem?_cons_succ, Option.getD_some, List.length_cons, List.length_nil]
    rw [hk.2.2, he.2.2]
    simp
end Go.Proofs.YtbiabjehdmddbaaDoor

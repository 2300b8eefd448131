/-
  Texts of stages that were proved on their own, joined: RplMath, RplLine, RlName. Each begins with its own words.
-/
import Derived.Test.YtbiabjehdmddbaaGreatDoorJRlAll1
import Derived.Test.YtbiabjehdmddbaaGreatDoorJRlAll2
import Derived.Test.YtbiabjehdmddbaaGreatDoorBlocks

/-
  Replies (layer 15) as data: names, which replies may be, their bytes and lines, what is read of bytes and of a line. No Go function is spoken of.
-/
namespace Go.Proofs.YtbiabjehdmddbaaGreatDoor

structure RplV where
  kind : Int
  err : Int
  ses : Int
  seq : Int
  quo : Int
  usd : Int
  exp : Int
def noRpl : RplV := ⟨0, 0, 0, 0, 0, 0, 0⟩
def numsR (r : RplV) : List Int := [r.ses, r.seq, r.quo, r.usd, r.exp]
/-- The fields' ranges. -/
def RplOk (r : RplV) : Prop := ∀ x ∈ numsR r, 0 ≤ x ∧ x < 4294967296
def RplRight (r : RplV) : Prop := (0 ≤ r.kind ∧ r.kind < 7) ∧ (0 ≤ r.err ∧ r.err < 21) ∧ (r.err = 0 ∨ (r.ses = 0 ∧ r.seq = 0 ∧ r.quo = 0 ∧ r.usd = 0 ∧ r.exp = 0))
instance (r : RplV) : Decidable (RplRight r) := by unfold RplRight; infer_instance
def rightR (r : RplV) : Bool := decide (RplRight r)
theorem rightR_iff (r : RplV) : rightR r = true ↔ RplRight r := decide_eq_true_iff
theorem rightR_no {r : RplV} (h : rightR r = false) : ¬ RplRight r := of_decide_eq_false h

def kindsL : List (List Int) := [[110, 111, 110, 101], [111, 112, 101, 110], [117, 112, 108, 111, 97, 100], [97, 115, 107], [99, 108, 111, 115, 101], [99, 111, 110, 110, 101, 99, 116], [100, 105, 115, 99, 111, 110, 110, 101, 99, 116]]
def errsL : List (List Int) := [[111, 107], [97, 114, 103], [115, 104, 111, 114, 116], [108, 111, 110, 103], [102, 111, 114, 109], [110, 111, 110, 101], [116, 119, 105, 99, 101], [110, 105, 108], [115, 101, 97, 108], [115, 117, 109], [115, 116, 97, 116, 101], [104, 97, 108, 116, 101, 100], [115, 101, 115, 115, 105, 111, 110], [101, 120, 112, 105, 114, 101, 100], [115, 101, 113], [113, 117, 111, 116, 97], [109, 97, 110, 121], [100, 105, 115, 107], [100, 111, 119, 110], [112, 97, 114, 101, 110, 116], [100, 101, 101, 112]]
/-- The name in a number's place; ?, if there is none. -/
def nameL (ns : List (List Int)) (n : Int) : List Int := if 0 ≤ n ∧ n < (ns.length : Int) then ns.getD n.toNat [] else [63]
/-- The place of a name, or that it has none. -/
def placeL (s : List Int) : List (List Int) → Nat → Int × Bool
  | [], _ => (0, false)
  | x :: r, i => if x = s then ((i : Int), true) else placeL s r (i + 1)
theorem placeL_spec (s : List Int) : ∀ (ns : List (List Int)) (i : Nat), (placeL s ns i = (0, false) ∧ ∀ x ∈ ns, x ≠ s) ∨ ∃ j, j < ns.length ∧ placeL s ns i = (((i + j : Nat) : Int), true) ∧ ns.getD j [] = s
  | [], i => .inl ⟨rfl, by simp⟩
  | x :: r, i => by
    rw [placeL]
    by_cases h : x = s
    · rw [if_pos h]
      exact .inr ⟨0, by simp, rfl, h⟩
    · rw [if_neg h]
      rcases placeL_spec s r (i + 1) with ⟨h1, h2⟩ | ⟨j, h1, h2, h3⟩
      · exact .inl ⟨h1, fun y hy => (List.mem_cons.1 hy).elim (fun e => e ▸ h) (h2 y)⟩
      · exact .inr ⟨j + 1, by simp; omega, by rw [h2, show i + 1 + j = i + (j + 1) by omega], h3⟩

theorem kinds_place : ∀ k : Fin 7, placeL (kindsL.getD k.1 []) kindsL 0 = ((k.1 : Int), true) := by decide +kernel
theorem errs_place : ∀ k : Fin 21, placeL (errsL.getD k.1 []) errsL 0 = ((k.1 : Int), true) := by decide +kernel
theorem kinds_q : placeL [63] kindsL 0 = (0, false) := by decide +kernel
theorem errs_q : placeL [63] errsL 0 = (0, false) := by decide +kernel
theorem kinds_ok : ∀ x ∈ kindsL, (∀ c ∈ x, 97 ≤ c ∧ c ≤ 122) ∧ x ≠ [63] ∧ x.length ≤ 10 := by decide +kernel
theorem errs_ok : ∀ x ∈ errsL, (∀ c ∈ x, 97 ≤ c ∧ c ≤ 122) ∧ x ≠ [63] ∧ x.length ≤ 10 := by decide +kernel
theorem kind_in {k : Int} (h : 0 ≤ k ∧ k < 7) : nameL kindsL k = kindsL.getD k.toNat [] ∧ nameL kindsL k ∈ kindsL ∧ placeL (nameL kindsL k) kindsL 0 = (k, true) := by
  have e : nameL kindsL k = kindsL.getD k.toNat [] := if_pos h
  have hl : k.toNat < kindsL.length := by show k.toNat < 7; omega
  refine ⟨e, ?_, ?_⟩
  · rw [e, List.getD_eq_getElem?_getD, List.getElem?_eq_getElem hl]
    exact List.getElem_mem hl
  · have := kinds_place ⟨k.toNat, hl⟩
    rw [e, this]
    show ((k.toNat : Int), true) = _
    rw [show (k.toNat : Int) = k by omega]
theorem err_in {k : Int} (h : 0 ≤ k ∧ k < 21) : nameL errsL k = errsL.getD k.toNat [] ∧ nameL errsL k ∈ errsL ∧ placeL (nameL errsL k) errsL 0 = (k, true) := by
  have e : nameL errsL k = errsL.getD k.toNat [] := if_pos h
  have hl : k.toNat < errsL.length := by show k.toNat < 21; omega
  refine ⟨e, ?_, ?_⟩
  · rw [e, List.getD_eq_getElem?_getD, List.getElem?_eq_getElem hl]
    exact List.getElem_mem hl
  · have := errs_place ⟨k.toNat, hl⟩
    rw [e, this]
    show ((k.toNat : Int), true) = _
    rw [show (k.toNat : Int) = k by omega]
theorem kind_out {k : Int} (h : ¬ (0 ≤ k ∧ k < 7)) : nameL kindsL k = [63] := if_neg h
theorem err_out {k : Int} (h : ¬ (0 ≤ k ∧ k < 21)) : nameL errsL k = [63] := if_neg h
theorem kind_q (k : Int) : nameL kindsL k = [63] ↔ ¬ (0 ≤ k ∧ k < 7) := by
  constructor
  · intro e h
    have := kind_in h
    exact (kinds_ok _ this.2.1).2.1 e
  · exact kind_out
theorem err_q (k : Int) : nameL errsL k = [63] ↔ ¬ (0 ≤ k ∧ k < 21) := by
  constructor
  · intro e h
    have := err_in h
    exact (errs_ok _ this.2.1).2.1 e
  · exact err_out
theorem nameL_ok (ns : List (List Int)) (h : ∀ x ∈ ns, ∀ c ∈ x, (0 : Int) ≤ c ∧ c < 256) (k : Int) : okB (nameL ns k) := by
  unfold nameL
  split
  · rename_i hk
    have hl : k.toNat < ns.length := by omega
    rw [List.getD_eq_getElem?_getD, List.getElem?_eq_getElem hl]
    exact h _ (List.getElem_mem hl)
  · intro c hc
    rw [List.mem_singleton.1 hc]
    decide
theorem kinds_b : ∀ x ∈ kindsL, ∀ c ∈ x, (0 : Int) ≤ c ∧ c < 256 := fun x hx c hc => by have := (kinds_ok x hx).1 c hc; omega
theorem errs_b : ∀ x ∈ errsL, ∀ c ∈ x, (0 : Int) ≤ c ∧ c < 256 := fun x hx c hc => by have := (errs_ok x hx).1 c hc; omega

/-! ### Bytes -/
def bytesR (r : RplV) : List Int := r.kind :: r.err :: (beL r.ses 4 ++ (beL r.seq 4 ++ (beL r.quo 4 ++ (beL r.usd 4 ++ beL r.exp 4))))
theorem bytesR_len (r : RplV) : (bytesR r).length = 22 := by
  unfold bytesR
  simp only [List.length_cons, List.length_append, beL_len]
/-- What the bytes from a place on tell. -/
def numAt (xs : List Int) (p : Nat) : Int := be ((xs.drop p).take 4)
def rplOf (xs : List Int) : RplV := ⟨xs.getD 0 0, xs.getD 1 0, numAt xs 2, numAt xs 6, numAt xs 10, numAt xs 14, numAt xs 18⟩
def decR (xs : List Int) : RplV × Int := if xs.length < 22 then (noRpl, 2) else if 22 < xs.length then (noRpl, 3) else if rightR (rplOf xs) = true then (rplOf xs, 0) else (noRpl, 4)
theorem be_lim (l : List Int) (h : ∀ x ∈ l, 0 ≤ x ∧ x < 256) (hl : l.length ≤ 4) : 0 ≤ be l ∧ be l < 4294967296 := by
  have h1 := be_fold l 0 h (Int.le_refl 0)
  unfold be
  refine ⟨h1.1, ?_⟩
  have h2 := h1.2
  have h3 : (256 : Int) ^ l.length ≤ 256 ^ 4 := by
    have := Nat.pow_le_pow_right (n := 256) (by decide) hl
    have e : ∀ n : Nat, ((256 ^ n : Nat) : Int) = (256 : Int) ^ n := fun n => by rw [Int.natCast_pow]; rfl
    rw [← e, ← e]
    omega
  have h4 : (256 : Int) ^ 4 = 4294967296 := by decide
  rw [h4] at h3
  have h5 : (0 + 1) * (256 : Int) ^ l.length = 256 ^ l.length := by rw [Int.zero_add, Int.one_mul]
  omega
theorem numAt_range {xs : List Int} (h : ∀ x ∈ xs, 0 ≤ x ∧ x < 256) (p : Nat) : 0 ≤ numAt xs p ∧ numAt xs p < 4294967296 :=
  be_lim _ (fun x hx => h x (List.mem_of_mem_drop (List.mem_of_mem_take hx))) (by rw [List.length_take]; omega)
theorem rplOf_ok {xs : List Int} (h : ∀ x ∈ xs, 0 ≤ x ∧ x < 256) : RplOk (rplOf xs) := by
  intro x hx
  simp only [rplOf, numsR, List.mem_cons, List.mem_nil_iff, or_false] at hx
  rcases hx with rfl | rfl | rfl | rfl | rfl <;> exact numAt_range h _
theorem beL_be4 {l : List Int} (h : ∀ x ∈ l, 0 ≤ x ∧ x < 256) (hl : l.length = 4) : beL (be l) 4 = l := by
  match l, hl with
  | [a, b, c, d], _ =>
    have ha := h a (by simp)
    have hb := h b (by simp)
    have hc := h c (by simp)
    have hd := h d (by simp)
    have e : be [a, b, c, d] = ((a * 256 + b) * 256 + c) * 256 + d := by unfold be; simp; omega
    rw [e]
    show [] ++ [_] ++ [_] ++ [_] ++ [_] = _
    simp only [List.nil_append, List.cons_append]
    congr 1
    · omega
    congr 1
    · omega
    congr 1
    · omega
    congr 1
    omega
theorem cut5 (xs : List Int) (h : xs.length = 22) : xs = xs.getD 0 0 :: xs.getD 1 0 :: ((xs.drop 2).take 4 ++ ((xs.drop 6).take 4 ++ ((xs.drop 10).take 4 ++ ((xs.drop 14).take 4 ++ (xs.drop 18).take 4)))) := by
  match xs, h with
  | [_, _, _, _, _, _, _, _, _, _, _, _, _, _, _, _, _, _, _, _, _, _], _ => rfl
/-- Twenty-two bytes are those of what they tell. -/
theorem bytesR_rplOf {xs : List Int} (h : ∀ x ∈ xs, 0 ≤ x ∧ x < 256) (hl : xs.length = 22) : bytesR (rplOf xs) = xs := by
  have hb : ∀ p, p ≤ 18 → beL (numAt xs p) 4 = (xs.drop p).take 4 := fun p hp => beL_be4 (fun x hx => h x (List.mem_of_mem_drop (List.mem_of_mem_take hx))) (by rw [List.length_take, List.length_drop]; omega)
  show xs.getD 0 0 :: xs.getD 1 0 :: (beL (numAt xs 2) 4 ++ (beL (numAt xs 6) 4 ++ (beL (numAt xs 10) 4 ++ (beL (numAt xs 14) 4 ++ beL (numAt xs 18) 4)))) = xs
  rw [hb 2 (by decide), hb 6 (by decide), hb 10 (by decide), hb 14 (by decide), hb 18 (by decide)]
  exact (cut5 xs hl).symm
theorem rplOf_bytesR {r : RplV} (h : RplOk r) : rplOf (bytesR r) = r := by
  obtain ⟨k, e, a, b, c, d, x⟩ := r
  have hh : ∀ y, y ∈ [a, b, c, d, x] → be (beL y 4) = y := fun y hy => be_beL 4 y (h y hy).1 (by have := (h y hy).2; show y < 256 ^ 4; simpa using this)
  have tk : ∀ (l X : List Int), l.length = 4 → (l ++ X).take 4 = l := fun l X hl => by rw [List.take_append_of_le_length (by omega), List.take_of_length_le (by omega)]
  have dp : ∀ (l X : List Int), l.length = 4 → (l ++ X).drop 4 = X := fun l X hl => by rw [List.drop_append, hl, List.drop_eq_nil_of_le (by omega)]; rfl
  have L := fun y => beL_len y 4
  have d2 : ∀ X : List Int, (k :: e :: X).drop 2 = X := fun X => rfl
  unfold rplOf numAt bytesR
  dsimp only
  rw [show (6 : Nat) = 2 + 4 from rfl, show (10 : Nat) = 2 + 4 + 4 from rfl, show (14 : Nat) = 2 + 4 + 4 + 4 from rfl, show (18 : Nat) = 2 + 4 + 4 + 4 + 4 from rfl]
  simp only [← List.drop_drop, d2]
  rw [dp _ _ (L a), dp _ _ (L b), dp _ _ (L c), dp _ _ (L d), tk _ _ (L a), tk _ _ (L b), tk _ _ (L c), tk _ _ (L d), List.take_of_length_le (by rw [L x]; exact Nat.le_refl _)]
  rw [hh a (by simp), hh b (by simp), hh c (by simp), hh d (by simp), hh x (by simp)]
  rfl
/-- What was encoded is decoded. -/
theorem decR_bytesR {r : RplV} (h : RplOk r) (hr : RplRight r) : decR (bytesR r) = (r, 0) := by
  unfold decR
  rw [bytesR_len, if_neg (by decide), if_neg (by decide), rplOf_bytesR h, if_pos ((rightR_iff r).2 hr)]
/-- What is decoded, encoded again, is those bytes. -/
theorem bytesR_decR {xs : List Int} {r : RplV} (h : ∀ x ∈ xs, 0 ≤ x ∧ x < 256) (hd : decR xs = (r, 0)) : RplRight r ∧ RplOk r ∧ bytesR r = xs := by
  unfold decR at hd
  split at hd
  · cases hd
  split at hd
  · cases hd
  split at hd
  · rename_i h1 h2 h3
    injection hd with hd _
    subst hd
    exact ⟨(rightR_iff _).1 h3, rplOf_ok h, bytesR_rplOf h (by omega)⟩
  · cases hd
theorem decR_bad {xs : List Int} (h : (decR xs).2 ≠ 0) : (decR xs).1 = noRpl := by
  unfold decR at h ⊢
  split
  · rfl
  split
  · rfl
  split
  · rename_i h1 h2 h3
    rw [if_neg h1, if_neg h2, if_pos h3] at h
    exact absurd rfl h
  · rfl
end Go.Proofs.YtbiabjehdmddbaaGreatDoor

/-
  Replies' lines (layer 15) as lists of signs: words, split and joined; what is read of a line. No Go function is spoken of.
-/
namespace Go.Proofs.YtbiabjehdmddbaaGreatDoor

/-! ### Words -/
def joinW : List (List Int) → List Int
  | [] => []
  | [w] => w
  | w :: x :: r => w ++ 32 :: joinW (x :: r)
/-- A sign more behind words: a blank begins a new one. -/
def stepW (ws : List (List Int)) (c : Int) : List (List Int) := if c = 32 then ws ++ [[]] else ws.dropLast ++ [ws.getLastD [] ++ [c]]
def splitW (ss : List Int) : List (List Int) := ss.foldl stepW [[]]
theorem stepW_blank (ws : List (List Int)) : stepW ws 32 = ws ++ [[]] := if_pos rfl
theorem stepW_sign (ws : List (List Int)) (x : List Int) {c : Int} (h : c ≠ 32) : stepW (ws ++ [x]) c = ws ++ [x ++ [c]] := by
  unfold stepW
  rw [if_neg h, List.dropLast_concat]
  congr 2
  simp
theorem splitW_snoc (ss : List Int) (c : Int) : splitW (ss ++ [c]) = stepW (splitW ss) c := by
  unfold splitW
  rw [List.foldl_append]
  rfl
theorem splitW_take (ss : List Int) (j : Nat) (h : j < ss.length) : splitW (ss.take (j + 1)) = stepW (splitW (ss.take j)) (ss.getD j 0) := by
  rw [List.take_succ_eq_append_getElem h, splitW_snoc, List.getD_eq_getElem?_getD, List.getElem?_eq_getElem h]
  rfl
theorem stepW_ne (ws : List (List Int)) (c : Int) : stepW ws c ≠ [] := by
  unfold stepW
  split <;> simp
theorem splitW_ne (ss : List Int) : splitW ss ≠ [] := by
  rcases List.eq_nil_or_concat ss with rfl | ⟨r, c, rfl⟩
  · simp [splitW]
  · rw [List.concat_eq_append, splitW_snoc]
    exact stepW_ne _ _
theorem joinW_last (ws : List (List Int)) (x y : List Int) : joinW (ws ++ [x ++ y]) = joinW (ws ++ [x]) ++ y := by
  induction ws with
  | nil => rfl
  | cons w r ih =>
    match r with
    | [] => show w ++ 32 :: (x ++ y) = (w ++ 32 :: x) ++ y; simp
    | v :: r =>
      show w ++ 32 :: joinW (v :: r ++ [x ++ y]) = (w ++ 32 :: joinW (v :: r ++ [x])) ++ y
      rw [ih]
      simp
theorem joinW_new (ws : List (List Int)) (x : List Int) (h : ws ≠ []) : joinW (ws ++ [x]) = joinW ws ++ 32 :: x := by
  induction ws with
  | nil => exact absurd rfl h
  | cons w r ih =>
    match r with
    | [] => rfl
    | v :: r =>
      show w ++ 32 :: joinW (v :: r ++ [x]) = (w ++ 32 :: joinW (v :: r)) ++ 32 :: x
      rw [ih (by simp)]
      simp
theorem joinW_step (ws : List (List Int)) (c : Int) (h : ws ≠ []) : joinW (stepW ws c) = joinW ws ++ [c] := by
  obtain ⟨l, x, rfl⟩ : ∃ l x, ws = l ++ [x] := ⟨ws.dropLast, ws.getLast h, (List.dropLast_concat_getLast h).symm⟩
  by_cases hc : c = 32
  · subst hc
    rw [stepW_blank, joinW_new _ _ h]
  · rw [stepW_sign l x hc, joinW_last]
theorem joinW_fold : ∀ (ss : List Int) (ws : List (List Int)), ws ≠ [] → joinW (ss.foldl stepW ws) = joinW ws ++ ss
  | [], ws, _ => by simp
  | c :: r, ws, h => by
    show joinW (r.foldl stepW (stepW ws c)) = _
    rw [joinW_fold r _ (stepW_ne ws c), joinW_step ws c h]
    simp
/-- What was split is joined. -/
theorem joinW_splitW (ss : List Int) : joinW (splitW ss) = ss := by
  unfold splitW
  rw [joinW_fold ss [[]] (by simp)]
  rfl
/-- No blank. -/
def noB (w : List Int) : Prop := ∀ c ∈ w, c ≠ 32
theorem fold_word : ∀ (w : List Int) (ws : List (List Int)) (x : List Int), noB w → w.foldl stepW (ws ++ [x]) = ws ++ [x ++ w]
  | [], ws, x, _ => by simp
  | c :: r, ws, x, h => by
    show r.foldl stepW (stepW (ws ++ [x]) c) = _
    rw [stepW_sign ws x (h c (by simp)), fold_word r ws (x ++ [c]) (fun d hd => h d (by simp [hd]))]
    simp
theorem fold_join : ∀ (r : List (List Int)) (w : List Int) (ws : List (List Int)) (x : List Int), (∀ v ∈ w :: r, noB v) → (joinW (w :: r)).foldl stepW (ws ++ [x]) = ws ++ [x ++ w] ++ r
  | [], w, ws, x, h => by
    show w.foldl stepW (ws ++ [x]) = _
    rw [fold_word w ws x (h w (by simp)), List.append_nil]
  | v :: r, w, ws, x, h => by
    show (w ++ 32 :: joinW (v :: r)).foldl stepW (ws ++ [x]) = _
    rw [List.foldl_append, fold_word w ws x (h w (by simp))]
    show (joinW (v :: r)).foldl stepW (stepW (ws ++ [x ++ w]) 32) = _
    rw [stepW_blank, fold_join r v (ws ++ [x ++ w]) [] (fun u hu => h u (by simp only [List.mem_cons] at hu ⊢; exact .inr hu))]
    simp
/-- What was joined is split. -/
theorem splitW_joinW (ws : List (List Int)) (h0 : ws ≠ []) (h : ∀ v ∈ ws, noB v) : splitW (joinW ws) = ws := by
  match ws, h0 with
  | w :: r, _ =>
    have := fold_join r w [] [] h
    simpa [splitW] using this
theorem joinW_ok (ws : List (List Int)) (h : ∀ v ∈ ws, okB v) : okB (joinW ws) := by
  induction ws with
  | nil => intro c hc; cases hc
  | cons w r ih =>
    match r with
    | [] => exact h w (by simp)
    | v :: r =>
      show okB (w ++ 32 :: joinW (v :: r))
      refine okB_append (h w (by simp)) ?_
      intro c hc
      rcases List.mem_cons.1 hc with rfl | hc
      · decide
      · exact ih (fun u hu => h u (by simp only [List.mem_cons] at hu ⊢; exact .inr hu)) c hc

/-! ### Lines -/
def wordsR (r : RplV) : List (List Int) := nameL kindsL r.kind :: nameL errsL r.err :: (if r.err = 0 then (numsR r).map (fun n => numL n.toNat) else [])
/-- A reply's line; nothing, if it may not be. -/
def lineR (r : RplV) : List Int := if rightR r = true then joinW (wordsR r) else []
theorem numL_noB (n : Nat) : noB (numL n) := fun c hc => by have := numL_digs n c hc; unfold isDig at this; omega
theorem wordsR_noB {r : RplV} (h : RplRight r) : ∀ v ∈ wordsR r, noB v := by
  have hk := kind_in h.1
  have he := err_in h.2.1
  intro v hv
  unfold wordsR at hv
  rcases List.mem_cons.1 hv with rfl | hv
  · intro c hc; have := (kinds_ok _ hk.2.1).1 c hc; omega
  rcases List.mem_cons.1 hv with rfl | hv
  · intro c hc; have := (errs_ok _ he.2.1).1 c hc; omega
  split at hv
  · obtain ⟨n, _, rfl⟩ := List.mem_map.1 hv
    exact numL_noB _
  · cases hv
theorem splitW_line {r : RplV} (h : RplRight r) : splitW (lineR r) = wordsR r := by
  unfold lineR
  rw [if_pos ((rightR_iff r).2 h)]
  exact splitW_joinW _ (by simp [wordsR]) (wordsR_noB h)
theorem wordsR_ok (r : RplV) : ∀ v ∈ wordsR r, okB v := by
  intro v hv
  unfold wordsR at hv
  rcases List.mem_cons.1 hv with rfl | hv
  · exact nameL_ok _ kinds_b _
  rcases List.mem_cons.1 hv with rfl | hv
  · exact nameL_ok _ errs_b _
  split at hv
  · obtain ⟨n, _, rfl⟩ := List.mem_map.1 hv
    exact numL_ok _
  · cases hv
theorem lineR_ok (r : RplV) : okB (lineR r) := by
  unfold lineR
  split
  · exact joinW_ok _ (wordsR_ok r)
  · intro c hc; cases hc
/-- Words of one reply alone. -/
theorem wordsR_inj {r s : RplV} (hr : RplRight r) (hs : RplRight s) (ho : RplOk r) (hp : RplOk s) (h : wordsR r = wordsR s) : r = s := by
  obtain ⟨k, e, a, b, c, d, x⟩ := r
  obtain ⟨k', e', a', b', c', d', x'⟩ := s
  have hk := kind_in hr.1
  have he := err_in hr.2.1
  have hk' := kind_in hs.1
  have he' := err_in hs.2.1
  have h3 := hr.2.2
  have h3' := hs.2.2
  unfold wordsR at h
  dsimp only at h hk he hk' he' h3 h3'
  injection h with h1 h2
  injection h2 with h2 h4
  have q1 := hk.2.2
  rw [h1, hk'.2.2] at q1
  have q2 := he.2.2
  rw [h2, he'.2.2] at q2
  have q3 : k' = k := congrArg Prod.fst q1
  have q4 : e' = e := congrArg Prod.fst q2
  subst q3
  subst q4
  by_cases h0 : e' = 0
  · rw [if_pos h0, if_pos h0] at h4
    simp only [numsR, List.map_cons, List.map_nil, List.cons.injEq, and_true] at h4
    have nn : ∀ {y z : Int}, y ∈ [a, b, c, d, x] → z ∈ [a', b', c', d', x'] → numL y.toNat = numL z.toNat → y = z := fun {y z} hy hz e => by
      have h5 := congrArg valL e
      rw [valL_numL, valL_numL] at h5
      have h6 := ho y hy
      have h7 := hp z hz
      omega
    obtain ⟨e1, e2, e3, e4, e5⟩ := h4
    rw [nn (by simp) (by simp) e1, nn (by simp) (by simp) e2, nn (by simp) (by simp) e3, nn (by simp) (by simp) e4, nn (by simp) (by simp) e5]
  · have z1 := h3.resolve_left h0
    have z2 := h3'.resolve_left h0
    obtain ⟨rfl, rfl, rfl, rfl, rfl⟩ := z1
    obtain ⟨rfl, rfl, rfl, rfl, rfl⟩ := z2
    rfl

open Classical in
/-- The reply whose line it is; the fault of none's. -/
noncomputable def parseR (ss : List Int) : RplV × Int := if h : ∃ r, RplRight r ∧ RplOk r ∧ lineR r = ss then (Classical.choose h, 0) else (noRpl, 4)
theorem parseR_line {r : RplV} (h : RplRight r) (ho : RplOk r) : parseR (lineR r) = (r, 0) := by
  have hx : ∃ s, RplRight s ∧ RplOk s ∧ lineR s = lineR r := ⟨r, h, ho, rfl⟩
  unfold parseR
  rw [dif_pos hx]
  obtain ⟨h1, h2, h3⟩ := Classical.choose_spec hx
  have := congrArg splitW h3
  rw [splitW_line h1, splitW_line h] at this
  rw [wordsR_inj h1 h h2 ho this]
theorem parseR_is {ss : List Int} {r : RplV} (h : RplRight r) (ho : RplOk r) (e : lineR r = ss) : parseR ss = (r, 0) := e ▸ parseR_line h ho
theorem parseR_none {ss : List Int} (h : ∀ r, RplRight r → RplOk r → lineR r ≠ ss) : parseR ss = (noRpl, 4) := by
  unfold parseR
  rw [dif_neg]
  rintro ⟨r, h1, h2, h3⟩
  exact h r h1 h2 h3
theorem parseR_cases (ss : List Int) : (∃ r, RplRight r ∧ RplOk r ∧ lineR r = ss ∧ parseR ss = (r, 0)) ∨ (parseR ss = (noRpl, 4) ∧ ∀ r, RplRight r → RplOk r → lineR r ≠ ss) := by
  by_cases h : ∃ r, RplRight r ∧ RplOk r ∧ lineR r = ss
  · obtain ⟨r, h1, h2, h3⟩ := h
    exact .inl ⟨r, h1, h2, h3, parseR_is h1 h2 h3⟩
  · exact .inr ⟨parseR_none fun r h1 h2 h3 => h ⟨r, h1, h2, h3⟩, fun r h1 h2 h3 => h ⟨r, h1, h2, h3⟩⟩
/-- What the words of a line are read as, one by one: numbers that are none are 0. -/
def numW (w : List Int) : Int := ((unNum w 4294967295).1 : Int)
theorem numW_range (w : List Int) : 0 ≤ numW w ∧ numW w < 4294967296 := by
  unfold numW unNum
  split
  · decide
  split
  · decide
  · simp only; omega
theorem numW_numL {n : Int} (h : 0 ≤ n ∧ n < 4294967296) : numW (numL n.toNat) = n := by
  unfold numW
  rw [unNum_numL, if_neg (by omega)]
  show ((n.toNat : Nat) : Int) = n
  omega
def candW (ws : List (List Int)) : RplV := ⟨(placeL (ws.getD 0 []) kindsL 0).1, (placeL (ws.getD 1 []) errsL 0).1, if 2 < ws.length then numW (ws.getD 2 []) else 0, if 3 < ws.length then numW (ws.getD 3 []) else 0, if 4 < ws.length then numW (ws.getD 4 []) else 0, if 5 < ws.length then numW (ws.getD 5 []) else 0, if 6 < ws.length then numW (ws.getD 6 []) else 0⟩
theorem candW_ok (ws : List (List Int)) : RplOk (candW ws) := by
  have hif : ∀ (p : Prop) [Decidable p] (w : List Int), 0 ≤ (if p then numW w else 0) ∧ (if p then numW w else 0) < 4294967296 := fun p _ w => by
    split
    · exact numW_range w
    · decide
  intro x hx
  simp only [candW, numsR, List.mem_cons, List.mem_nil_iff, or_false] at hx
  rcases hx with rfl | rfl | rfl | rfl | rfl <;> exact hif _ _
theorem candW_words {r : RplV} (h : RplRight r) (ho : RplOk r) : candW (wordsR r) = r := by
  obtain ⟨k, e, a, b, c, d, x⟩ := r
  have hk := kind_in h.1
  have he := err_in h.2.1
  have h3 := h.2.2
  dsimp only at hk he h3
  by_cases h0 : e = 0
  · have hn : ∀ y, y ∈ [a, b, c, d, x] → numW (numL y.toNat) = y := fun y hy => numW_numL (ho y hy)
    have hw : wordsR ⟨k, e, a, b, c, d, x⟩ = [nameL kindsL k, nameL errsL e, numL a.toNat, numL b.toNat, numL c.toNat, numL d.toNat, numL x.toNat] := by
      unfold wordsR
      dsimp only
      rw [if_pos h0]
      rfl
    rw [hw]
    unfold candW
    simp only [List.getD_eq_getElem?_getD, List.getElem?_cons_zero, List.getElem?_cons_succ, Option.getD_some, List.length_cons, List.length_nil]
    rw [hk.2.2, he.2.2, hn a (by simp), hn b (by simp), hn c (by simp), hn d (by simp), hn x (by simp)]
    simp
  · have hw : wordsR ⟨k, e, a, b, c, d, x⟩ = [nameL kindsL k, nameL errsL e] := by
      unfold wordsR
      dsimp only
      rw [if_neg h0]
    obtain ⟨rfl, rfl, rfl, rfl, rfl⟩ := h3.resolve_left h0
    rw [hw]
    unfold candW
    simp only [List.getD_eq_getElem?_getD, List.getElem?_cons_zero, List.getElem?_cons_succ, Option.getD_some, List.length_cons, List.length_nil]
    rw [hk.2.2, he.2.2]
    simp
end Go.Proofs.YtbiabjehdmddbaaGreatDoor

/-
  The names of kinds and errors (layer 15): the program's tables, nameOf, numberOf, KindName, ErrName, KindOf, ErrOf; slices.Index. New memory alone is written. No conditions.
-/
namespace Go.Proofs.YtbiabjehdmddbaaGreatDoor
open Go.RowKit

/-- Names as strings in memory. -/
def strsV (ns : List (List Int)) : List Value := ns.map fun l => Value.string (strOfNums l)
theorem strsV_len (ns : List (List Int)) : (strsV ns).length = ns.length := List.length_map ..
theorem strsV_get (ns : List (List Int)) (j : Nat) (h : j < ns.length) : (strsV ns)[j]? = some (.string (strOfNums (ns.getD j []))) := by
  unfold strsV
  rw [List.getElem?_map, List.getElem?_eq_getElem h, List.getD_eq_getElem?_getD, List.getElem?_eq_getElem h]
  rfl
theorem strsV_cell {w : World} {g : Nat} {t : TypeId} {ns : List (List Int)} (h : Blk w g t (strsV ns)) (j : Nat) (hj : j < ns.length) : w.cell? ⟨g, j, none⟩ = some (.string (strOfNums (ns.getD j []))) := by rw [h.cell, strsV_get ns j hj]
theorem place_hit (s : List Int) : ∀ (ns : List (List Int)) (i j : Nat), j < ns.length → ns.getD j [] = s → (∀ k, k < j → ns.getD k [] ≠ s) → placeL s ns i = (((i + j : Nat) : Int), true)
  | [], _, _, h, _, _ => by cases h
  | x :: r, i, 0, _, h, _ => by
    have h' : x = s := h
    rw [placeL, if_pos h']
    rfl
  | x :: r, i, j + 1, hj, h, hno => by
    have h0 : x ≠ s := hno 0 (by omega)
    rw [placeL, if_neg h0, place_hit s r (i + 1) j (by simpa using hj) h (fun k hk => hno (k + 1) (by omega))]
    congr 2
    omega
theorem place_miss (s : List Int) (ns : List (List Int)) (h : ∀ k, k < ns.length → ns.getD k [] ≠ s) : placeL s ns 0 = (0, false) := by
  rcases placeL_spec s ns 0 with ⟨h1, _⟩ | ⟨j, h1, _, h3⟩
  · exact h1
  · exact absurd h3 (h j h1)
theorem place_ge (s : List Int) (ns : List (List Int)) : 0 ≤ (placeL s ns 0).1 ∧ ((placeL s ns 0).2 = false → (placeL s ns 0).1 = 0) := by
  rcases placeL_spec s ns 0 with ⟨h1, _⟩ | ⟨j, h1, h2, _⟩
  · rw [h1]; exact ⟨Int.le_refl _, fun _ => rfl⟩
  · rw [h2]; exact ⟨Int.natCast_nonneg _, fun h => by cases h⟩
theorem str_eqB (s : ByteArray) {x : List Int} (h : okB x) : (s.toList == (strOfNums x).toList) = decide (x = numsOf s) := by
  rw [toList_nums, nums_str h]
  exact decide_eq_decide.2 eq_comm
theorem str_eqB' (s : ByteArray) {x : List Int} (h : okB x) : ((strOfNums x).toList == s.toList) = decide (x = numsOf s) := by
  rw [toList_nums, nums_str h]

set_option maxRecDepth 100000 in
theorem rlKinds_any (w : World) : Calls Tryz.prog 42 #[] w fun q w' => q = .returned (.slice (some ⟨w.heap.size, 0, none⟩) 7 7) ∧ w' = w.alloc (.cells (strsV kindsL).toArray 9) := by
  go_enter Tryz.func42, Tryz.ntmps42
  go_wp2
  go_ret
  exact ⟨rfl, congrArg (fun c => w.alloc (.cells c 9)) (by kernel_rfl)⟩

set_option maxRecDepth 100000 in
theorem rlErrs_any (w : World) : Calls Tryz.prog 44 #[] w fun q w' => q = .returned (.slice (some ⟨w.heap.size, 0, none⟩) 21 21) ∧ w' = w.alloc (.cells (strsV errsL).toArray 9) := by
  go_enter Tryz.func44, Tryz.ntmps44
  go_wp2
  go_ret
  exact ⟨rfl, congrArg (fun c => w.alloc (.cells c 9)) (by kernel_rfl)⟩

set_option maxRecDepth 100000 in
set_option maxHeartbeats 1000000 in
theorem rlNameK_any (g N : Nat) (ns : List (List Int)) (n : Int) (w : World) (hN : ns.length = N) (hs : N ≤ 100) (hb : Blk w g 9 (strsV ns)) :
    Calls Tryz.prog 41 #[.slice (some ⟨g, 0, none⟩) N N, .int .i64 n] w fun q w' => q = .returned (.string (strOfNums (nameL ns n))) ∧ w' = w := by
  have hcell : ∀ j, j < N → w.cell? ⟨g, j, none⟩ = some (.string (strOfNums (ns.getD j []))) := fun j hj => strsV_cell hb j (by omega)
  have hcH := Lib.hid hcell
  have hNi : (N : Int) ≤ 100 := by omega
  have hNH := Lib.hid hN
  obtain ⟨R, hR⟩ : ∃ R, strOfNums (nameL ns n) = R := ⟨_, rfl⟩
  have hRH := Lib.hid hR
  rw [hR]
  clear hcell hb hs hN hR
  go_enter Tryz.func41, Tryz.ntmps41
  go_wp2_with fail
  go_loopw [9] (fun i wr => ∃ j : Nat, j ≤ N ∧ i = .int .i64 j ∧ (∀ k : Nat, k < j → (k : Int) ≠ n) ∧ wr = w) (fun i _ => N - (intOf i).toNat)
  case atStart => exact ⟨0, Nat.zero_le _, rfl, fun k hk => absurd hk (Nat.not_lt_zero _), rfl⟩
  case round =>
    obtain ⟨j, hj, rfl, hno, hwr⟩ := hrel
    have hwr' := hwr.symm
    subst hwr'
    by_cases hlt : j < N
    · have hji : (j : Int) < (N : Int) := by omega
      have hc := hcH.out j hlt
      obtain ⟨S, hS⟩ : ∃ S, strOfNums (ns.getD j []) = S := ⟨_, rfl⟩
      rw [hS] at hc
      by_cases hq : (j : Int) = n
      · have hqb : ((j : Int) == n) = true := beq_iff_eq.2 hq
        have e : S = R := by
          rw [← hRH.out]
          unfold nameL
          have := hNH.out
          rw [if_pos (by omega), show n.toNat = j by omega]
          exact hS.symm
        subst e
        clear hq hlt hj hno hS
        go_wp2
        go_ret
        exact ⟨rfl, rfl⟩
      · have hqb : ((j : Int) == n) = false := beq_false_of_ne hq
        have hltH := Lib.hid hlt
        have hnoH := Lib.hid (show ∀ k : Nat, k < j + 1 → (k : Int) ≠ n from fun k hk => by
          by_cases e : k = j
          · subst e; exact hq
          · exact hno k (by omega))
        clear hq hlt hj hno hS
        go_wp2
        exact ⟨⟨j + 1, by have := hltH.out; omega, by congr 1, hnoH.out, by trivial⟩, by simp only [intOf]; have := hltH.out; omega⟩
    · obtain rfl : j = N := by omega
      have hji : ¬ (j : Int) < (j : Int) := by omega
      have e : { data := #[63] } = R := by
        rw [← hRH.out]
        have e : nameL ns n = [63] := by
          unfold nameL
          have := hNH.out
          exact if_neg fun h => hno n.toNat (by omega) (by omega)
        rw [e]
        rfl
      subst e
      clear hlt hj hno
      go_wp2
      go_ret
      exact ⟨rfl, rfl⟩

set_option maxRecDepth 100000 in
set_option maxHeartbeats 1000000 in
theorem rlNameE_any (g N : Nat) (ns : List (List Int)) (n : Int) (w : World) (hN : ns.length = N) (hs : N ≤ 100) (hb : Blk w g 9 (strsV ns)) :
    Calls Tryz.prog 43 #[.slice (some ⟨g, 0, none⟩) N N, .int .i64 n] w fun q w' => q = .returned (.string (strOfNums (nameL ns n))) ∧ w' = w := by
  have hcell : ∀ j, j < N → w.cell? ⟨g, j, none⟩ = some (.string (strOfNums (ns.getD j []))) := fun j hj => strsV_cell hb j (by omega)
  have hcH := Lib.hid hcell
  have hNi : (N : Int) ≤ 100 := by omega
  have hNH := Lib.hid hN
  obtain ⟨R, hR⟩ : ∃ R, strOfNums (nameL ns n) = R := ⟨_, rfl⟩
  have hRH := Lib.hid hR
  rw [hR]
  clear hcell hb hs hN hR
  go_enter Tryz.func43, Tryz.ntmps43
  go_wp2_with fail
  go_loopw [9] (fun i wr => ∃ j : Nat, j ≤ N ∧ i = .int .i64 j ∧ (∀ k : Nat, k < j → (k : Int) ≠ n) ∧ wr = w) (fun i _ => N - (intOf i).toNat)
  case atStart => exact ⟨0, Nat.zero_le _, rfl, fun k hk => absurd hk (Nat.not_lt_zero _), rfl⟩
  case round =>
    obtain ⟨j, hj, rfl, hno, hwr⟩ := hrel
    have hwr' := hwr.symm
    subst hwr'
    by_cases hlt : j < N
    · have hji : (j : Int) < (N : Int) := by omega
      have hc := hcH.out j hlt
      obtain ⟨S, hS⟩ : ∃ S, strOfNums (ns.getD j []) = S := ⟨_, rfl⟩
      rw [hS] at hc
      by_cases hq : (j : Int) = n
      · have hqb : ((j : Int) == n) = true := beq_iff_eq.2 hq
        have e : S = R := by
          rw [← hRH.out]
          unfold nameL
          have := hNH.out
          rw [if_pos (by omega), show n.toNat = j by omega]
          exact hS.symm
        subst e
        clear hq hlt hj hno hS
        go_wp2
        go_ret
        exact ⟨rfl, rfl⟩
      · have hqb : ((j : Int) == n) = false := beq_false_of_ne hq
        have hltH := Lib.hid hlt
        have hnoH := Lib.hid (show ∀ k : Nat, k < j + 1 → (k : Int) ≠ n from fun k hk => by
          by_cases e : k = j
          · subst e; exact hq
          · exact hno k (by omega))
        clear hq hlt hj hno hS
        go_wp2
        exact ⟨⟨j + 1, by have := hltH.out; omega, by congr 1, hnoH.out, by trivial⟩, by simp only [intOf]; have := hltH.out; omega⟩
    · obtain rfl : j = N := by omega
      have hji : ¬ (j : Int) < (j : Int) := by omega
      have e : { data := #[63] } = R := by
        rw [← hRH.out]
        have e : nameL ns n = [63] := by
          unfold nameL
          have := hNH.out
          exact if_neg fun h => hno n.toNat (by omega) (by omega)
        rw [e]
        rfl
      subst e
      clear hlt hj hno
      go_wp2
      go_ret
      exact ⟨rfl, rfl⟩

set_option maxRecDepth 100000 in
set_option maxHeartbeats 1000000 in
theorem rlIndex_any (g N : Nat) (ns : List (List Int)) (s : ByteArray) (w : World) (hN : ns.length = N) (hs : N ≤ 100) (hok : ∀ x ∈ ns, okB x) (hb : Blk w g 9 (strsV ns)) :
    Calls Tryz.prog 67 #[.slice (some ⟨g, 0, none⟩) N N, .string s] w fun q w' => q = .returned (.int .i64 (if (placeL (numsOf s) ns 0).2 = true then (placeL (numsOf s) ns 0).1 else -1)) ∧ w' = w := by
  have hcell : ∀ j, j < N → w.cell? ⟨g, j, none⟩ = some (.string (strOfNums (ns.getD j []))) := fun j hj => strsV_cell hb j (by omega)
  have hcH := Lib.hid hcell
  have hNi : (N : Int) ≤ 100 := by omega
  have hNH := Lib.hid hN
  have hoH := Lib.hid (fun j (hj : j < N) => (hok (ns.getD j []) (by rw [List.getD_eq_getElem?_getD, List.getElem?_eq_getElem (by omega)]; exact List.getElem_mem _)))
  obtain ⟨R, hR⟩ : ∃ R, placeL (numsOf s) ns 0 = R := ⟨_, rfl⟩
  have hRH := Lib.hid hR
  rw [hR]
  obtain ⟨R1, R2⟩ := R
  dsimp only
  clear hcell hb hs hN hok hR
  go_enter Tryz.func67, Tryz.ntmps67
  go_wp2_with fail
  go_loopw [8] (fun i wr => ∃ j : Nat, j ≤ N ∧ i = .int .i64 j ∧ (∀ k : Nat, k < j → ns.getD k [] ≠ numsOf s) ∧ wr = w) (fun i _ => N - (intOf i).toNat)
  case atStart => exact ⟨0, Nat.zero_le _, rfl, fun k hk => absurd hk (Nat.not_lt_zero _), rfl⟩
  case round =>
    obtain ⟨j, hj, rfl, hno, hwr⟩ := hrel
    have hwr' := hwr.symm
    subst hwr'
    by_cases hlt : j < N
    · have hji : (j : Int) < (N : Int) := by omega
      have hc := hcH.out j hlt
      have hq := str_eqB s (hoH.out j hlt)
      by_cases he : ns.getD j [] = numsOf s
      · rw [decide_eq_true he] at hq
        have hph := place_hit (numsOf s) ns 0 j (by have := hNH.out; omega) he hno
        rw [hRH.out, Nat.zero_add] at hph
        have e1 : R1 = (j : Int) := congrArg Prod.fst hph
        have e2 : R2 = true := congrArg Prod.snd hph
        subst e1; subst e2
        obtain ⟨S, hS⟩ : ∃ S, strOfNums (ns.getD j []) = S := ⟨_, rfl⟩
        rw [hS] at hc hq
        clear he hlt hj hno hS hph
        go_wp2
        go_ret
        exact ⟨rfl, rfl⟩
      · rw [decide_eq_false he] at hq
        obtain ⟨S, hS⟩ : ∃ S, strOfNums (ns.getD j []) = S := ⟨_, rfl⟩
        rw [hS] at hc hq
        have hltH := Lib.hid hlt
        have hnoH := Lib.hid (show ∀ k : Nat, k < j + 1 → ns.getD k [] ≠ numsOf s from fun k hk => by
          by_cases e : k = j
          · subst e; exact he
          · exact hno k (by omega))
        clear he hlt hj hno hS
        go_wp2
        exact ⟨⟨j + 1, by have := hltH.out; omega, by congr 1, hnoH.out, by trivial⟩, by simp only [intOf]; have := hltH.out; omega⟩
    · obtain rfl : j = N := by omega
      have hji : ¬ (j : Int) < (j : Int) := by omega
      have hph := place_miss (numsOf s) ns (by rw [hNH.out]; exact hno)
      rw [hRH.out] at hph
      have e1 : R1 = 0 := congrArg Prod.fst hph
      have e2 : R2 = false := congrArg Prod.snd hph
      subst e1; subst e2
      clear hlt hj hno hph
      go_wp2
      go_ret
      exact ⟨rfl, rfl⟩

set_option maxRecDepth 100000 in
set_option maxHeartbeats 1000000 in
theorem rlNumK_any (g N : Nat) (ns : List (List Int)) (s : ByteArray) (w : World) (hN : ns.length = N) (hs : N ≤ 100) (hok : ∀ x ∈ ns, okB x) (hb : Blk w g 9 (strsV ns)) :
    Calls Tryz.prog 55 #[.slice (some ⟨g, 0, none⟩) N N, .string s] w fun q w' => q = .returned (.tuple #[.int .i64 (placeL (numsOf s) ns 0).1, .bool (placeL (numsOf s) ns 0).2]) ∧ w' = w := by
  have ci := rlIndex_any g N ns s w hN hs hok hb
  have hpg := place_ge (numsOf s) ns
  obtain ⟨R, hR⟩ : ∃ R, placeL (numsOf s) ns 0 = R := ⟨_, rfl⟩
  rw [hR] at ci hpg ⊢
  obtain ⟨p, f⟩ := R
  dsimp only at ci hpg ⊢
  obtain ⟨hp0, hpf⟩ := hpg
  clear hb hs hN hok hR
  cases f with
  | true =>
    rw [if_pos rfl] at ci
    have hp1 : ¬ p < 0 := by omega
    clear hpf
    go_enter Tryz.func55, Tryz.ntmps55
    go_wp2_with fail
    refine ci.mono ?_
    rintro q w1 ⟨rfl, rfl⟩
    go_wp2
    go_ret2
    exact ⟨rfl, rfl⟩
  | false =>
    rw [if_neg (by decide)] at ci
    obtain rfl := hpf rfl
    clear hpf
    go_enter Tryz.func55, Tryz.ntmps55
    go_wp2_with fail
    refine ci.mono ?_
    rintro q w1 ⟨rfl, rfl⟩
    go_wp2
    go_ret2
    exact ⟨rfl, rfl⟩

set_option maxRecDepth 100000 in
set_option maxHeartbeats 1000000 in
theorem rlNumE_any (g N : Nat) (ns : List (List Int)) (s : ByteArray) (w : World) (hN : ns.length = N) (hs : N ≤ 100) (hok : ∀ x ∈ ns, okB x) (hb : Blk w g 9 (strsV ns)) :
    Calls Tryz.prog 56 #[.slice (some ⟨g, 0, none⟩) N N, .string s] w fun q w' => q = .returned (.tuple #[.int .i64 (placeL (numsOf s) ns 0).1, .bool (placeL (numsOf s) ns 0).2]) ∧ w' = w := by
  have ci := rlIndex_any g N ns s w hN hs hok hb
  have hpg := place_ge (numsOf s) ns
  obtain ⟨R, hR⟩ : ∃ R, placeL (numsOf s) ns 0 = R := ⟨_, rfl⟩
  rw [hR] at ci hpg ⊢
  obtain ⟨p, f⟩ := R
  dsimp only at ci hpg ⊢
  obtain ⟨hp0, hpf⟩ := hpg
  clear hb hs hN hok hR
  cases f with
  | true =>
    rw [if_pos rfl] at ci
    have hp1 : ¬ p < 0 := by omega
    clear hpf
    go_enter Tryz.func56, Tryz.ntmps56
    go_wp2_with fail
    refine ci.mono ?_
    rintro q w1 ⟨rfl, rfl⟩
    go_wp2
    go_ret2
    exact ⟨rfl, rfl⟩
  | false =>
    rw [if_neg (by decide)] at ci
    obtain rfl := hpf rfl
    clear hpf
    go_enter Tryz.func56, Tryz.ntmps56
    go_wp2_with fail
    refine ci.mono ?_
    rintro q w1 ⟨rfl, rfl⟩
    go_wp2
    go_ret2
    exact ⟨rfl, rfl⟩

set_option maxRecDepth 100000 in
set_option maxHeartbeats 1000000 in
theorem rlKindName_any (n : Int) (w : World) : Calls Tryz.prog 19 #[.int .i64 n] w fun q w' => q = .returned (.string (strOfNums (nameL kindsL n))) ∧ Below w.heap.size w w' := by
  have c1 := rlKinds_any w
  have hB := below1 w (.cells (strsV kindsL).toArray 9)
  have c2 := rlNameK_any w.heap.size 7 kindsL n (w.alloc (.cells (strsV kindsL).toArray 9)) rfl (by decide) (Blk.new w _ _)
  obtain ⟨V, hV⟩ : ∃ V, w.alloc (.cells (strsV kindsL).toArray 9) = V := ⟨_, rfl⟩
  obtain ⟨S, hS⟩ : ∃ S, strOfNums (nameL kindsL n) = S := ⟨_, rfl⟩
  rw [hV] at c1 c2 hB
  rw [hS] at c2 ⊢
  clear hV hS
  go_enter Tryz.func19, Tryz.ntmps19
  go_wp2_with fail
  refine c1.mono ?_
  rintro q w1 ⟨rfl, rfl⟩
  go_wp2_with fail
  refine c2.mono ?_
  rintro q w2 ⟨rfl, rfl⟩
  go_wp2
  go_ret
  exact ⟨rfl, hB⟩

set_option maxRecDepth 100000 in
set_option maxHeartbeats 1000000 in
theorem rlErrName_any (n : Int) (w : World) : Calls Tryz.prog 20 #[.int .i64 n] w fun q w' => q = .returned (.string (strOfNums (nameL errsL n))) ∧ Below w.heap.size w w' := by
  have c1 := rlErrs_any w
  have hB := below1 w (.cells (strsV errsL).toArray 9)
  have c2 := rlNameE_any w.heap.size 21 errsL n (w.alloc (.cells (strsV errsL).toArray 9)) rfl (by decide) (Blk.new w _ _)
  obtain ⟨V, hV⟩ : ∃ V, w.alloc (.cells (strsV errsL).toArray 9) = V := ⟨_, rfl⟩
  obtain ⟨S, hS⟩ : ∃ S, strOfNums (nameL errsL n) = S := ⟨_, rfl⟩
  rw [hV] at c1 c2 hB
  rw [hS] at c2 ⊢
  clear hV hS
  go_enter Tryz.func20, Tryz.ntmps20
  go_wp2_with fail
  refine c1.mono ?_
  rintro q w1 ⟨rfl, rfl⟩
  go_wp2_with fail
  refine c2.mono ?_
  rintro q w2 ⟨rfl, rfl⟩
  go_wp2
  go_ret
  exact ⟨rfl, hB⟩

set_option maxRecDepth 100000 in
set_option maxHeartbeats 1000000 in
theorem rlKindOf_any (s : ByteArray) (w : World) : Calls Tryz.prog 33 #[.string s] w fun q w' => q = .returned (.tuple #[.int .i64 (placeL (numsOf s) kindsL 0).1, .bool (placeL (numsOf s) kindsL 0).2]) ∧ Below w.heap.size w w' := by
  have c1 := rlKinds_any w
  have hB := below1 w (.cells (strsV kindsL).toArray 9)
  have c2 := rlNumK_any w.heap.size 7 kindsL s (w.alloc (.cells (strsV kindsL).toArray 9)) rfl (by decide) kinds_b (Blk.new w _ _)
  obtain ⟨V, hV⟩ : ∃ V, w.alloc (.cells (strsV kindsL).toArray 9) = V := ⟨_, rfl⟩
  obtain ⟨R, hR⟩ : ∃ R, placeL (numsOf s) kindsL 0 = R := ⟨_, rfl⟩
  rw [hV] at c1 c2 hB
  rw [hR] at c2 ⊢
  obtain ⟨p, f⟩ := R
  dsimp only at c2 ⊢
  clear hV hR
  go_enter Tryz.func33, Tryz.ntmps33
  go_wp2_with fail
  refine c1.mono ?_
  rintro q w1 ⟨rfl, rfl⟩
  go_wp2_with fail
  refine c2.mono ?_
  rintro q w2 ⟨rfl, rfl⟩
  go_wp2
  go_ret2
  exact ⟨rfl, hB⟩

set_option maxRecDepth 100000 in
set_option maxHeartbeats 1000000 in
theorem rlErrOf_any (s : ByteArray) (w : World) : Calls Tryz.prog 34 #[.string s] w fun q w' => q = .returned (.tuple #[.int .i64 (placeL (numsOf s) errsL 0).1, .bool (placeL (numsOf s) errsL 0).2]) ∧ Below w.heap.size w w' := by
  have c1 := rlErrs_any w
  have hB := below1 w (.cells (strsV errsL).toArray 9)
  have c2 := rlNumE_any w.heap.size 21 errsL s (w.alloc (.cells (strsV errsL).toArray 9)) rfl (by decide) errs_b (Blk.new w _ _)
  obtain ⟨V, hV⟩ : ∃ V, w.alloc (.cells (strsV errsL).toArray 9) = V := ⟨_, rfl⟩
  obtain ⟨R, hR⟩ : ∃ R, placeL (numsOf s) errsL 0 = R := ⟨_, rfl⟩
  rw [hV] at c1 c2 hB
  rw [hR] at c2 ⊢
  obtain ⟨p, f⟩ := R
  dsimp only at c2 ⊢
  clear hV hR
  go_enter Tryz.func34, Tryz.ntmps34
  go_wp2_with fail
  refine c1.mono ?_
  rintro q w1 ⟨rfl, rfl⟩
  go_wp2_with fail
  refine c2.mono ?_
  rintro q w2 ⟨rfl, rfl⟩
  go_wp2
  go_ret2
  exact ⟨rfl, hB⟩
end Go.Proofs.YtbiabjehdmddbaaGreatDoor

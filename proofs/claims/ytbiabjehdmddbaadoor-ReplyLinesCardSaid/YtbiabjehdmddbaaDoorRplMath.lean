/-
  Replies (layer 15) as data: names, which replies may be, their bytes and lines, what is read of bytes and of a line. No Go function is spoken of.
-/
import Derived.Test.YtbiabjehdmddbaaDoorHexNum
import Derived.Test.YtbiabjehdmddbaaDoorPayMath
namespace Go.Proofs.YtbiabjehdmddbaaDoor

structure RplV where
  kind : Int
  err : Int
  ses : Int
  seq : Int
  quo : Int
  usd : Int
  exp : Int
def noRpl : RplV := ⟨0, 0, 0, 0, 0, 0, 0⟩
def numsR (r : RplV) : List Int := [r.ses, r.seq, r.quo, r.usd, r.exp]
/-- The fields' ranges. -/
def RplOk (r : RplV) : Prop := ∀ x ∈ numsR r, 0 ≤ x ∧ x < 4294967296
def RplRight (r : RplV) : Prop := (0 ≤ r.kind ∧ r.kind < 7) ∧ (0 ≤ r.err ∧ r.err < 21) ∧ (r.err = 0 ∨ (r.ses = 0 ∧ r.seq = 0 ∧ r.quo = 0 ∧ r.usd = 0 ∧ r.exp = 0))
instance (r : RplV) : Decidable (RplRight r) := by unfold RplRight; infer_instance
def rightR (r : RplV) : Bool := decide (RplRight r)
theorem rightR_iff (r : RplV) : rightR r = true ↔ RplRight r := decide_eq_true_iff
theorem rightR_no {r : RplV} (h : rightR r = false) : ¬ RplRight r := of_decide_eq_false h

def kindsL : List (List Int) := [[110, 111, 110, 101], [111, 112, 101, 110], [117, 112, 108, 111, 97, 100], [97, 115, 107], [99, 108, 111, 115, 101], [99, 111, 110, 110, 101, 99, 116], [100, 105, 115, 99, 111, 110, 110, 101, 99, 116]]
def errsL : List (List Int) := [[111, 107], [97, 114, 103], [115, 104, 111, 114, 116], [108, 111, 110, 103], [102, 111, 114, 109], [110, 111, 110, 101], [116, 119, 105, 99, 101], [110, 105, 108], [115, 101, 97, 108], [115, 117, 109], [115, 116, 97, 116, 101], [104, 97, 108, 116, 101, 100], [115, 101, 115, 115, 105, 111, 110], [101, 120, 112, 105, 114, 101, 100], [115, 101, 113], [113, 117, 111, 116, 97], [109, 97, 110, 121], [100, 105, 115, 107], [100, 111, 119, 110], [112, 97, 114, 101, 110, 116], [100, 101, 101, 112]]
/-- The name in a number's place; ?, if there is none. -/
def nameL (ns : List (List Int)) (n : Int) : List Int := if 0 ≤ n ∧ n < (ns.length : Int) then ns.getD n.toNat [] else [63]
/-- The place of a name, or that it has none. -/
def placeL (s : List Int) : List (List Int) → Nat → Int × Bool
  | [], _ => (0, false)
  | x :: r, i => if x = s then ((i : Int), true) else placeL s r (i + 1)
theorem placeL_spec (s : List Int) : ∀ (ns : List (List Int)) (i : Nat), (placeL s ns i = (0, false) ∧ ∀ x ∈ ns, x ≠ s) ∨ ∃ j, j < ns.length ∧ placeL s ns i = (((i + j : Nat) : Int), true) ∧ ns.getD j [] = s
  | [], i => .inl ⟨rfl, by simp⟩
  | x :: r, i => by
    rw [placeL]
    by_cases h : x = s
    · rw [if_pos h]
      exact .inr ⟨0, by simp, rfl, h⟩
    · rw [if_neg h]
      rcases placeL_spec s r (i + 1) with ⟨h1, h2⟩ | ⟨j, h1, h2, h3⟩
      · exact .inl ⟨h1, fun y hy => (List.mem_cons.1 hy).elim (fun e => e ▸ h) (h2 y)⟩
      · exact .inr ⟨j + 1, by simp; omega, by rw [h2, show i + 1 + j = i + (j + 1) by omega], h3⟩

theorem kinds_place : ∀ k : Fin 7, placeL (kindsL.getD k.1 []) kindsL 0 = ((k.1 : Int), true) := by decide +kernel
theorem errs_place : ∀ k : Fin 21, placeL (errsL.getD k.1 []) errsL 0 = ((k.1 : Int), true) := by decide +kernel
theorem kinds_q : placeL [63] kindsL 0 = (0, false) := by decide +kernel
theorem errs_q : placeL [63] errsL 0 = (0, false) := by decide +kernel
theorem kinds_ok : ∀ x ∈ kindsL, (∀ c ∈ x, 97 ≤ c ∧ c ≤ 122) ∧ x ≠ [63] ∧ x.length ≤ 10 := by decide +kernel
theorem errs_ok : ∀ x ∈ errsL, (∀ c ∈ x, 97 ≤ c ∧ c ≤ 122) ∧ x ≠ [63] ∧ x.length ≤ 10 := by decide +kernel
theorem kind_in {k : Int} (h : 0 ≤ k ∧ k < 7) : nameL kindsL k = kindsL.getD k.toNat [] ∧ nameL kindsL k ∈ kindsL ∧ placeL (nameL kindsL k) kindsL 0 = (k, true) := by
  have e : nameL kindsL k = kindsL.getD k.toNat [] := if_pos h
  have hl : k.toNat < kindsL.length := by show k.toNat < 7; omega
  refine ⟨e, ?_, ?_⟩
  · rw [e, List.getD_eq_getElem?_getD, List.getElem?_eq_getElem hl]
    exact List.getElem_mem hl
  · have := kinds_place ⟨k.toNat, hl⟩
    rw [e, this]
    show ((k.toNat : Int), true) = _
    rw [show (k.toNat : Int) = k by omega]
theorem err_in {k : Int} (h : 0 ≤ k ∧ k < 21) : nameL errsL k = errsL.getD k.toNat [] ∧ nameL errsL k ∈ errsL ∧ placeL (nameL errsL k) errsL 0 = (k, true) := by
  have e : nameL errsL k = errsL.getD k.toNat [] := if_pos h
  have hl : k.toNat < errsL.length := by show k.toNat < 21; omega
  refine ⟨e, ?_, ?_⟩
  · rw [e, List.getD_eq_getElem?_getD, List.getElem?_eq_getElem hl]
    exact List.getElem_mem hl
  · have := errs_place ⟨k.toNat, hl⟩
    rw [e, this]
    show ((k.toNat : Int), true) = _
    rw [show (k.toNat : Int) = k by omega]
theorem kind_out {k : Int} (h : ¬ (0 ≤ k ∧ k < 7)) : nameL kindsL k = [63] := if_neg h
theorem err_out {k : Int} (h : ¬ (0 ≤ k ∧ k < 21)) : nameL errsL k = [63] := if_neg h
theorem kind_q (k : Int) : nameL kindsL k = [63] ↔ ¬ (0 ≤ k ∧ k < 7) := by
  constructor
  · intro e h
    have := kind_in h
    exact (kinds_ok _ this.2.1).2.1 e
  · exact kind_out
theorem err_q (k : Int) : nameL errsL k = [63] ↔ ¬ (0 ≤ k ∧ k < 21) := by
  constructor
  · intro e h
    have := err_in h
    exact (errs_ok _ this.2.1).2.1 e
  · exact err_out
theorem nameL_ok (ns : List (List Int)) (h : ∀ x ∈ ns, ∀ c ∈ x, (0 : Int) ≤ c ∧ c < 256) (k : Int) : okB (nameL ns k) := by
  unfold nameL
  split
  · rename_i hk
    have hl : k.toNat < ns.length := by omega
    rw [List.getD_eq_getElem?_getD, List.getElem?_eq_getElem hl]
    exact h _ (List.getElem_mem hl)
  · intro c hc
    rw [List.mem_singleton.1 hc]
    decide
theorem kinds_b : ∀ x ∈ kindsL, ∀ c ∈ x, (0 : Int) ≤ c ∧ c < 256 := fun x hx c hc => by have := (kinds_ok x hx).1 c hc; omega
theorem errs_b : ∀ x ∈ errsL, ∀ c ∈ x, (0 : Int) ≤ c ∧ c < 256 := fun x hx c hc => by have := (errs_ok x hx).1 c hc; omega

/-! ### Bytes -/
def bytesR (r : RplV) : List Int := r.kind :: r.err :: (beL r.ses 4 ++ (beL r.seq 4 ++ (beL r.quo 4 ++ (beL r.usd 4 ++ beL r.exp 4))))
theorem bytesR_len (r : RplV) : (bytesR r).length = 22 := by
  unfold bytesR
  simp only [List.length_cons, List.length_append, beL_len]
/-- What the bytes from a place on tell. -/
def numAt (xs : List Int) (p : Nat) : Int := be ((xs.drop p).take 4)
def rplOf (xs : List Int) : RplV := ⟨xs.getD 0 0, xs.getD 1 0, numAt xs 2, numAt xs 6, numAt xs 10, numAt xs 14, numAt xs 18⟩
def decR (xs : List Int) : RplV × Int := if xs.length < 22 then (noRpl, 2) else if 22 < xs.length then (noRpl, 3) else if rightR (rplOf xs) = true then (rplOf xs, 0) else (noRpl, 4)
theorem be_lim (l : List Int) (h : ∀ x ∈ l, 0 ≤ x ∧ x < 256) (hl : l.length ≤ 4) : 0 ≤ be l ∧ be l < 4294967296 := by
  have h1 := be_fold l 0 h (Int.le_refl 0)
  unfold be
  refine ⟨h1.1, ?_⟩
  have h2 := h1.2
  have h3 : (256 : Int) ^ l.length ≤ 256 ^ 4 := by
    have := Nat.pow_le_pow_right (n := 256) (by decide) hl
    have e : ∀ n : Nat, ((256 ^ n : Nat) : Int) = (256 : Int) ^ n := fun n => by rw [Int.natCast_pow]; rfl
    rw [← e, ← e]
    omega
  have h4 : (256 : Int) ^ 4 = 4294967296 := by decide
  rw [h4] at h3
  have h5 : (0 + 1) * (256 : Int) ^ l.length = 256 ^ l.length := by rw [Int.zero_add, Int.one_mul]
  omega
theorem numAt_range {xs : List Int} (h : ∀ x ∈ xs, 0 ≤ x ∧ x < 256) (p : Nat) : 0 ≤ numAt xs p ∧ numAt xs p < 4294967296 :=
  be_lim _ (fun x hx => h x (List.mem_of_mem_drop (List.mem_of_mem_take hx))) (by rw [List.length_take]; omega)
theorem rplOf_ok {xs : List Int} (h : ∀ x ∈ xs, 0 ≤ x ∧ x < 256) : RplOk (rplOf xs) := by
  intro x hx
  simp only [rplOf, numsR, List.mem_cons, List.mem_nil_iff, or_false] at hx
  rcases hx with rfl | rfl | rfl | rfl | rfl <;> exact numAt_range h _
theorem beL_be4 {l : List Int} (h : ∀ x ∈ l, 0 ≤ x ∧ x < 256) (hl : l.length = 4) : beL (be l) 4 = l := by
  match l, hl with
  | [a, b, c, d], _ =>
    have ha := h a (by simp)
    have hb := h b (by simp)
    have hc := h c (by simp)
    have hd := h d (by simp)
    have e : be [a, b, c, d] = ((a * 256 + b) * 256 + c) * 256 + d := by unfold be; simp; omega
    rw [e]
    show [] ++ [_] ++ [_] ++ [_] ++ [_] = _
    simp only [List.nil_append, List.cons_append]
    congr 1
    · omega
    congr 1
    · omega
    congr 1
    · omega
    congr 1
    omega
theorem cut5 (xs : List Int) (h : xs.length = 22) : xs = xs.getD 0 0 :: xs.getD 1 0 :: ((xs.drop 2).take 4 ++ ((xs.drop 6).take 4 ++ ((xs.drop 10).take 4 ++ ((xs.drop 14).take 4 ++ (xs.drop 18).take 4)))) := by
  match xs, h with
  | [_, _, _, _, _, _, _, _, _, _, _, _, _, _, _, _, _, _, _, _, _, _], _ => rfl
/-- Twenty-two bytes are those of what they tell. -/
theorem bytesR_rplOf {xs : List Int} (h : ∀ x ∈ xs, 0 ≤ x ∧ x < 256) (hl : xs.length = 22) : bytesR (rplOf xs) = xs := by
  have hb : ∀ p, p ≤ 18 → beL (numAt xs p) 4 = (xs.drop p).take 4 := fun p hp => beL_be4 (fun x hx => h x (List.mem_of_mem_drop (List.mem_of_mem_take hx))) (by rw [List.length_take, List.length_drop]; omega)
  show xs.getD 0 0 :: xs.getD 1 0 :: (beL (numAt xs 2) 4 ++ (beL (numAt xs 6) 4 ++ (beL (numAt xs 10) 4 ++ (beL (numAt xs 14) 4 ++ beL (numAt xs 18) 4)))) = xs
  rw [hb 2 (by decide), hb 6 (by decide), hb 10 (by decide), hb 14 (by decide), hb 18 (by decide)]
  exact (cut5 xs hl).symm
theorem rplOf_bytesR {r : RplV} (h : RplOk r) : rplOf (bytesR r) = r := by
  obtain ⟨k, e, a, b, c, d, x⟩ := r
  have hh : ∀ y, y ∈ [a, b, c, d, x] → be (beL y 4) = y := fun y hy => be_beL 4 y (h y hy).1 (by have := (h y hy).2; show y < 256 ^ 4; simpa using this)
  have tk : ∀ (l X : List Int), l.length = 4 → (l ++ X).take 4 = l := fun l X hl => by rw [List.take_append_of_le_length (by omega), List.take_of_length_le (by omega)]
  have dp : ∀ (l X : List Int), l.length = 4 → (l ++ X).drop 4 = X := fun l X hl => by rw [List.drop_append, hl, List.drop_eq_nil_of_le (by omega)]; rfl
  have L := fun y => beL_len y 4
  have d2 : ∀ X : List Int, (k :: e :: X).drop 2 = X := fun X => rfl
  unfold rplOf numAt bytesR
  dsimp only
  rw [show (6 : Nat) = 2 + 4 from rfl, show (10 : Nat) = 2 + 4 + 4 from rfl, show (14 : Nat) = 2 + 4 + 4 + 4 from rfl, show (18 : Nat) = 2 + 4 + 4 + 4 + 4 from rfl]
  simp only [← List.drop_drop, d2]
  rw [dp _ _ (L a), dp _ _ (L b), dp _ _ (L c), dp _ _ (L d), tk _ _ (L a), tk _ _ (L b), tk _ _ (L c), tk _ _ (L d), List.take_of_length_le (by rw [L x]; exact Nat.le_refl _)]
  rw [hh a (by simp), hh b (by simp), hh c (by simp), hh d (by simp), hh x (by simp)]
  rfl
/-- What was encoded is decoded. -/
theorem decR_bytesR {r : RplV} (h : RplOk r) (hr : RplRight r) : decR (bytesR r) = (r, 0) := by
  unfold decR
  rw [bytesR_len, if_neg (by decide), if_neg (by decide), rplOf_bytesR h, if_pos ((rightR_iff r).2 hr)]
/-- What is decoded, encoded again, is those bytes. -/
theorem bytesR_decR {xs : List Int} {r : RplV} (h : ∀ x ∈ xs, 0 ≤ x ∧ x < 256) (hd : decR xs = (r, 0)) : RplRight r ∧ RplOk r ∧ bytesR r = xs := by
  unfold decR at hd
  split at hd
  · cases hd
  split at hd
  · cases hd
  split at hd
  · rename_i h1 h2 h3
    injection hd with hd _
    subst hd
    exact ⟨(rightR_iff _).1 h3, rplOf_ok h, bytesR_rplOf h (by omega)⟩
  · cases hd
theorem decR_bad {xs : List Int} (h : (decR xs).2 ≠ 0) : (decR xs).1 = noRpl := by
  unfold decR at h ⊢
  split
  · rfl
  split
  · rfl
  split
  · rename_i h1 h2 h3
    rw [if_neg h1, if_neg h2, if_pos h3] at h
    exact absurd rfl h
  · rfl
end Go.Proofs.YtbiabjehdmddbaaDoor

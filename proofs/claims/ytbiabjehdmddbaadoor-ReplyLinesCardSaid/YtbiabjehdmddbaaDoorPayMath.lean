/-
  Payloads (layer 13) as lists: a tier is a fee and bytes; a payload's bytes, and what is read of bytes. No Go function is spoken of.
-/
import Derived.Test.YtbiabjehdmddbaaDoorRdNumber
namespace Go.Proofs.YtbiabjehdmddbaaDoor

abbrev Tier := Int × List Int
structure TierOk (t : Tier) : Prop where
  fee : 0 ≤ t.1 ∧ t.1 < 4294967296
  len : 1 ≤ t.2.length ∧ t.2.length ≤ 64
  ok : ∀ x ∈ t.2, 0 ≤ x ∧ x < 256
/-- Each tier may be, each fee is greater than the one ahead (the first one's than f). -/
def Rises (f : Int) : List Tier → Prop
  | [] => True
  | t :: r => TierOk t ∧ f < t.1 ∧ Rises t.1 r
def tierB (t : Tier) : List Int := beL t.1 4 ++ ((t.2.length : Int) :: t.2)
def flatB : List Tier → List Int
  | [] => []
  | t :: r => tierB t ++ flatB r
def payB (ts : List Tier) : List Int := (ts.length : Int) :: flatB ts
def RightL (ts : List Tier) : Prop := Rises (-1) ts ∧ 1 ≤ ts.length ∧ ts.length ≤ 8
def consR (t : Tier) (p : List Tier × Int) : List Tier × Int := if p.2 = 0 then (t :: p.1, 0) else ([], p.2)
/-- What is read of bytes: so many tiers, each fee greater than f. -/
def decT : Nat → Int → List Int → List Tier × Int
  | 0, _, b => if b = [] then ([], 0) else ([], 3)
  | k + 1, f, b =>
    if b.length < 4 then ([], 2)
    else if be (b.take 4) ≤ f then ([], 4)
    else if b.length < 5 then ([], 2)
    else if b.getD 4 0 < 1 ∨ 64 < b.getD 4 0 then ([], 4)
    else if b.length < 5 + (b.getD 4 0).toNat then ([], 2)
    else consR (be (b.take 4), (b.drop 5).take (b.getD 4 0).toNat) (decT k (be (b.take 4)) (b.drop (5 + (b.getD 4 0).toNat)))
def decP (b : List Int) : List Tier × Int :=
  if b = [] then ([], 2) else if b.getD 0 0 < 1 ∨ 8 < b.getD 0 0 then ([], 4) else decT (b.getD 0 0).toNat (-1) (b.drop 1)

theorem tierB_len (t : Tier) : (tierB t).length = 5 + t.2.length := by simp [tierB, beL_len]; omega
theorem tierB_range {t : Tier} (h : TierOk t) : ∀ x ∈ tierB t, 0 ≤ x ∧ x < 256 := by
  intro x hx
  rcases List.mem_append.1 hx with hx | hx
  · exact beL_range 4 t.1 x hx
  · rcases List.mem_cons.1 hx with rfl | hx
    · have := h.len; omega
    · exact h.ok x hx
theorem flatB_range : ∀ (ts : List Tier) (f : Int), Rises f ts → ∀ x ∈ flatB ts, 0 ≤ x ∧ x < 256
  | [], _, _, x, hx => by cases hx
  | t :: r, f, h, x, hx => by
    rcases List.mem_append.1 hx with hx | hx
    · exact tierB_range h.1 x hx
    · exact flatB_range r t.1 h.2.2 x hx
theorem flatB_len : ∀ (ts : List Tier) (f : Int), Rises f ts → (flatB ts).length ≤ 69 * ts.length
  | [], _, _ => Nat.zero_le _
  | t :: r, f, h => by
    have h1 := flatB_len r t.1 h.2.2
    have h2 := h.1.len
    rw [flatB, List.length_append, tierB_len, List.length_cons]
    omega
theorem flatB_append (a b : List Tier) : flatB (a ++ b) = flatB a ++ flatB b := by
  induction a with
  | nil => rfl
  | cons t r ih => show tierB t ++ flatB (r ++ b) = (tierB t ++ flatB r) ++ flatB b; rw [ih, List.append_assoc]
theorem payB_range {ts : List Tier} (h : RightL ts) : ∀ x ∈ payB ts, 0 ≤ x ∧ x < 256 := by
  intro x hx
  rcases List.mem_cons.1 hx with rfl | hx
  · have := h.2; omega
  · exact flatB_range ts (-1) h.1 x hx
theorem payB_len {ts : List Tier} (h : RightL ts) : (payB ts).length ≤ 553 := by
  have h1 := flatB_len ts (-1) h.1
  have h2 := h.2
  show (flatB ts).length + 1 ≤ 553
  omega

/-- A tier's bytes, and more behind: the tier, and the rest. -/
theorem decT_tier {t : Tier} (h : TierOk t) {f : Int} (hf : f < t.1) (k : Nat) (r : List Int) : decT (k + 1) f (tierB t ++ r) = consR t (decT k t.1 r) := by
  have h4 : (beL t.1 4).length = 4 := beL_len _ _
  have hl := h.len
  have e4 : (tierB t ++ r).take 4 = beL t.1 4 := by
    unfold tierB
    rw [List.append_assoc, List.take_append_of_le_length (by omega), List.take_of_length_le (by omega)]
  have e5 : be (beL t.1 4) = t.1 := be_beL 4 t.1 h.fee.1 (by have := h.fee.2; omega)
  have e6 : (tierB t ++ r).getD 4 0 = (t.2.length : Int) := by
    unfold tierB
    rw [List.append_assoc, List.getD_eq_getElem?_getD, List.getElem?_append_right (by omega), h4]
    rfl
  have hb : (tierB t ++ r).length = 5 + t.2.length + r.length := by rw [List.length_append, tierB_len]
  have e7 : (tierB t ++ r).drop 5 = t.2 ++ r := by
    unfold tierB
    rw [List.append_assoc, List.drop_append, h4, List.drop_eq_nil_of_le (by omega)]
    rfl
  have e8 : (tierB t ++ r).drop (5 + t.2.length) = r := by
    rw [← List.drop_drop, e7, List.drop_append, List.drop_eq_nil_of_le (Nat.le_refl _), Nat.sub_self]
    rfl
  rw [decT, e4, e5, e6, Int.toNat_natCast, e7, e8, hb, if_neg (by omega), if_neg (by omega), if_neg (by omega), if_neg (by omega), if_neg (by omega), List.take_append_of_le_length (Nat.le_refl _), List.take_of_length_le (Nat.le_refl _)]
def lastF : Int → List Tier → Int
  | f, [] => f
  | _, t :: r => lastF t.1 r
theorem decT_flat : ∀ (ts : List Tier) (f : Int) (k : Nat) (r : List Int), Rises f ts → decT (ts.length + k) f (flatB ts ++ r) = ts.foldr consR (decT k (lastF f ts) r)
  | [], f, k, r, _ => by rw [List.length_nil, Nat.zero_add]; rfl
  | t :: ts, f, k, r, h => by
    show decT (ts.length + 1 + k) f ((tierB t ++ flatB ts) ++ r) = consR t (ts.foldr consR _)
    rw [List.append_assoc, show ts.length + 1 + k = (ts.length + k) + 1 by omega, decT_tier h.1 h.2.1, decT_flat ts t.1 k r h.2.2]
    rfl
theorem foldr_ok (ts : List Tier) : ts.foldr consR ([], 0) = (ts, 0) := by
  induction ts with
  | nil => rfl
  | cons t r ih => rw [List.foldr_cons, ih]; rfl
theorem foldr_bad (ts : List Tier) {e : Int} (h : e ≠ 0) : ts.foldr consR ([], e) = ([], e) := by
  induction ts with
  | nil => rfl
  | cons t r ih => rw [List.foldr_cons, ih]; exact if_neg h
theorem decP_pay {ts : List Tier} (h : 1 ≤ ts.length ∧ ts.length ≤ 8) (r : List Int) : decP ((ts.length : Int) :: r) = decT ts.length (-1) r := by
  unfold decP
  rw [if_neg (by simp), if_neg (by show ¬ ((ts.length : Int) < 1 ∨ 8 < (ts.length : Int)); omega)]
  rfl
/-- What was encoded is decoded. -/
theorem decP_payB {ts : List Tier} (h : RightL ts) : decP (payB ts) = (ts, 0) := by
  unfold payB
  rw [decP_pay h.2]
  have h1 := decT_flat ts (-1) 0 [] h.1
  rw [Nat.add_zero, List.append_nil] at h1
  rw [h1]
  exact foldr_ok ts
/-- A byte behind is too many. -/
theorem decP_more {ts : List Tier} (h : RightL ts) (x : Int) : decP (payB ts ++ [x]) = ([], 3) := by
  unfold payB
  rw [List.cons_append, decP_pay h.2]
  have h1 := decT_flat ts (-1) 0 [x] h.1
  rw [Nat.add_zero] at h1
  rw [h1]
  exact foldr_bad ts (by decide)
theorem Rises.append : ∀ (a b : List Tier) (f : Int), Rises f (a ++ b) → Rises f a ∧ Rises (lastF f a) b
  | [], _, _, h => ⟨trivial, h⟩
  | t :: r, b, f, h => by
    have h1 := Rises.append r b t.1 h.2.2
    exact ⟨⟨h.1, h.2.1, h1.1⟩, h1.2⟩
/-- A byte less is too few. -/
theorem decP_less {ts : List Tier} (h : RightL ts) : decP ((payB ts).dropLast) = ([], 2) := by
  have h0 : ts ≠ [] := fun e => by have := h.2.1; rw [e] at this; simp at this
  obtain ⟨a, t, rfl⟩ : ∃ a t, ts = a ++ [t] := ⟨ts.dropLast, ts.getLast h0, (List.dropLast_concat_getLast h0).symm⟩
  obtain ⟨ha, hb⟩ := Rises.append a [t] (-1) h.1
  have ht := hb.1
  have hf := hb.2.1
  have hl := ht.len
  have e1 : tierB t = (tierB t).dropLast ++ [(tierB t).getLast (by intro e; have := tierB_len t; rw [e] at this; simp at this; omega)] := (List.dropLast_concat_getLast _).symm
  have hd : flatB (a ++ [t]) = (flatB a ++ (tierB t).dropLast) ++ [(tierB t).getLast (by intro e; have := tierB_len t; rw [e] at this; simp at this; omega)] := by
    rw [flatB_append, List.append_assoc, ← e1]
    show flatB a ++ (tierB t ++ []) = _
    rw [List.append_nil]
  have hp : (payB (a ++ [t])).dropLast = ((a ++ [t]).length : Int) :: (flatB a ++ (tierB t).dropLast) := by
    unfold payB
    rw [hd, ← List.cons_append, List.dropLast_concat]
  rw [hp, decP_pay h.2]
  have h1 := decT_flat a (-1) 1 (tierB t).dropLast ha
  rw [show (a ++ [t]).length = a.length + 1 by simp, h1]
  have hdl : (tierB t).dropLast.length = 4 + t.2.length := by rw [List.length_dropLast, tierB_len]; omega
  have e4 : (tierB t).dropLast = (tierB t).take (4 + t.2.length) := by rw [List.dropLast_eq_take, tierB_len]; congr 1; omega
  have h4 : (beL t.1 4).length = 4 := beL_len _ _
  have e5 : (tierB t).dropLast.take 4 = beL t.1 4 := by
    rw [e4, List.take_take, Nat.min_eq_left (by omega)]
    unfold tierB
    rw [List.take_append_of_le_length (by omega), List.take_of_length_le (by omega)]
  have e6 : (tierB t).dropLast.getD 4 0 = (t.2.length : Int) := by
    rw [e4, List.getD_eq_getElem?_getD, List.getElem?_take_of_lt (by omega)]
    unfold tierB
    rw [List.getElem?_append_right (by omega), h4]
    rfl
  have e7 : be (beL t.1 4) = t.1 := be_beL 4 t.1 ht.fee.1 (by have := ht.fee.2; omega)
  have e8 : decT 1 (lastF (-1) a) (tierB t).dropLast = ([], 2) := by
    rw [decT, e5, e6, e7, hdl, Int.toNat_natCast, if_neg (by omega), if_neg (by omega), if_neg (by omega), if_neg (by omega), if_pos (by omega)]
  rw [e8]
  exact foldr_bad a (by decide)
theorem consR_ok {t : Tier} {p : List Tier × Int} {ts : List Tier} (h : consR t p = (ts, 0)) : ∃ r, p = (r, 0) ∧ ts = t :: r := by
  unfold consR at h
  by_cases h0 : p.2 = 0
  · rw [if_pos h0] at h
    injection h with h _
    exact ⟨p.1, by rw [← h0], h.symm⟩
  · rw [if_neg h0] at h
    injection h with _ h
    exact absurd h h0
theorem beL_be (l : List Int) (h : ∀ x ∈ l, 0 ≤ x ∧ x < 256) : beL (be l) l.length = l := by
  obtain ⟨n, hn⟩ : ∃ n, l.length = n := ⟨_, rfl⟩
  induction n generalizing l with
  | zero => rw [List.length_eq_zero_iff.1 hn]; rfl
  | succ n ih =>
    have h0 : l ≠ [] := fun e => by rw [e] at hn; simp at hn
    obtain ⟨r, x, rfl⟩ : ∃ r x, l = r ++ [x] := ⟨l.dropLast, l.getLast h0, (List.dropLast_concat_getLast h0).symm⟩
    have hx := h x (by simp)
    rw [List.length_append, be_snoc]
    show beL ((256 * be r + x) / 256) r.length ++ [(256 * be r + x) % 256] = _
    rw [show (256 * be r + x) / 256 = be r by omega, show (256 * be r + x) % 256 = x by omega, ih r (fun y hy => h y (by simp [hy])) (by simp at hn; omega)]
/-- What is decoded may be, and its bytes are those. -/
theorem decT_ok : ∀ (k : Nat) (f : Int) (b : List Int) (ts : List Tier), (∀ x ∈ b, 0 ≤ x ∧ x < 256) → decT k f b = (ts, 0) → flatB ts = b ∧ Rises f ts ∧ ts.length = k
  | 0, f, b, ts, _, h => by
    unfold decT at h
    by_cases h0 : b = []
    · rw [if_pos h0] at h
      injection h with h _
      rw [← h, h0]
      exact ⟨rfl, trivial, rfl⟩
    · rw [if_neg h0] at h; cases h
  | k + 1, f, b, ts, hr, h => by
    unfold decT at h
    by_cases h1 : b.length < 4
    · rw [if_pos h1] at h; cases h
    rw [if_neg h1] at h
    by_cases h2 : be (b.take 4) ≤ f
    · rw [if_pos h2] at h; cases h
    rw [if_neg h2] at h
    by_cases h3 : b.length < 5
    · rw [if_pos h3] at h; cases h
    rw [if_neg h3] at h
    by_cases h4 : b.getD 4 0 < 1 ∨ 64 < b.getD 4 0
    · rw [if_pos h4] at h; cases h
    rw [if_neg h4] at h
    by_cases h5 : b.length < 5 + (b.getD 4 0).toNat
    · rw [if_pos h5] at h; cases h
    rw [if_neg h5] at h
    obtain ⟨r, hp, rfl⟩ := consR_ok h
    obtain ⟨i1, i2, i3⟩ := decT_ok k _ _ r (fun x hx => hr x (List.mem_of_mem_drop hx)) hp
    obtain ⟨N, hN⟩ : ∃ N : Nat, b.getD 4 0 = (N : Int) := ⟨(b.getD 4 0).toNat, by omega⟩
    rw [hN, Int.toNat_natCast] at h5 i1 ⊢
    rw [hN] at h4
    have hl : ((b.drop 5).take N).length = N := by rw [List.length_take, List.length_drop]; omega
    have h4r : ∀ x ∈ b.take 4, 0 ≤ x ∧ x < 256 := fun x hx => hr x (List.mem_of_mem_take hx)
    have hbl : (b.take 4).length = 4 := by rw [List.length_take]; omega
    have hb4 := beL_be (b.take 4) h4r
    rw [hbl] at hb4
    have hbe := be_fold (b.take 4) 0 h4r (Int.le_refl 0)
    rw [hbl] at hbe
    have hb0 : 0 ≤ be (b.take 4) := hbe.1
    have hb1 : be (b.take 4) < 4294967296 := by have := hbe.2; unfold be; omega
    refine ⟨?_, ⟨⟨⟨hb0, hb1⟩, by rw [hl]; omega, fun x hx => hr x (List.mem_of_mem_drop (List.mem_of_mem_take hx))⟩, by omega, i2⟩, by rw [List.length_cons, i3]⟩
    show tierB (be (b.take 4), (b.drop 5).take N) ++ flatB r = b
    unfold tierB
    dsimp only
    rw [hb4, hl, i1, List.append_assoc, List.cons_append, ← List.drop_drop, List.take_append_drop, ← hN]
    have e : b.drop 4 = b.getD 4 0 :: b.drop 5 := by
      rw [List.drop_eq_getElem_cons (by omega), List.getD_eq_getElem?_getD, List.getElem?_eq_getElem (by omega)]
      rfl
    rw [← e, List.take_append_drop]
theorem decP_ok {b : List Int} {ts : List Tier} (hr : ∀ x ∈ b, 0 ≤ x ∧ x < 256) (h : decP b = (ts, 0)) : payB ts = b ∧ RightL ts := by
  unfold decP at h
  by_cases h0 : b = []
  · rw [if_pos h0] at h; cases h
  rw [if_neg h0] at h
  by_cases h1 : b.getD 0 0 < 1 ∨ 8 < b.getD 0 0
  · rw [if_pos h1] at h; cases h
  rw [if_neg h1] at h
  obtain ⟨i1, i2, i3⟩ := decT_ok _ _ _ ts (fun x hx => hr x (List.mem_of_mem_drop hx)) h
  have e : b = b.getD 0 0 :: b.drop 1 := by
    cases b with
    | nil => exact absurd rfl h0
    | cons x r => rfl
  refine ⟨?_, i2, by omega, by omega⟩
  unfold payB
  rw [i1, show (ts.length : Int) = b.getD 0 0 by omega, ← e]
end Go.Proofs.YtbiabjehdmddbaaDoor

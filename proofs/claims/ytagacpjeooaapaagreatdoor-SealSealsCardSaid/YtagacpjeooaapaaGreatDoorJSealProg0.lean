/-
  Texts of stages that were proved on their own, joined: CipherMath. Each begins with its own words.
-/
import Derived.Test.YtagacpjeooaapaaGreatDoorBoxMath

/-
  The cipher's mathematics on plain numbers: a block's sum, its bytes substituted, its rows turned, its columns mixed; a round and a round undone; what is encrypted is decrypted, and back. Conditions: bytes are numbers below 256, places are below 16 (in a column: below 4).
-/
namespace Go.Proofs.YtagacpjeooaapaaGreatDoor

/-- Two rows of n numbers agree. -/
def Ag (n : Nat) (f g : Nat → Nat) : Prop := ∀ i, i < n → f i = g i
/-- All are bytes. -/
def By (f : Nat → Nat) : Prop := ∀ i, f i < 256
theorem Ag.rfl' {n : Nat} (f : Nat → Nat) : Ag n f f := fun _ _ => rfl
theorem Ag.trans {n : Nat} {f g h : Nat → Nat} (a : Ag n f g) (b : Ag n g h) : Ag n f h := fun i hi => (a i hi).trans (b i hi)
theorem Ag.symm {n : Nat} {f g : Nat → Nat} (a : Ag n f g) : Ag n g f := fun i hi => (a i hi).symm

def bAdd (a b : Nat → Nat) : Nat → Nat := fun i => a i ^^^ b i
def bSb (f b : Nat → Nat) : Nat → Nat := fun i => f (b i)
def tIx (t p : Nat) : Nat := (p / 4 + p % 4 * t) % 4 * 4 + p % 4
def bTurn (t : Nat) (b : Nat → Nat) : Nat → Nat := fun p => b (tIx t p)
/-- A column mixed. -/
def mixc (c : Nat → Nat) : Nat → Nat := fun i => (tm (c i ^^^ c ((i + 1) % 4)) 2 ^^^ c ((i + 1) % 4)) ^^^ (c ((i + 2) % 4) ^^^ c ((i + 3) % 4))
def unmixc (c : Nat → Nat) : Nat → Nat := mixc (mixc (mixc c))
def colOf (b : Nat → Nat) (k : Nat) : Nat → Nat := fun i => b (4 * k + i)
def bCols (m : (Nat → Nat) → Nat → Nat) (b : Nat → Nat) : Nat → Nat := fun p => m (colOf b (p / 4)) (p % 4)

theorem bAdd_by {a b : Nat → Nat} (ha : By a) (hb : By b) : By (bAdd a b) := fun i => xor_256 (ha i) (hb i)
theorem bSb_by {f b : Nat → Nat} (hf : By f) : By (bSb f b) := fun _ => hf _
theorem bTurn_by {t : Nat} {b : Nat → Nat} (h : By b) : By (bTurn t b) := fun _ => h _
theorem mixc_by {c : Nat → Nat} (h : By c) : By (mixc c) := fun _ =>
  xor_256 (xor_256 (tm_256 2 (xor_256 (h _) (h _))) (h _)) (xor_256 (h _) (h _))
theorem unmixc_by {c : Nat → Nat} (h : By c) : By (unmixc c) := mixc_by (mixc_by (mixc_by h))
theorem bCols_by {m : (Nat → Nat) → Nat → Nat} {b : Nat → Nat} (h : By b) (hm : ∀ c, By c → By (m c)) : By (bCols m b) := fun p => hm _ (fun _ => h _) (p % 4)

theorem tIx_lt (t p : Nat) : tIx t p < 16 := by unfold tIx; omega
theorem tIx_four : ∀ p < 16, tIx 1 (tIx 3 p) = p := by decide
theorem tIx_four' : ∀ p < 16, tIx 3 (tIx 1 p) = p := by decide

/-! A column mixed four times is itself. -/
theorem two_two : ∀ a < 256, tm (tm a 2) 2 = tm a 4 := by decide +kernel
theorem four_four : ∀ a < 256, tm (tm a 4) 4 = tm a 16 := by decide +kernel
theorem sixteen : ∀ a < 256, tm a 16 = tm (tm a 4) 4 := by decide +kernel
theorem lin (a b c : Nat) : tm (a ^^^ b) c = tm a c ^^^ tm b c := tm_left a b c

/-- The square of mixing: place i is 5 times the one there and 4 times the one two further. -/
theorem mix_two (a b c d : Nat) (ha : a < 256) (hb : b < 256) (hc : c < 256) :
    (tm (((tm (a ^^^ b) 2 ^^^ b) ^^^ (c ^^^ d)) ^^^ ((tm (b ^^^ c) 2 ^^^ c) ^^^ (d ^^^ a))) 2 ^^^ ((tm (b ^^^ c) 2 ^^^ c) ^^^ (d ^^^ a))) ^^^ (((tm (c ^^^ d) 2 ^^^ d) ^^^ (a ^^^ b)) ^^^ ((tm (d ^^^ a) 2 ^^^ a) ^^^ (b ^^^ c)))
      = (tm a 4 ^^^ a) ^^^ tm c 4 := by
  simp only [lin, two_two a ha, two_two b hb, two_two c hc]
  generalize tm a 4 = a4
  generalize tm b 4 = b4
  generalize tm c 4 = c4
  generalize tm d 4 = d4
  generalize tm a 2 = a2
  generalize tm b 2 = b2
  generalize tm c 2 = c2
  generalize tm d 2 = d2
  apply Nat.eq_of_testBit_eq
  intro k
  simp only [Nat.testBit_xor]
  generalize a4.testBit k = x1
  generalize b4.testBit k = x2
  generalize c4.testBit k = x3
  generalize d4.testBit k = x4
  generalize a2.testBit k = x5
  generalize b2.testBit k = x6
  generalize c2.testBit k = x7
  generalize d2.testBit k = x8
  generalize a.testBit k = x9
  generalize b.testBit k = x10
  generalize c.testBit k = x11
  generalize d.testBit k = x12
  revert x1 x2 x3 x4 x5 x6 x7 x8 x9 x10 x11 x12
  decide +kernel
theorem mix_four (a c : Nat) :
    (tm ((tm a 4 ^^^ a) ^^^ tm c 4) 4 ^^^ ((tm a 4 ^^^ a) ^^^ tm c 4)) ^^^ tm ((tm c 4 ^^^ c) ^^^ tm a 4) 4 = a := by
  simp only [lin]
  generalize tm (tm a 4) 4 = a16
  generalize tm (tm c 4) 4 = c16
  generalize tm a 4 = a4
  generalize tm c 4 = c4
  apply Nat.eq_of_testBit_eq
  intro k
  simp only [Nat.testBit_xor]
  generalize a4.testBit k = x1
  generalize c4.testBit k = x3
  generalize a16.testBit k = x5
  generalize c16.testBit k = x7
  generalize a.testBit k = x9
  generalize c.testBit k = x11
  revert x1 x3 x5 x7 x9 x11
  decide +kernel
def mix2 (c : Nat → Nat) : Nat → Nat := fun i => (tm (c i) 4 ^^^ c i) ^^^ tm (c ((i + 2) % 4)) 4
theorem mix_mix (c : Nat → Nat) (h : By c) : Ag 4 (mixc (mixc c)) (mix2 c) := by
  intro i hi
  have h0 := mix_two (c 0) (c 1) (c 2) (c 3) (h 0) (h 1) (h 2)
  have h1 := mix_two (c 1) (c 2) (c 3) (c 0) (h 1) (h 2) (h 3)
  have h2 := mix_two (c 2) (c 3) (c 0) (c 1) (h 2) (h 3) (h 0)
  have h3 := mix_two (c 3) (c 0) (c 1) (c 2) (h 3) (h 0) (h 1)
  obtain rfl | rfl | rfl | rfl : i = 0 ∨ i = 1 ∨ i = 2 ∨ i = 3 := by omega
  · exact h0
  · exact h1
  · exact h2
  · exact h3
theorem mixc_ag {c d : Nat → Nat} (h : Ag 4 c d) : Ag 4 (mixc c) (mixc d) := by
  intro i hi
  unfold mixc
  rw [h i hi, h ((i + 1) % 4) (by omega), h ((i + 2) % 4) (by omega), h ((i + 3) % 4) (by omega)]
theorem unmixc_ag {c d : Nat → Nat} (h : Ag 4 c d) : Ag 4 (unmixc c) (unmixc d) := mixc_ag (mixc_ag (mixc_ag h))
theorem mix4 (c : Nat → Nat) (h : By c) : Ag 4 (mixc (mixc (mixc (mixc c)))) c := by
  refine (mixc_ag (mixc_ag (mix_mix c h))).trans ?_
  have hb : By (mix2 c) := fun i => xor_256 (xor_256 (tm_256 4 (h _)) (h _)) (tm_256 4 (h _))
  refine (mix_mix _ hb).trans ?_
  intro i hi
  have e : (i + 2) % 4 < 4 := by omega
  have e2 : ((i + 2) % 4 + 2) % 4 = i := by omega
  show (tm ((tm (c i) 4 ^^^ c i) ^^^ tm (c ((i + 2) % 4)) 4) 4 ^^^ ((tm (c i) 4 ^^^ c i) ^^^ tm (c ((i + 2) % 4)) 4)) ^^^ tm ((tm (c ((i + 2) % 4)) 4 ^^^ c ((i + 2) % 4)) ^^^ tm (c (((i + 2) % 4 + 2) % 4)) 4) 4 = c i
  rw [e2]
  exact mix_four _ _
theorem unmix_mix (c : Nat → Nat) (h : By c) : Ag 4 (unmixc (mixc c)) c := mix4 c h
theorem mix_unmix (c : Nat → Nat) (h : By c) : Ag 4 (mixc (unmixc c)) c := mix4 c h
theorem mix_add (a b : Nat → Nat) (i : Nat) : mixc (bAdd a b) i = mixc a i ^^^ mixc b i := by
  unfold mixc bAdd
  simp only [lin]
  generalize tm (a i) 2 = y1
  generalize tm (b i) 2 = y2
  generalize tm (a ((i + 1) % 4)) 2 = y3
  generalize tm (b ((i + 1) % 4)) 2 = y4
  generalize a ((i + 1) % 4) = y5
  generalize b ((i + 1) % 4) = y6
  generalize a ((i + 2) % 4) = y7
  generalize b ((i + 2) % 4) = y8
  generalize a ((i + 3) % 4) = y9
  generalize b ((i + 3) % 4) = y0
  ac_rfl
/-- The document's own words for a column mixed. -/
theorem mix_ref (c : Nat → Nat) (h : By c) (i : Nat) : ((tm 2 (c i) ^^^ tm 3 (c ((i + 1) % 4))) ^^^ c ((i + 2) % 4)) ^^^ c ((i + 3) % 4) = mixc c i := by
  have e3 : tm 3 (c ((i + 1) % 4)) = tm (c ((i + 1) % 4)) 2 ^^^ c ((i + 1) % 4) := by
    rw [show (3 : Nat) = 2 ^^^ 1 from rfl, tm_left, one_tm _ (h _), tm_comm 2 _ (by decide) (h _)]
  rw [e3, tm_comm 2 _ (by decide) (h _)]
  unfold mixc
  rw [lin]
  ac_rfl

/-! Rounds. -/
theorem bAdd_ag {a b k : Nat → Nat} (h : Ag 16 a b) : Ag 16 (bAdd a k) (bAdd b k) := fun i hi => by unfold bAdd; rw [h i hi]
theorem bSb_ag {f a b : Nat → Nat} (h : Ag 16 a b) : Ag 16 (bSb f a) (bSb f b) := fun i hi => by unfold bSb; rw [h i hi]
theorem bTurn_ag {t : Nat} {a b : Nat → Nat} (h : Ag 16 a b) : Ag 16 (bTurn t a) (bTurn t b) := fun i _ => h _ (tIx_lt t i)
theorem bCols_ag {m : (Nat → Nat) → Nat → Nat} (hm : ∀ c d, Ag 4 c d → Ag 4 (m c) (m d)) {a b : Nat → Nat} (h : Ag 16 a b) : Ag 16 (bCols m a) (bCols m b) := by
  intro p hp
  exact hm _ _ (fun i hi => h _ (by omega)) (p % 4) (Nat.mod_lt _ (by decide))
theorem cols_back {m n : (Nat → Nat) → Nat → Nat} (hn : ∀ c d, Ag 4 c d → Ag 4 (n c) (n d)) (h : ∀ c, By c → Ag 4 (n (m c)) c) (b : Nat → Nat) (hb : By b) : Ag 16 (bCols n (bCols m b)) b := by
  intro p hp
  have h1 : Ag 4 (colOf (bCols m b) (p / 4)) (m (colOf b (p / 4))) := by
    intro i hi
    show m (colOf b ((4 * (p / 4) + i) / 4)) ((4 * (p / 4) + i) % 4) = _
    rw [show (4 * (p / 4) + i) / 4 = p / 4 by omega, show (4 * (p / 4) + i) % 4 = i by omega]
  have h2 := hn _ _ h1 (p % 4) (Nat.mod_lt _ (by decide))
  have h3 := h (colOf b (p / 4)) (fun _ => hb _) (p % 4) (Nat.mod_lt _ (by decide))
  refine (h2.trans h3).trans ?_
  show b (4 * (p / 4) + p % 4) = b p
  rw [show 4 * (p / 4) + p % 4 = p by omega]

/-- The middle of a round: rows turned, columns mixed but in the last one. -/
def mid (r : Nat) (b : Nat → Nat) : Nat → Nat := if r < 14 then bCols mixc b else b
def dim (r : Nat) (b : Nat → Nat) : Nat → Nat := if r < 14 then bCols unmixc b else b
theorem mid_by {r : Nat} {b : Nat → Nat} (h : By b) : By (mid r b) := by
  unfold mid; split
  · exact bCols_by h (fun c => mixc_by)
  · exact h
theorem dim_by {r : Nat} {b : Nat → Nat} (h : By b) : By (dim r b) := by
  unfold dim; split
  · exact bCols_by h (fun c => unmixc_by)
  · exact h
theorem mid_ag {r : Nat} {a b : Nat → Nat} (h : Ag 16 a b) : Ag 16 (mid r a) (mid r b) := by
  unfold mid; split
  · exact bCols_ag (fun _ _ => mixc_ag) h
  · exact h
theorem dim_ag {r : Nat} {a b : Nat → Nat} (h : Ag 16 a b) : Ag 16 (dim r a) (dim r b) := by
  unfold dim; split
  · exact bCols_ag (fun _ _ => unmixc_ag) h
  · exact h
theorem dim_mid (r : Nat) (b : Nat → Nat) (h : By b) : Ag 16 (dim r (mid r b)) b := by
  unfold dim mid
  by_cases hr : r < 14
  · rw [if_pos hr, if_pos hr]; exact cols_back (fun _ _ => unmixc_ag) unmix_mix b h
  · rw [if_neg hr, if_neg hr]; exact Ag.rfl' b
theorem mid_dim (r : Nat) (b : Nat → Nat) (h : By b) : Ag 16 (mid r (dim r b)) b := by
  unfold dim mid
  by_cases hr : r < 14
  · rw [if_pos hr, if_pos hr]; exact cols_back (fun _ _ => mixc_ag) mix_unmix b h
  · rw [if_neg hr, if_neg hr]; exact Ag.rfl' b

def crnd (K : Nat → Nat → Nat) (r : Nat) (b : Nat → Nat) : Nat → Nat := bAdd (mid r (bTurn 1 (bSb sb b))) (K r)
def und (K : Nat → Nat → Nat) (r : Nat) (b : Nat → Nat) : Nat → Nat := bSb bk (bTurn 3 (dim r (bAdd b (K r))))
theorem rnd_by {K : Nat → Nat → Nat} (hK : ∀ r, By (K r)) (r : Nat) (b : Nat → Nat) : By (crnd K r b) := bAdd_by (mid_by (bTurn_by (bSb_by sb_256))) (hK r)
theorem und_by (K : Nat → Nat → Nat) (r : Nat) (b : Nat → Nat) : By (und K r b) := bSb_by bk_256
theorem rnd_ag {K : Nat → Nat → Nat} {r : Nat} {a b : Nat → Nat} (h : Ag 16 a b) : Ag 16 (crnd K r a) (crnd K r b) := bAdd_ag (mid_ag (bTurn_ag (bSb_ag h)))
theorem und_ag {K : Nat → Nat → Nat} {r : Nat} {a b : Nat → Nat} (h : Ag 16 a b) : Ag 16 (und K r a) (und K r b) := bSb_ag (bTurn_ag (dim_ag (bAdd_ag h)))
theorem add_add (a k : Nat → Nat) : bAdd (bAdd a k) k = a := by
  funext i; unfold bAdd; rw [Nat.xor_assoc, Nat.xor_self, Nat.xor_zero]
theorem und_rnd (K : Nat → Nat → Nat) (r : Nat) (b : Nat → Nat) (hb : By b) : Ag 16 (und K r (crnd K r b)) b := by
  unfold und crnd
  rw [add_add]
  refine (bSb_ag (bTurn_ag (dim_mid r _ (bTurn_by (bSb_by sb_256))))).trans ?_
  intro p hp
  show bk (sb (b (tIx 1 (tIx 3 p)))) = b p
  rw [tIx_four p hp, bk_sb _ (hb p)]
theorem rnd_und (K : Nat → Nat → Nat) (hK : ∀ r, By (K r)) (r : Nat) (b : Nat → Nat) (hb : By b) : Ag 16 (crnd K r (und K r b)) b := by
  unfold und crnd
  have h1 : Ag 16 (bTurn 1 (bSb sb (bSb bk (bTurn 3 (dim r (bAdd b (K r))))))) (dim r (bAdd b (K r))) := by
    intro p hp
    show sb (bk (dim r (bAdd b (K r)) (tIx 3 (tIx 1 p)))) = _
    rw [tIx_four' p hp, sb_bk _ (dim_by (bAdd_by hb (hK r)) p)]
  refine (bAdd_ag ((mid_ag h1).trans (mid_dim r _ (bAdd_by hb (hK r))))).trans ?_
  rw [add_add]
  exact Ag.rfl' b

/-- Encrypted up to round r. -/
def encs (K : Nat → Nat → Nat) (b : Nat → Nat) : Nat → Nat → Nat
  | 0 => bAdd b (K 0)
  | r + 1 => crnd K (r + 1) (encs K b r)
/-- Decrypted, j rounds of it, the last one first. -/
def decs (K : Nat → Nat → Nat) (b : Nat → Nat) : Nat → Nat → Nat
  | 0 => b
  | j + 1 => und K (14 - j) (decs K b j)
def enc (K : Nat → Nat → Nat) (b : Nat → Nat) : Nat → Nat := encs K b 14
def dec (K : Nat → Nat → Nat) (b : Nat → Nat) : Nat → Nat := bAdd (decs K b 14) (K 0)
theorem encs_by {K : Nat → Nat → Nat} (hK : ∀ r, By (K r)) {b : Nat → Nat} (hb : By b) (r : Nat) : By (encs K b r) := by
  cases r with
  | zero => exact bAdd_by hb (hK 0)
  | succ r => exact rnd_by hK (r + 1) _
theorem decs_by {K : Nat → Nat → Nat} {b : Nat → Nat} (hb : By b) (j : Nat) : By (decs K b j) := by
  cases j with
  | zero => exact hb
  | succ j => exact und_by K _ _
theorem enc_by {K : Nat → Nat → Nat} (hK : ∀ r, By (K r)) {b : Nat → Nat} (hb : By b) : By (enc K b) := encs_by hK hb 14
theorem dec_by {K : Nat → Nat → Nat} (hK : ∀ r, By (K r)) {b : Nat → Nat} (hb : By b) : By (dec K b) := bAdd_by (decs_by hb 14) (hK 0)
theorem decs_encs (K : Nat → Nat → Nat) (hK : ∀ r, By (K r)) (b : Nat → Nat) (hb : By b) : ∀ j, j ≤ 14 → Ag 16 (decs K (encs K b 14) j) (encs K b (14 - j)) := by
  intro j
  induction j with
  | zero => intro _; exact Ag.rfl' _
  | succ j ih =>
    intro hj
    show Ag 16 (und K (14 - j) (decs K (encs K b 14) j)) _
    refine (und_ag (ih (by omega))).trans ?_
    obtain ⟨m, hm⟩ : ∃ m, 14 - j = m + 1 := ⟨13 - j, by omega⟩
    rw [hm, show 14 - (j + 1) = m by omega]
    exact und_rnd K (m + 1) _ (encs_by hK hb m)
theorem dec_enc (K : Nat → Nat → Nat) (hK : ∀ r, By (K r)) (b : Nat → Nat) (hb : By b) : Ag 16 (dec K (enc K b)) b := by
  refine (bAdd_ag (decs_encs K hK b hb 14 (by omega))).trans ?_
  show Ag 16 (bAdd (bAdd b (K 0)) (K 0)) b
  rw [add_add]; exact Ag.rfl' b
theorem encs_ag {K : Nat → Nat → Nat} {a b : Nat → Nat} (h : Ag 16 a b) : ∀ r, Ag 16 (encs K a r) (encs K b r) := by
  intro r
  induction r with
  | zero => exact bAdd_ag h
  | succ r ih => exact rnd_ag ih
theorem decs_ag {K : Nat → Nat → Nat} {a b : Nat → Nat} (h : Ag 16 a b) : ∀ r, Ag 16 (decs K a r) (decs K b r) := by
  intro r
  induction r with
  | zero => exact h
  | succ r ih => exact und_ag ih
theorem encs_decs (K : Nat → Nat → Nat) (hK : ∀ r, By (K r)) (b : Nat → Nat) (hb : By b) : ∀ r, r ≤ 14 → Ag 16 (encs K (dec K b) r) (decs K b (14 - r)) := by
  intro r
  induction r with
  | zero => intro _; show Ag 16 (bAdd (bAdd (decs K b 14) (K 0)) (K 0)) _; rw [add_add]; exact Ag.rfl' _
  | succ r ih =>
    intro hr
    show Ag 16 (crnd K (r + 1) (encs K (dec K b) r)) _
    refine (rnd_ag (ih (by omega))).trans ?_
    obtain ⟨m, hm⟩ : ∃ m, 14 - r = m + 1 := ⟨13 - r, by omega⟩
    rw [hm, show 14 - (r + 1) = m by omega]
    show Ag 16 (crnd K (r + 1) (und K (14 - m) (decs K b m))) _
    rw [show 14 - m = r + 1 by omega]
    exact rnd_und K hK (r + 1) _ (decs_by hb m)
theorem enc_dec (K : Nat → Nat → Nat) (hK : ∀ r, By (K r)) (b : Nat → Nat) (hb : By b) : Ag 16 (enc K (dec K b)) b := encs_decs K hK b hb 14 (by omega)
end Go.Proofs.YtagacpjeooaapaaGreatDoor

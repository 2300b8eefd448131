/-
  Texts of stages that were proved on their own, joined: RdNumber, PayMath, MsgMath. Each begins with its own words.
-/
import Derived.Test.YtinmmhbiomcdoaaGreatDoorJVaLawN0
import Derived.Test.YtinmmhbiomcdoaaGreatDoorJVaLawN2

/-
  The document's own bytes of a number (layer 9). New memory alone is written. Conditions: a width from 0 to 8; the number is below 2^64.
-/
namespace Go.Proofs.YtinmmhbiomcdoaaGreatDoor
open Go.RowKit

/-- The lowest k bytes of a number, the highest first. -/
def beL (n : Int) : Nat → List Int
  | 0 => []
  | k + 1 => beL (n / 256) k ++ [n % 256]
theorem beL_len (n : Int) : ∀ k, (beL n k).length = k
  | 0 => rfl
  | k + 1 => by rw [beL, List.length_append, beL_len (n / 256) k]; rfl
theorem beL_range : ∀ (k : Nat) (n : Int), ∀ x ∈ beL n k, 0 ≤ x ∧ x < 256
  | 0, n, x, h => by simp [beL] at h
  | k + 1, n, x, h => by
    rw [beL, List.mem_append] at h
    rcases h with h | h
    · exact beL_range k _ x h
    · have := List.mem_singleton.1 h; omega
theorem be_beL : ∀ (k : Nat) (n : Int), 0 ≤ n → n < 256 ^ k → be (beL n k) = n
  | 0, n, h0, h1 => by
    have h2 : n = 0 := by simp at h1; omega
    rw [h2]; rfl
  | k + 1, n, h0, h1 => by
    rw [beL, be_snoc, be_beL k (n / 256) (by omega) (by rw [Int.pow_succ] at h1; omega)]
    omega
/-- Byte by byte from the top: the first j bytes of the k. -/
theorem beL_take : ∀ (k : Nat) (n : Int) (j : Nat), j < k → (beL n k).take (j + 1) = (beL n k).take j ++ [n / 256 ^ (k - 1 - j) % 256] := by
  intro k
  induction k with
  | zero => intro n j h; omega
  | succ k ih =>
    intro n j h
    rw [beL]
    by_cases hj : j < k
    · have e1 : (beL (n / 256) k ++ [n % 256]).take (j + 1) = (beL (n / 256) k).take (j + 1) := List.take_append_of_le_length (by rw [beL_len]; omega)
      have e2 : (beL (n / 256) k ++ [n % 256]).take j = (beL (n / 256) k).take j := List.take_append_of_le_length (by rw [beL_len]; omega)
      rw [e1, e2, ih (n / 256) j hj]
      congr 2
      rw [Int.ediv_ediv_of_nonneg (by decide), Int.mul_comm, ← Int.pow_succ, show (k - 1 - j).succ = k + 1 - 1 - j by omega]
    · obtain rfl : j = k := by omega
      rw [List.take_of_length_le (by simp [beL_len]), List.take_append_of_le_length (by rw [beL_len]; exact Nat.le_refl _), List.take_of_length_le (by rw [beL_len]; exact Nat.le_refl _)]
      congr 2
      rw [show j + 1 - 1 - j = 0 by omega]
      simp

set_option maxRecDepth 100000 in
set_option maxHeartbeats 1000000 in
theorem rNumber_any (n : Int) (k : Nat) (w : World) (hk : k ≤ 8) :
    Calls Tryz.prog 24 #[.int .u64 n, .int .i64 (k : Int)] w fun r w' => ∃ b c, r = .returned (.slice b k c) ∧ w'.ownsRow w.heap.size 5 1 (.slice b k c) k ((beL n k).map (Value.int .u8)) ∧ Below w.heap.size w w' := by
  obtain ⟨i0, hi, hz0, hz1, hz2⟩ := info_u8b
  have hk0 : wrap64 ((k : Int) - 1) = (k : Int) - 1 := by unfold wrap64; omega
  go_enter Tryz.func24, Tryz.ntmps24
  go_wp2
  go_loopw [5, 6] (fun v i wr => ∃ j : Nat, j ≤ k ∧ i = .int .i64 ((k : Int) - 1 - j) ∧ wr.ownsRow w.heap.size 5 1 v j (((beL n k).take j).map (Value.int .u8)) ∧ Below w.heap.size w wr) (fun _ i _ => (intOf i + 1).toNat)
  case atStart => exact ⟨0, Nat.zero_le _, by simp, World.ownsRow_nil _ _ _ _, Below.refl _ _⟩
  case round =>
    clear hk0
    obtain ⟨j, hj, rfl, hown, hb⟩ := hrel
    by_cases hlt : j < k
    · obtain ⟨I, hI⟩ : ∃ I : Int, (k : Int) - 1 - j = I := ⟨_, rfl⟩
      have hI0 : 0 ≤ I := by omega
      have hI8 : I ≤ 7 := by omega
      rw [hI]
      have hp : ∀ m : Nat, m ≤ 7 → (2 : Int) ^ (8 * m) = 256 ^ m := by decide
      have hx : n / 2 ^ (8 * I).toNat % 256 = n / 256 ^ (k - 1 - j) % 256 := by
        rw [show (8 * I).toNat = 8 * (k - 1 - j) by omega, hp _ (by omega)]
      obtain ⟨x, hxe⟩ : ∃ x, n / 2 ^ (8 * I).toNat % 256 = x := ⟨_, rfl⟩
      have hstep := beL_take k n j hlt
      rw [← hx, hxe] at hstep
      have hstepH := Lib.hid hstep
      have hIH := Lib.hid hI
      clear hI hp hx hstep
      go_wp2_with (at_builtin; refine wpList_append_own _ rfl _ _ 34 rfl w.heap.size 5 i0 (.int .u8 0) 1 1 Tryz.underlying34 hi hz0 hz1 hz2 rfl (by decide) _ _ _ rfl (hown.alloc _) ⟨wr.heap.size, 0, none⟩ 1 1 ([x].map (Value.int .u8)) rfl rfl ?c1 ?c2 ?c3 ?c4 ?c5 ?_)
      case c1 =>
        intro t u ht
        rcases t with _ | t
        · obtain rfl : u = .int .u8 x := by simpa using ht.symm
          exact World.cell?_alloc_at (w := wr) #[.int .u8 x] 5 wr.heap.size 0 rfl
        · simp at ht
      case c2 => simp [Value.oneCell']
      case c3 => unfold maxLen; omega
      case c4 => omega
      case c5 => have := hb.size; simp; omega
      intro v' w1 hown' hgrow _
      have hown1 : w1.ownsRow w.heap.size 5 1 v' (j + 1) (((beL n k).take (j + 1)).map (Value.int .u8)) := by
        rw [hstepH.out, List.map_append, List.map_take]; exact hown'
      have hb1 : Below w.heap.size w w1 := (hb.alloc hb.size _).grown hgrow (by have := hb.size; simp; omega) (fun j hj => (hown.lt j hj).1)
      clear hown' hgrow hown
      go_wp2
      refine ⟨⟨j + 1, by omega, ?_, hown1, hb1⟩, ?_⟩
      · have := hIH.out
        rw [← this]
        congr 1
        omega
      · simp only [intOf]
        omega
    · have hn : (k : Int) - 1 - j < 0 := by omega
      obtain rfl : j = k := by omega
      rw [List.take_of_length_le (by rw [beL_len]; exact Nat.le_refl _)] at hown
      go_wp2
      go_ret
      obtain ⟨b, c, hv⟩ := own_slice hown
      subst hv
      exact ⟨b, c, rfl, hown, hb⟩
end Go.Proofs.YtinmmhbiomcdoaaGreatDoor

/-
  Payloads (layer 13) as lists: a tier is a fee and bytes; a payload's bytes, and what is read of bytes. No Go function is spoken of.
-/
namespace Go.Proofs.YtinmmhbiomcdoaaGreatDoor

abbrev Tier := Int × List Int
structure TierOk (t : Tier) : Prop where
  fee : 0 ≤ t.1 ∧ t.1 < 4294967296
  len : 1 ≤ t.2.length ∧ t.2.length ≤ 64
  ok : ∀ x ∈ t.2, 0 ≤ x ∧ x < 256
/-- Each tier may be, each fee is greater than the one ahead (the first one's than f). -/
def Rises (f : Int) : List Tier → Prop
  | [] => True
  | t :: r => TierOk t ∧ f < t.1 ∧ Rises t.1 r
def tierB (t : Tier) : List Int := beL t.1 4 ++ ((t.2.length : Int) :: t.2)
def flatB : List Tier → List Int
  | [] => []
  | t :: r => tierB t ++ flatB r
def payB (ts : List Tier) : List Int := (ts.length : Int) :: flatB ts
def RightL (ts : List Tier) : Prop := Rises (-1) ts ∧ 1 ≤ ts.length ∧ ts.length ≤ 8
def consR (t : Tier) (p : List Tier × Int) : List Tier × Int := if p.2 = 0 then (t :: p.1, 0) else ([], p.2)
/-- What is read of bytes: so many tiers, each fee greater than f. -/
def decT : Nat → Int → List Int → List Tier × Int
  | 0, _, b => if b = [] then ([], 0) else ([], 3)
  | k + 1, f, b =>
    if b.length < 4 then ([], 2)
    else if be (b.take 4) ≤ f then ([], 4)
    else if b.length < 5 then ([], 2)
    else if b.getD 4 0 < 1 ∨ 64 < b.getD 4 0 then ([], 4)
    else if b.length < 5 + (b.getD 4 0).toNat then ([], 2)
    else consR (be (b.take 4), (b.drop 5).take (b.getD 4 0).toNat) (decT k (be (b.take 4)) (b.drop (5 + (b.getD 4 0).toNat)))
def decP (b : List Int) : List Tier × Int :=
  if b = [] then ([], 2) else if b.getD 0 0 < 1 ∨ 8 < b.getD 0 0 then ([], 4) else decT (b.getD 0 0).toNat (-1) (b.drop 1)

theorem tierB_len (t : Tier) : (tierB t).length = 5 + t.2.length := by simp [tierB, beL_len]; omega
theorem tierB_range {t : Tier} (h : TierOk t) : ∀ x ∈ tierB t, 0 ≤ x ∧ x < 256 := by
  intro x hx
  rcases List.mem_append.1 hx with hx | hx
  · exact beL_range 4 t.1 x hx
  · rcases List.mem_cons.1 hx with rfl | hx
    · have := h.len; omega
    · exact h.ok x hx
theorem flatB_range : ∀ (ts : List Tier) (f : Int), Rises f ts → ∀ x ∈ flatB ts, 0 ≤ x ∧ x < 256
  | [], _, _, x, hx => by cases hx
  | t :: r, f, h, x, hx => by
    rcases List.mem_append.1 hx with hx | hx
    · exact tierB_range h.1 x hx
    · exact flatB_range r t.1 h.2.2 x hx
theorem flatB_len : ∀ (ts : List Tier) (f : Int), Rises f ts → (flatB ts).length ≤ 69 * ts.length
  | [], _, _ => Nat.zero_le _
  | t :: r, f, h => by
    have h1 := flatB_len r t.1 h.2.2
    have h2 := h.1.len
    rw [flatB, List.length_append, tierB_len, List.length_cons]
    omega
theorem flatB_append (a b : List Tier) : flatB (a ++ b) = flatB a ++ flatB b := by
  induction a with
  | nil => rfl
  | cons t r ih => show tierB t ++ flatB (r ++ b) = (tierB t ++ flatB r) ++ flatB b; rw [ih, List.append_assoc]
theorem payB_range {ts : List Tier} (h : RightL ts) : ∀ x ∈ payB ts, 0 ≤ x ∧ x < 256 := by
  intro x hx
  rcases List.mem_cons.1 hx with rfl | hx
  · have := h.2; omega
  · exact flatB_range ts (-1) h.1 x hx
theorem payB_len {ts : List Tier} (h : RightL ts) : (payB ts).length ≤ 553 := by
  have h1 := flatB_len ts (-1) h.1
  have h2 := h.2
  show (flatB ts).length + 1 ≤ 553
  omega

/-- A tier's bytes, and more behind: the tier, and the rest. -/
theorem decT_tier {t : Tier} (h : TierOk t) {f : Int} (hf : f < t.1) (k : Nat) (r : List Int) : decT (k + 1) f (tierB t ++ r) = consR t (decT k t.1 r) := by
  have h4 : (beL t.1 4).length = 4 := beL_len _ _
  have hl := h.len
  have e4 : (tierB t ++ r).take 4 = beL t.1 4 := by
    unfold tierB
    rw [List.append_assoc, List.take_append_of_le_length (by omega), List.take_of_length_le (by omega)]
  have e5 : be (beL t.1 4) = t.1 := be_beL 4 t.1 h.fee.1 (by have := h.fee.2; omega)
  have e6 : (tierB t ++ r).getD 4 0 = (t.2.length : Int) := by
    unfold tierB
    rw [List.append_assoc, List.getD_eq_getElem?_getD, List.getElem?_append_right (by omega), h4]
    rfl
  have hb : (tierB t ++ r).length = 5 + t.2.length + r.length := by rw [List.length_append, tierB_len]
  have e7 : (tierB t ++ r).drop 5 = t.2 ++ r := by
    unfold tierB
    rw [List.append_assoc, List.drop_append, h4, List.drop_eq_nil_of_le (by omega)]
    rfl
  have e8 : (tierB t ++ r).drop (5 + t.2.length) = r := by
    rw [← List.drop_drop, e7, List.drop_append, List.drop_eq_nil_of_le (Nat.le_refl _), Nat.sub_self]
    rfl
  rw [decT, e4, e5, e6, Int.toNat_natCast, e7, e8, hb, if_neg (by omega), if_neg (by omega), if_neg (by omega), if_neg (by omega), if_neg (by omega), List.take_append_of_le_length (Nat.le_refl _), List.take_of_length_le (Nat.le_refl _)]
def lastF : Int → List Tier → Int
  | f, [] => f
  | _, t :: r => lastF t.1 r
theorem decT_flat : ∀ (ts : List Tier) (f : Int) (k : Nat) (r : List Int), Rises f ts → decT (ts.length + k) f (flatB ts ++ r) = ts.foldr consR (decT k (lastF f ts) r)
  | [], f, k, r, _ => by rw [List.length_nil, Nat.zero_add]; rfl
  | t :: ts, f, k, r, h => by
    show decT (ts.length + 1 + k) f ((tierB t ++ flatB ts) ++ r) = consR t (ts.foldr consR _)
    rw [List.append_assoc, show ts.length + 1 + k = (ts.length + k) + 1 by omega, decT_tier h.1 h.2.1, decT_flat ts t.1 k r h.2.2]
    rfl
theorem foldr_ok (ts : List Tier) : ts.foldr consR ([], 0) = (ts, 0) := by
  induction ts with
  | nil => rfl
  | cons t r ih => rw [List.foldr_cons, ih]; rfl
theorem foldr_bad (ts : List Tier) {e : Int} (h : e ≠ 0) : ts.foldr consR ([], e) = ([], e) := by
  induction ts with
  | nil => rfl
  | cons t r ih => rw [List.foldr_cons, ih]; exact if_neg h
theorem decP_pay {ts : List Tier} (h : 1 ≤ ts.length ∧ ts.length ≤ 8) (r : List Int) : decP ((ts.length : Int) :: r) = decT ts.length (-1) r := by
  unfold decP
  rw [if_neg (by simp), if_neg (by show ¬ ((ts.length : Int) < 1 ∨ 8 < (ts.length : Int)); omega)]
  rfl
/-- What was encoded is decoded. -/
theorem decP_payB {ts : List Tier} (h : RightL ts) : decP (payB ts) = (ts, 0) := by
  unfold payB
  rw [decP_pay h.2]
  have h1 := decT_flat ts (-1) 0 [] h.1
  rw [Nat.add_zero, List.append_nil] at h1
  rw [h1]
  exact foldr_ok ts
/-- A byte behind is too many. -/
theorem decP_more {ts : List Tier} (h : RightL ts) (x : Int) : decP (payB ts ++ [x]) = ([], 3) := by
  unfold payB
  rw [List.cons_append, decP_pay h.2]
  have h1 := decT_flat ts (-1) 0 [x] h.1
  rw [Nat.add_zero] at h1
  rw [h1]
  exact foldr_bad ts (by decide)
theorem Rises.append : ∀ (a b : List Tier) (f : Int), Rises f (a ++ b) → Rises f a ∧ Rises (lastF f a) b
  | [], _, _, h => ⟨trivial, h⟩
  | t :: r, b, f, h => by
    have h1 := Rises.append r b t.1 h.2.2
    exact ⟨⟨h.1, h.2.1, h1.1⟩, h1.2⟩
/-- A byte less is too few. -/
theorem decP_less {ts : List Tier} (h : RightL ts) : decP ((payB ts).dropLast) = ([], 2) := by
  have h0 : ts ≠ [] := fun e => by have := h.2.1; rw [e] at this; simp at this
  obtain ⟨a, t, rfl⟩ : ∃ a t, ts = a ++ [t] := ⟨ts.dropLast, ts.getLast h0, (List.dropLast_concat_getLast h0).symm⟩
  obtain ⟨ha, hb⟩ := Rises.append a [t] (-1) h.1
  have ht := hb.1
  have hf := hb.2.1
  have hl := ht.len
  have e1 : tierB t = (tierB t).dropLast ++ [(tierB t).getLast (by intro e; have := tierB_len t; rw [e] at this; simp at this; omega)] := (List.dropLast_concat_getLast _).symm
  have hd : flatB (a ++ [t]) = (flatB a ++ (tierB t).dropLast) ++ [(tierB t).getLast (by intro e; have := tierB_len t; rw [e] at this; simp at this; omega)] := by
    rw [flatB_append, List.append_assoc, ← e1]
    show flatB a ++ (tierB t ++ []) = _
    rw [List.append_nil]
  have hp : (payB (a ++ [t])).dropLast = ((a ++ [t]).length : Int) :: (flatB a ++ (tierB t).dropLast) := by
    unfold payB
    rw [hd, ← List.cons_append, List.dropLast_concat]
  rw [hp, decP_pay h.2]
  have h1 := decT_flat a (-1) 1 (tierB t).dropLast ha
  rw [show (a ++ [t]).length = a.length + 1 by simp, h1]
  have hdl : (tierB t).dropLast.length = 4 + t.2.length := by rw [List.length_dropLast, tierB_len]; omega
  have e4 : (tierB t).dropLast = (tierB t).take (4 + t.2.length) := by rw [List.dropLast_eq_take, tierB_len]; congr 1; omega
  have h4 : (beL t.1 4).length = 4 := beL_len _ _
  have e5 : (tierB t).dropLast.take 4 = beL t.1 4 := by
    rw [e4, List.take_take, Nat.min_eq_left (by omega)]
    unfold tierB
    rw [List.take_append_of_le_length (by omega), List.take_of_length_le (by omega)]
  have e6 : (tierB t).dropLast.getD 4 0 = (t.2.length : Int) := by
    rw [e4, List.getD_eq_getElem?_getD, List.getElem?_take_of_lt (by omega)]
    unfold tierB
    rw [List.getElem?_append_right (by omega), h4]
    rfl
  have e7 : be (beL t.1 4) = t.1 := be_beL 4 t.1 ht.fee.1 (by have := ht.fee.2; omega)
  have e8 : decT 1 (lastF (-1) a) (tierB t).dropLast = ([], 2) := by
    rw [decT, e5, e6, e7, hdl, Int.toNat_natCast, if_neg (by omega), if_neg (by omega), if_neg (by omega), if_neg (by omega), if_pos (by omega)]
  rw [e8]
  exact foldr_bad a (by decide)
theorem consR_ok {t : Tier} {p : List Tier × Int} {ts : List Tier} (h : consR t p = (ts, 0)) : ∃ r, p = (r, 0) ∧ ts = t :: r := by
  unfold consR at h
  by_cases h0 : p.2 = 0
  · rw [if_pos h0] at h
    injection h with h _
    exact ⟨p.1, by rw [← h0], h.symm⟩
  · rw [if_neg h0] at h
    injection h with _ h
    exact absurd h h0
theorem beL_be (l : List Int) (h : ∀ x ∈ l, 0 ≤ x ∧ x < 256) : beL (be l) l.length = l := by
  obtain ⟨n, hn⟩ : ∃ n, l.length = n := ⟨_, rfl⟩
  induction n generalizing l with
  | zero => rw [List.length_eq_zero_iff.1 hn]; rfl
  | succ n ih =>
    have h0 : l ≠ [] := fun e => by rw [e] at hn; simp at hn
    obtain ⟨r, x, rfl⟩ : ∃ r x, l = r ++ [x] := ⟨l.dropLast, l.getLast h0, (List.dropLast_concat_getLast h0).symm⟩
    have hx := h x (by simp)
    rw [List.length_append, be_snoc]
    show beL ((256 * be r + x) / 256) r.length ++ [(256 * be r + x) % 256] = _
    rw [show (256 * be r + x) / 256 = be r by omega, show (256 * be r + x) % 256 = x by omega, ih r (fun y hy => h y (by simp [hy])) (by simp at hn; omega)]
/-- What is decoded may be, and its bytes are those. -/
theorem decT_ok : ∀ (k : Nat) (f : Int) (b : List Int) (ts : List Tier), (∀ x ∈ b, 0 ≤ x ∧ x < 256) → decT k f b = (ts, 0) → flatB ts = b ∧ Rises f ts ∧ ts.length = k
  | 0, f, b, ts, _, h => by
    unfold decT at h
    by_cases h0 : b = []
    · rw [if_pos h0] at h
      injection h with h _
      rw [← h, h0]
      exact ⟨rfl, trivial, rfl⟩
    · rw [if_neg h0] at h; cases h
  | k + 1, f, b, ts, hr, h => by
    unfold decT at h
    by_cases h1 : b.length < 4
    · rw [if_pos h1] at h; cases h
    rw [if_neg h1] at h
    by_cases h2 : be (b.take 4) ≤ f
    · rw [if_pos h2] at h; cases h
    rw [if_neg h2] at h
    by_cases h3 : b.length < 5
    · rw [if_pos h3] at h; cases h
    rw [if_neg h3] at h
    by_cases h4 : b.getD 4 0 < 1 ∨ 64 < b.getD 4 0
    · rw [if_pos h4] at h; cases h
    rw [if_neg h4] at h
    by_cases h5 : b.length < 5 + (b.getD 4 0).toNat
    · rw [if_pos h5] at h; cases h
    rw [if_neg h5] at h
    obtain ⟨r, hp, rfl⟩ := consR_ok h
    obtain ⟨i1, i2, i3⟩ := decT_ok k _ _ r (fun x hx => hr x (List.mem_of_mem_drop hx)) hp
    obtain ⟨N, hN⟩ : ∃ N : Nat, b.getD 4 0 = (N : Int) := ⟨(b.getD 4 0).toNat, by omega⟩
    rw [hN, Int.toNat_natCast] at h5 i1 ⊢
    rw [hN] at h4
    have hl : ((b.drop 5).take N).length = N := by rw [List.length_take, List.length_drop]; omega
    have h4r : ∀ x ∈ b.take 4, 0 ≤ x ∧ x < 256 := fun x hx => hr x (List.mem_of_mem_take hx)
    have hbl : (b.take 4).length = 4 := by rw [List.length_take]; omega
    have hb4 := beL_be (b.take 4) h4r
    rw [hbl] at hb4
    have hbe := be_fold (b.take 4) 0 h4r (Int.le_refl 0)
    rw [hbl] at hbe
    have hb0 : 0 ≤ be (b.take 4) := hbe.1
    have hb1 : be (b.take 4) < 4294967296 := by have := hbe.2; unfold be; omega
    refine ⟨?_, ⟨⟨⟨hb0, hb1⟩, by rw [hl]; omega, fun x hx => hr x (List.mem_of_mem_drop (List.mem_of_mem_take hx))⟩, by omega, i2⟩, by rw [List.length_cons, i3]⟩
    show tierB (be (b.take 4), (b.drop 5).take N) ++ flatB r = b
    unfold tierB
    dsimp only
    rw [hb4, hl, i1, List.append_assoc, List.cons_append, ← List.drop_drop, List.take_append_drop, ← hN]
    have e : b.drop 4 = b.getD 4 0 :: b.drop 5 := by
      rw [List.drop_eq_getElem_cons (by omega), List.getD_eq_getElem?_getD, List.getElem?_eq_getElem (by omega)]
      rfl
    rw [← e, List.take_append_drop]
theorem decP_ok {b : List Int} {ts : List Tier} (hr : ∀ x ∈ b, 0 ≤ x ∧ x < 256) (h : decP b = (ts, 0)) : payB ts = b ∧ RightL ts := by
  unfold decP at h
  by_cases h0 : b = []
  · rw [if_pos h0] at h; cases h
  rw [if_neg h0] at h
  by_cases h1 : b.getD 0 0 < 1 ∨ 8 < b.getD 0 0
  · rw [if_pos h1] at h; cases h
  rw [if_neg h1] at h
  obtain ⟨i1, i2, i3⟩ := decT_ok _ _ _ ts (fun x hx => hr x (List.mem_of_mem_drop hx)) h
  have e : b = b.getD 0 0 :: b.drop 1 := by
    cases b with
    | nil => exact absurd rfl h0
    | cons x r => rfl
  refine ⟨?_, i2, by omega, by omega⟩
  unfold payB
  rw [i1, show (ts.length : Int) = b.getD 0 0 by omega, ← e]
end Go.Proofs.YtinmmhbiomcdoaaGreatDoor

/-
  Messages (layer 14) as data: which may be, their bytes, and what is read of bytes. No Go function is spoken of.
-/
namespace Go.Proofs.YtinmmhbiomcdoaaGreatDoor

structure MsgV where
  kind : Int
  ses : Int
  seq : Int
  quo : Int
  hint : List Int
  blob : List Int
def z16 : List Int := List.replicate 16 0
def noMsg : MsgV := ⟨0, 0, 0, 0, z16, []⟩
/-- The fields' ranges. -/
structure MsgOk (m : MsgV) : Prop where
  ses : 0 ≤ m.ses ∧ m.ses < 4294967296
  seq : 0 ≤ m.seq ∧ m.seq < 4294967296
  quo : 0 ≤ m.quo ∧ m.quo < 4294967296
  hl : m.hint.length = 16
  hr : ∀ x ∈ m.hint, 0 ≤ x ∧ x < 256
  br : ∀ x ∈ m.blob, 0 ≤ x ∧ x < 256
def MsgRight (m : MsgV) : Prop :=
  (m.kind = 1 ∧ m.ses = 0 ∧ m.seq = 0 ∧ m.quo ≤ 65535 ∧ m.hint = z16 ∧ m.blob = []) ∨ (m.kind = 2 ∧ m.quo = 0 ∧ m.blob.length ≤ 1000) ∨
    ((m.kind = 3 ∨ m.kind = 4) ∧ m.seq = 0 ∧ m.quo = 0 ∧ m.hint = z16 ∧ m.blob = [])
def msgB (m : MsgV) : List Int :=
  m.kind :: (if m.kind = 1 then beL m.quo 2 else beL m.ses 4 ++ (if m.kind = 2 then beL m.seq 4 ++ (m.hint ++ (beL (m.blob.length : Int) 2 ++ m.blob)) else []))
def decU (r : List Int) (N : Nat) : MsgV × Int :=
  if r.length < 26 + N then (noMsg, 2) else if 26 + N < r.length then (noMsg, 3) else (⟨2, be (r.take 4), be ((r.drop 4).take 4), 0, (r.drop 8).take 16, r.drop 26⟩, 0)
def decM : List Int → MsgV × Int
  | [] => (noMsg, 2)
  | k :: r =>
    if k < 1 ∨ 4 < k then (noMsg, 4)
    else if k = 1 then (if r.length < 2 then (noMsg, 2) else if 2 < r.length then (noMsg, 3) else (⟨1, 0, 0, be r, z16, []⟩, 0))
    else if k = 2 then (if r.length < 26 then (noMsg, 2) else if 1000 < be ((r.drop 24).take 2) then (noMsg, 4) else decU r (be ((r.drop 24).take 2)).toNat)
    else (if r.length < 4 then (noMsg, 2) else if 4 < r.length then (noMsg, 3) else (⟨k, be r, 0, 0, z16, []⟩, 0))

theorem be_range (l : List Int) (n : Nat) (hl : l.length = n) (h : ∀ x ∈ l, 0 ≤ x ∧ x < 256) : 0 ≤ be l ∧ be l < 256 ^ n := by
  have h1 := be_fold l 0 h (Int.le_refl 0)
  rw [hl] at h1
  unfold be
  exact ⟨h1.1, by have := h1.2; simpa using this⟩
theorem z16_range : ∀ x ∈ z16, (0 : Int) ≤ x ∧ x < 256 := by
  intro x hx
  obtain ⟨_, rfl⟩ := List.mem_replicate.1 hx
  omega
/-- The parts of an upload's bytes. -/
structure UpAt (r : List Int) (ses seq : Int) (hint : List Int) (N : Nat) : Prop where
  a : r.take 4 = beL ses 4
  b : (r.drop 4).take 4 = beL seq 4
  c : (r.drop 8).take 16 = hint
  d : (r.drop 24).take 2 = beL (N : Int) 2
theorem up_at {ses seq : Int} {hint : List Int} (hl : hint.length = 16) (N : Nat) (ys : List Int) : UpAt (beL ses 4 ++ (beL seq 4 ++ (hint ++ (beL (N : Int) 2 ++ ys)))) ses seq hint N ∧ (beL ses 4 ++ (beL seq 4 ++ (hint ++ (beL (N : Int) 2 ++ ys)))).drop 26 = ys := by
  have h1 : (beL ses 4).length = 4 := beL_len _ _
  have h2 : (beL seq 4).length = 4 := beL_len _ _
  have h3 : (beL (N : Int) 2).length = 2 := beL_len _ _
  have d4 : ∀ X : List Int, (beL ses 4 ++ X).drop 4 = X := fun X => by rw [List.drop_append, h1, List.drop_eq_nil_of_le (by omega)]; rfl
  have d8 : ∀ X : List Int, (beL ses 4 ++ (beL seq 4 ++ X)).drop 8 = X := fun X => by rw [show (8 : Nat) = 4 + 4 from rfl, ← List.drop_drop, d4, List.drop_append, h2, List.drop_eq_nil_of_le (by omega)]; rfl
  have d24 : ∀ X : List Int, (beL ses 4 ++ (beL seq 4 ++ (hint ++ X))).drop 24 = X := fun X => by rw [show (24 : Nat) = 8 + 16 from rfl, ← List.drop_drop, d8, List.drop_append, hl, List.drop_eq_nil_of_le (by omega)]; rfl
  have d26 : ∀ X : List Int, (beL ses 4 ++ (beL seq 4 ++ (hint ++ (beL (N : Int) 2 ++ X)))).drop 26 = X := fun X => by rw [show (26 : Nat) = 24 + 2 from rfl, ← List.drop_drop, d24, List.drop_append, h3, List.drop_eq_nil_of_le (by omega)]; rfl
  have tk : ∀ (l X : List Int) (n : Nat), l.length = n → (l ++ X).take n = l := fun l X n h => by rw [List.take_append_of_le_length (by omega), List.take_of_length_le (by omega)]
  exact ⟨⟨tk _ _ 4 h1, by rw [d4]; exact tk _ _ 4 h2, by rw [d8]; exact tk _ _ 16 hl, by rw [d24]; exact tk _ _ 2 h3⟩, d26 ys⟩
theorem UpAt.more {r : List Int} {ses seq : Int} {hint : List Int} {N : Nat} (h : UpAt r ses seq hint N) (hl : 26 ≤ r.length) (z : List Int) : UpAt (r ++ z) ses seq hint N := by
  have tk : ∀ n k : Nat, n + k ≤ 26 → ((r ++ z).drop n).take k = (r.drop n).take k := fun n k hk => by
    rw [List.drop_append_of_le_length (by omega), List.take_append_of_le_length (by rw [List.length_drop]; omega)]
  refine ⟨?_, by rw [tk 4 4 (by decide)]; exact h.b, by rw [tk 8 16 (by decide)]; exact h.c, by rw [tk 24 2 (by decide)]; exact h.d⟩
  have := tk 0 4 (by decide)
  simp only [List.drop_zero] at this
  rw [this]
  exact h.a
/-- An upload's bytes are read by how many there are. -/
theorem decM_up {r : List Int} {ses seq : Int} {hint : List Int} {N : Nat} (h : UpAt r ses seq hint N) (hN : N ≤ 1000) (hl : 26 ≤ r.length) : decM (2 :: r) = decU r N := by
  have e : be (beL (N : Int) 2) = N := be_beL 2 (N : Int) (by omega) (by show (N : Int) < 256 ^ 2; omega)
  rw [decM, if_neg (by omega), if_neg (by decide), if_pos rfl, if_neg (by omega), h.d, e, if_neg (by omega), Int.toNat_natCast]
theorem decM_msgB {m : MsgV} (hm : MsgOk m) (h : MsgRight m) : decM (msgB m) = (m, 0) := by
  obtain ⟨kind, ses, seq, quo, hint, blob⟩ := m
  rcases h with ⟨rfl, h1, h2, h3, h4, h5⟩ | ⟨rfl, h1, h2⟩ | ⟨hk, h1, h2, h3, h4⟩
  · dsimp only at h1 h2 h3 h4 h5
    subst h1; subst h2; subst h4; subst h5
    have hl : (beL quo 2).length = 2 := beL_len _ _
    have e : be (beL quo 2) = quo := be_beL 2 quo hm.quo.1 (by show quo < 256 ^ 2; omega)
    show decM (1 :: beL quo 2) = _
    rw [decM, if_neg (by omega), if_pos rfl, if_neg (by omega), if_neg (by omega), e]
  · dsimp only at h1 h2
    subst h1
    obtain ⟨hu, hd⟩ := up_at (ses := ses) (seq := seq) (hint := hint) hm.hl blob.length blob
    have hl : (beL ses 4 ++ (beL seq 4 ++ (hint ++ (beL (blob.length : Int) 2 ++ blob)))).length = 26 + blob.length := by
      have h16 : hint.length = 16 := hm.hl
      rw [List.length_append, List.length_append, List.length_append, List.length_append, beL_len, beL_len, beL_len, h16]; omega
    show decM (2 :: (beL ses 4 ++ (beL seq 4 ++ (hint ++ (beL (blob.length : Int) 2 ++ blob))))) = _
    rw [decM_up hu h2 (by omega)]
    unfold decU
    rw [if_neg (by omega), if_neg (by omega), hu.a, hu.b, hu.c, hd, be_beL 4 ses hm.ses.1 (by show ses < 256 ^ 4; have := hm.ses.2; simpa using this), be_beL 4 seq hm.seq.1 (by show seq < 256 ^ 4; have := hm.seq.2; simpa using this)]
  · dsimp only at hk h1 h2 h3 h4
    subst h1; subst h2; subst h3; subst h4
    have hl : (beL ses 4).length = 4 := beL_len _ _
    have e : be (beL ses 4) = ses := be_beL 4 ses hm.ses.1 (by show ses < 256 ^ 4; have := hm.ses.2; simpa using this)
    have hb : msgB ⟨kind, ses, 0, 0, z16, []⟩ = kind :: beL ses 4 := by
      unfold msgB
      dsimp only
      rw [if_neg (by omega), if_neg (by omega), List.append_nil]
    rw [hb, decM, if_neg (by omega), if_neg (by omega), if_neg (by omega), if_neg (by omega), if_neg (by omega), e]
theorem msgB_up (ses seq quo : Int) (hint blob : List Int) : msgB ⟨2, ses, seq, quo, hint, blob⟩ = 2 :: (beL ses 4 ++ (beL seq 4 ++ (hint ++ (beL (blob.length : Int) 2 ++ blob)))) := rfl
theorem msgB_one {k : Int} (hk : k = 3 ∨ k = 4) (ses seq quo : Int) (hint blob : List Int) : msgB ⟨k, ses, seq, quo, hint, blob⟩ = k :: beL ses 4 := by
  unfold msgB
  dsimp only
  rw [if_neg (by omega), if_neg (by omega), List.append_nil]
theorem up_len (ses seq : Int) (hint blob : List Int) (h : hint.length = 16) : (beL ses 4 ++ (beL seq 4 ++ (hint ++ (beL (blob.length : Int) 2 ++ blob)))).length = 26 + blob.length := by
  rw [List.length_append, List.length_append, List.length_append, List.length_append, beL_len, beL_len, beL_len, h]; omega
/-- A byte more. -/
theorem decM_more {m : MsgV} (hm : MsgOk m) (h : MsgRight m) (x : Int) : decM (msgB m ++ [x]) = (noMsg, 3) := by
  obtain ⟨kind, ses, seq, quo, hint, blob⟩ := m
  rcases h with ⟨rfl, h1, h2, h3, h4, h5⟩ | ⟨rfl, h1, h2⟩ | ⟨hk, h1, h2, h3, h4⟩
  · have hl : (beL quo 2 ++ [x]).length = 3 := by rw [List.length_append, beL_len]; rfl
    show decM (1 :: (beL quo 2 ++ [x])) = _
    rw [decM, if_neg (by omega), if_pos rfl, if_neg (by omega), if_pos (by omega)]
  · dsimp only at h2
    obtain ⟨hu, _⟩ := up_at (ses := ses) (seq := seq) (hint := hint) hm.hl blob.length blob
    have hl := up_len ses seq hint blob hm.hl
    rw [msgB_up, List.cons_append, decM_up (hu.more (by omega) [x]) h2 (by rw [List.length_append]; omega)]
    unfold decU
    rw [List.length_append, hl, if_neg (by simp), if_pos (by simp)]
  · have hl : (beL ses 4 ++ [x]).length = 5 := by rw [List.length_append, beL_len]; rfl
    have hk' : kind = 3 ∨ kind = 4 := hk
    rw [msgB_one hk', List.cons_append, decM, if_neg (by omega), if_neg (by omega), if_neg (by omega), if_neg (by omega), if_pos (by omega)]
theorem UpAt.less {r : List Int} {ses seq : Int} {hint : List Int} {N : Nat} {z : List Int} (h : UpAt (r ++ z) ses seq hint N) (hl : 26 ≤ r.length) : UpAt r ses seq hint N := by
  have tk : ∀ n k : Nat, n + k ≤ 26 → ((r ++ z).drop n).take k = (r.drop n).take k := fun n k hk => by
    rw [List.drop_append_of_le_length (by omega), List.take_append_of_le_length (by rw [List.length_drop]; omega)]
  refine ⟨?_, by rw [← tk 4 4 (by decide)]; exact h.b, by rw [← tk 8 16 (by decide)]; exact h.c, by rw [← tk 24 2 (by decide)]; exact h.d⟩
  have := tk 0 4 (by decide)
  simp only [List.drop_zero] at this
  rw [← this]
  exact h.a
/-- A byte less. -/
theorem decM_less {m : MsgV} (hm : MsgOk m) (h : MsgRight m) : decM ((msgB m).dropLast) = (noMsg, 2) := by
  obtain ⟨kind, ses, seq, quo, hint, blob⟩ := m
  rcases h with ⟨rfl, h1, h2, h3, h4, h5⟩ | ⟨rfl, h1, h2⟩ | ⟨hk, h1, h2, h3, h4⟩
  · have hl : (beL quo 2).length = 2 := beL_len _ _
    have hd : ((beL quo 2).dropLast).length = 1 := by rw [List.length_dropLast, hl]
    have e : (msgB ⟨1, ses, seq, quo, hint, blob⟩).dropLast = 1 :: (beL quo 2).dropLast := by
      show (1 :: beL quo 2).dropLast = _
      exact List.dropLast_cons_of_ne_nil (fun e => by rw [e] at hl; cases hl)
    rw [e, decM, if_neg (by omega), if_pos rfl, if_pos (by omega)]
  · dsimp only at h2
    obtain ⟨hu, _⟩ := up_at (ses := ses) (seq := seq) (hint := hint) hm.hl blob.length blob
    have hl := up_len ses seq hint blob hm.hl
    rw [msgB_up]
    obtain ⟨r, hr⟩ : ∃ r, beL ses 4 ++ (beL seq 4 ++ (hint ++ (beL (blob.length : Int) 2 ++ blob))) = r := ⟨_, rfl⟩
    rw [hr] at hu hl ⊢
    have hne : r ≠ [] := fun e => by rw [e] at hl; simp at hl; omega
    rw [List.dropLast_cons_of_ne_nil hne]
    have hdl : r.dropLast.length = 25 + blob.length := by rw [List.length_dropLast]; omega
    by_cases h0 : blob.length = 0
    · rw [decM, if_neg (by omega), if_neg (by decide), if_pos rfl, if_pos (by omega)]
    · rw [← List.dropLast_concat_getLast hne] at hu
      rw [decM_up (hu.less (by omega)) h2 (by omega)]
      unfold decU
      rw [if_pos (by omega)]
  · have hl : (beL ses 4).length = 4 := beL_len _ _
    have hk' : kind = 3 ∨ kind = 4 := hk
    have hd : ((beL ses 4).dropLast).length = 3 := by rw [List.length_dropLast, hl]
    rw [msgB_one hk', List.dropLast_cons_of_ne_nil (fun e => by rw [e] at hl; cases hl), decM, if_neg (by omega), if_neg (by omega), if_neg (by omega), if_pos (by omega)]
theorem decM_none : ∀ b : List Int, (decM b).2 ≠ 0 → (decM b).1 = noMsg
  | [], _ => rfl
  | k :: r, h => by
    rw [decM] at h ⊢
    split
    · rfl
    · rename_i h1
      rw [if_neg h1] at h
      split
      · rename_i h2
        rw [if_pos h2] at h
        split
        · rfl
        · rename_i h3
          rw [if_neg h3] at h
          split
          · rfl
          · rename_i h4
            rw [if_neg h4] at h
            exact absurd rfl h
      · rename_i h2
        rw [if_neg h2] at h
        split
        · rename_i h3
          rw [if_pos h3] at h
          split
          · rfl
          · rename_i h4
            rw [if_neg h4] at h
            split
            · rfl
            · rename_i h5
              rw [if_neg h5] at h
              unfold decU at h ⊢
              split
              · rfl
              · rename_i h6
                rw [if_neg h6] at h
                split
                · rfl
                · rename_i h7
                  rw [if_neg h7] at h
                  exact absurd rfl h
        · rename_i h3
          rw [if_neg h3] at h
          split
          · rfl
          · rename_i h4
            rw [if_neg h4] at h
            split
            · rfl
            · rename_i h5
              rw [if_neg h5] at h
              exact absurd rfl h
theorem no_err {m : MsgV} {e : Int} (h : (noMsg, e) = (m, 0)) (he : e ≠ 0) : False := he (congrArg Prod.snd h)
theorem zero_ok : 0 ≤ (0 : Int) ∧ (0 : Int) < 4294967296 := by decide
/-- What is decoded may be, and its bytes are those. -/
theorem decM_ok {b : List Int} {m : MsgV} (hr : ∀ x ∈ b, 0 ≤ x ∧ x < 256) (h : decM b = (m, 0)) : msgB m = b ∧ MsgRight m ∧ MsgOk m := by
  match b with
  | [] => exact (no_err (e := 2) h (by decide)).elim
  | k :: r =>
    have hrr : ∀ x ∈ r, 0 ≤ x ∧ x < 256 := fun x hx => hr x (List.mem_cons_of_mem _ hx)
    rw [decM] at h
    by_cases h1 : k < 1 ∨ 4 < k
    · rw [if_pos h1] at h
      exact (no_err h (by decide)).elim
    rw [if_neg h1] at h
    by_cases h2 : k = 1
    · rw [if_pos h2] at h
      by_cases h3 : r.length < 2
      · rw [if_pos h3] at h
        exact (no_err h (by decide)).elim
      rw [if_neg h3] at h
      by_cases h4 : 2 < r.length
      · rw [if_pos h4] at h
        exact (no_err h (by decide)).elim
      rw [if_neg h4] at h
      obtain rfl := congrArg Prod.fst h
      have hl : r.length = 2 := by omega
      have hb := be_range r 2 hl hrr
      have e := beL_be r hrr
      rw [hl] at e
      subst h2
      refine ⟨?_, .inl ⟨rfl, rfl, rfl, ?_, rfl, rfl⟩, ⟨zero_ok, zero_ok, ⟨hb.1, ?_⟩, rfl, z16_range, fun x hx => by cases hx⟩⟩
      · show 1 :: beL (be r) 2 = _
        rw [e]
      · have := hb.2; show be r ≤ 65535; omega
      · have := hb.2; show be r < 4294967296; omega
    rw [if_neg h2] at h
    by_cases h3 : k = 2
    · rw [if_pos h3] at h
      by_cases h4 : r.length < 26
      · rw [if_pos h4] at h
        exact (no_err h (by decide)).elim
      rw [if_neg h4] at h
      by_cases h5 : 1000 < be ((r.drop 24).take 2)
      · rw [if_pos h5] at h
        exact (no_err h (by decide)).elim
      rw [if_neg h5] at h
      have part : ∀ n k : Nat, n + k ≤ 26 → ((r.drop n).take k).length = k ∧ ∀ x ∈ (r.drop n).take k, 0 ≤ x ∧ x < 256 := fun n k hk =>
        ⟨by rw [List.length_take, List.length_drop]; omega, fun x hx => hrr x (List.mem_of_mem_drop (List.mem_of_mem_take hx))⟩
      have p0 := part 0 4 (by decide)
      have p4 := part 4 4 (by decide)
      have p8 := part 8 16 (by decide)
      have p24 := part 24 2 (by decide)
      rw [List.drop_zero] at p0
      have b0 := be_range _ 4 p0.1 p0.2
      have b4 := be_range _ 4 p4.1 p4.2
      have b24 := be_range _ 2 p24.1 p24.2
      have e0 := beL_be _ p0.2
      have e4 := beL_be _ p4.2
      have e24 := beL_be _ p24.2
      rw [p0.1] at e0
      rw [p4.1] at e4
      rw [p24.1] at e24
      obtain ⟨N, hN⟩ : ∃ N : Nat, be ((r.drop 24).take 2) = (N : Int) := ⟨(be ((r.drop 24).take 2)).toNat, by omega⟩
      rw [hN, Int.toNat_natCast] at h
      rw [hN] at e24
      unfold decU at h
      by_cases h6 : r.length < 26 + N
      · rw [if_pos h6] at h
        exact (no_err h (by decide)).elim
      rw [if_neg h6] at h
      by_cases h7 : 26 + N < r.length
      · rw [if_pos h7] at h
        exact (no_err h (by decide)).elim
      rw [if_neg h7] at h
      obtain rfl := congrArg Prod.fst h
      have hbl : (r.drop 26).length = N := by rw [List.length_drop]; omega
      subst h3
      have hsplit : r.take 4 ++ ((r.drop 4).take 4 ++ ((r.drop 8).take 16 ++ ((r.drop 24).take 2 ++ r.drop 26))) = r := by
        have t1 : (r.drop 24).take 2 ++ r.drop 26 = r.drop 24 := by rw [show r.drop 26 = (r.drop 24).drop 2 by rw [List.drop_drop]]; exact List.take_append_drop _ _
        have t2 : (r.drop 8).take 16 ++ r.drop 24 = r.drop 8 := by rw [show r.drop 24 = (r.drop 8).drop 16 by rw [List.drop_drop]]; exact List.take_append_drop _ _
        have t3 : (r.drop 4).take 4 ++ r.drop 8 = r.drop 4 := by rw [show r.drop 8 = (r.drop 4).drop 4 by rw [List.drop_drop]]; exact List.take_append_drop _ _
        rw [t1, t2, t3]
        exact List.take_append_drop _ _
      refine ⟨?_, .inr (.inl ⟨rfl, rfl, ?_⟩), ⟨⟨b0.1, ?_⟩, ⟨b4.1, ?_⟩, zero_ok, p8.1, p8.2, fun x hx => hrr x (List.mem_of_mem_drop hx)⟩⟩
      · show 2 :: (beL (be (r.take 4)) 4 ++ (beL (be ((r.drop 4).take 4)) 4 ++ ((r.drop 8).take 16 ++ (beL ((r.drop 26).length : Int) 2 ++ r.drop 26)))) = _
        rw [e0, e4, hbl, e24, hsplit]
      · show (r.drop 26).length ≤ 1000
        omega
      · have := b0.2; show be (r.take 4) < 4294967296; omega
      · have := b4.2; show be ((r.drop 4).take 4) < 4294967296; omega
    rw [if_neg h3] at h
    by_cases h4 : r.length < 4
    · rw [if_pos h4] at h
      exact (no_err h (by decide)).elim
    rw [if_neg h4] at h
    by_cases h5 : 4 < r.length
    · rw [if_pos h5] at h
      exact (no_err h (by decide)).elim
    rw [if_neg h5] at h
    obtain rfl := congrArg Prod.fst h
    have hl : r.length = 4 := by omega
    have hb := be_range r 4 hl hrr
    have e := beL_be r hrr
    rw [hl] at e
    have hk : k = 3 ∨ k = 4 := by omega
    refine ⟨?_, .inr (.inr ⟨hk, rfl, rfl, rfl, rfl⟩), ⟨⟨hb.1, ?_⟩, zero_ok, zero_ok, rfl, z16_range, fun x hx => by cases hx⟩⟩
    · rw [msgB_one hk, e]
    · have := hb.2; show be r < 4294967296; omega
end Go.Proofs.YtinmmhbiomcdoaaGreatDoor

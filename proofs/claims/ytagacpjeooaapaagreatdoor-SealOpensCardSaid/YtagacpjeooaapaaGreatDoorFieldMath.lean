/-
  The field of 256 elements on natural numbers: products, their laws, powers, inverses and orders; plain facts, no Go. Conditions: elements are numbers below 256.
-/
import Derived.WalkKit
namespace Go.Proofs.YtagacpjeooaapaaGreatDoor

/-- An element's product with x. -/
def nx (a : Nat) : Nat := (2 * a) ^^^ (if a / 128 % 2 = 1 then 283 else 0)
/-- What the lowest n bits of b add to a product with a. -/
def tr : Nat → Nat → Nat → Nat
  | 0, _, _ => 0
  | n + 1, a, b => (if b % 2 = 1 then a else 0) ^^^ tr n (nx a) (b / 2)
/-- The product. -/
def tm (a b : Nat) : Nat := tr 8 a b
/-- The product of n times an element. -/
def pw (a : Nat) : Nat → Nat
  | 0 => 1
  | n + 1 => tm (pw a n) a

theorem xor_swap (a b c d : Nat) : (a ^^^ b) ^^^ (c ^^^ d) = (a ^^^ c) ^^^ (b ^^^ d) := by
  rw [Nat.xor_assoc, Nat.xor_assoc, ← Nat.xor_assoc b c d, Nat.xor_comm b c, Nat.xor_assoc c b d]
theorem xor_two (a b : Nat) : (a ^^^ b) % 2 = (a % 2 + b % 2) % 2 := by
  have h := @Nat.xor_mod_two_pow a b 1
  simp only [Nat.pow_one] at h
  rw [h]
  rcases Nat.mod_two_eq_zero_or_one a with h | h <;> rcases Nat.mod_two_eq_zero_or_one b with g | g <;> rw [h, g] <;> decide
theorem xor_div (a b k : Nat) : (a ^^^ b) / 2 ^ k = (a / 2 ^ k) ^^^ (b / 2 ^ k) := Nat.xor_div_two_pow
theorem xor_mul (a b k : Nat) : (a ^^^ b) * 2 ^ k = (a * 2 ^ k) ^^^ (b * 2 ^ k) := by
  rw [← Nat.shiftLeft_eq, ← Nat.shiftLeft_eq, ← Nat.shiftLeft_eq, Nat.shiftLeft_xor_distrib]
theorem ite_xor (x y c : Nat) : (if (x ^^^ y) % 2 = 1 then c else 0) = (if x % 2 = 1 then c else 0) ^^^ (if y % 2 = 1 then c else 0) := by
  rw [xor_two]
  rcases Nat.mod_two_eq_zero_or_one x with h | h <;> rcases Nat.mod_two_eq_zero_or_one y with g | g <;> simp [h, g]
theorem if_xor (x a b : Nat) : (if x % 2 = 1 then a ^^^ b else 0) = (if x % 2 = 1 then a else 0) ^^^ (if x % 2 = 1 then b else 0) := by
  split <;> simp

theorem nx_xor (a b : Nat) : nx (a ^^^ b) = nx a ^^^ nx b := by
  unfold nx
  have h1 := xor_mul a b 1
  have h2 := xor_div a b 7
  simp only [Nat.reducePow] at h1 h2
  rw [Nat.mul_comm 2, h1, h2, ite_xor, xor_swap, Nat.mul_comm a, Nat.mul_comm b]
theorem tr_right (n a b c : Nat) : tr n a (b ^^^ c) = tr n a b ^^^ tr n a c := by
  induction n generalizing a b c with
  | zero => simp [tr]
  | succ n ih =>
    have h := xor_div b c 1
    simp only [Nat.reducePow] at h
    simp only [tr]
    rw [ite_xor, h, ih, xor_swap]
theorem tr_left (n a b c : Nat) : tr n (a ^^^ b) c = tr n a c ^^^ tr n b c := by
  induction n generalizing a b c with
  | zero => simp [tr]
  | succ n ih =>
    simp only [tr]
    rw [nx_xor, ih, if_xor, xor_swap]
theorem tm_right (a b c : Nat) : tm a (b ^^^ c) = tm a b ^^^ tm a c := tr_right 8 a b c
theorem tm_left (a b c : Nat) : tm (a ^^^ b) c = tm a c ^^^ tm b c := tr_left 8 a b c
theorem tm_zero (a : Nat) : tm a 0 = 0 := by
  have h := tm_right a 0 0
  rw [Nat.xor_self] at h
  rw [h, Nat.xor_self]
theorem zero_tm (a : Nat) : tm 0 a = 0 := by
  have h := tm_left 0 0 a
  rw [Nat.xor_self] at h
  rw [h, Nat.xor_self]

theorem xor_256 {a b : Nat} (ha : a < 256) (hb : b < 256) : a ^^^ b < 256 := Nat.xor_lt_two_pow (n := 8) ha hb
theorem nx_256 : ∀ a < 256, nx a < 256 := by decide +kernel
theorem tr_256 (n a b : Nat) (ha : a < 256) : tr n a b < 256 := by
  induction n generalizing a b with
  | zero => exact (by decide : 0 < 256)
  | succ n ih =>
    simp only [tr]
    exact xor_256 (by split <;> omega) (ih _ _ (nx_256 a ha))
theorem tm_256 {a : Nat} (b : Nat) (ha : a < 256) : tm a b < 256 := tr_256 8 a b ha

theorem bits_sum : ∀ a < 256, a = (a % 2 * 1) ^^^ (a / 2 % 2 * 2) ^^^ (a / 4 % 2 * 4) ^^^ (a / 8 % 2 * 8) ^^^ (a / 16 % 2 * 16) ^^^ (a / 32 % 2 * 32) ^^^ (a / 64 % 2 * 64) ^^^ (a / 128 % 2 * 128) := by decide +kernel
/-- What holds of 0, of each bit, and of sums, holds of all elements. -/
theorem lin_ext (P : Nat → Prop) (h0 : P 0) (hx : ∀ a b, a < 256 → b < 256 → P a → P b → P (a ^^^ b)) (hb : ∀ k < 8, P (2 ^ k)) (a : Nat) (ha : a < 256) : P a := by
  have H : ∀ (k : Nat), k < 8 → ∀ t, (t % 2 * 2 ^ k) < 256 ∧ P (t % 2 * 2 ^ k) := by
    intro k hk t
    rcases Nat.mod_two_eq_zero_or_one t with h | h
    · rw [h, Nat.zero_mul]; exact ⟨by omega, h0⟩
    · rw [h, Nat.one_mul]
      exact ⟨Nat.pow_lt_pow_of_lt (by omega) (show k < 8 from hk), hb k hk⟩
  have J : ∀ {x y : Nat}, (x < 256 ∧ P x) → (y < 256 ∧ P y) → (x ^^^ y < 256 ∧ P (x ^^^ y)) := fun hx' hy' => ⟨xor_256 hx'.1 hy'.1, hx _ _ hx'.1 hy'.1 hx'.2 hy'.2⟩
  rw [bits_sum a ha]
  exact (J (J (J (J (J (J (J (H 0 (by omega) a) (H 1 (by omega) _)) (H 2 (by omega) _)) (H 3 (by omega) _)) (H 4 (by omega) _)) (H 5 (by omega) _)) (H 6 (by omega) _)) (H 7 (by omega) _)).2

theorem comm_bit : ∀ k < 8, ∀ a < 256, tm a (2 ^ k) = tm (2 ^ k) a := by decide +kernel
theorem tm_comm (a b : Nat) (ha : a < 256) (hb : b < 256) : tm a b = tm b a :=
  lin_ext (fun b => ∀ a < 256, tm a b = tm b a) (fun a _ => by rw [tm_zero, zero_tm]) (fun x y _ _ hx hy a ha => by rw [tm_right, tm_left, hx a ha, hy a ha]) comm_bit b hb a ha
theorem assoc_bit : ∀ k < 8, ∀ j < 8, ∀ a < 256, tm (tm a (2 ^ j)) (2 ^ k) = tm a (tm (2 ^ j) (2 ^ k)) := by decide +kernel
theorem tm_assoc (a b c : Nat) (ha : a < 256) (hb : b < 256) (hc : c < 256) : tm (tm a b) c = tm a (tm b c) :=
  lin_ext (fun c => ∀ b < 256, ∀ a < 256, tm (tm a b) c = tm a (tm b c)) (fun b _ a _ => by rw [tm_zero, tm_zero, tm_zero])
    (fun x y _ _ hx hy b hb a ha => by rw [tm_right, tm_right, tm_right, hx b hb a ha, hy b hb a ha])
    (fun k hk b hb => lin_ext (fun b => ∀ a < 256, tm (tm a b) (2 ^ k) = tm a (tm b (2 ^ k))) (fun a _ => by rw [tm_zero, zero_tm, tm_zero])
      (fun x y _ _ hx hy a ha => by rw [tm_right, tm_left, tm_left, tm_right, hx a ha, hy a ha])
      (fun j hj a ha => assoc_bit k hk j hj a ha) b hb) c hc b hb a ha
theorem tm_one : ∀ a < 256, tm a 1 = a := by decide +kernel
theorem one_tm : ∀ a < 256, tm 1 a = a := by decide +kernel

theorem pw_256 {a : Nat} (n : Nat) : pw a n < 256 := by
  induction n with
  | zero => exact (by decide : 1 < 256)
  | succ n ih => exact tm_256 _ ih
theorem pw_one {a : Nat} (ha : a < 256) : pw a 1 = a := one_tm a ha
theorem pw_add (a m n : Nat) (ha : a < 256) : pw a (m + n) = tm (pw a m) (pw a n) := by
  induction n with
  | zero => rw [Nat.add_zero]; exact (tm_one _ (pw_256 m)).symm
  | succ n ih =>
    show tm (pw a (m + n)) a = tm (pw a m) (tm (pw a n) a)
    rw [ih, tm_assoc _ _ _ (pw_256 m) (pw_256 n) ha]
theorem pw_mul (a m n : Nat) (ha : a < 256) : pw a (m * n) = pw (pw a m) n := by
  induction n with
  | zero => rfl
  | succ n ih => rw [Nat.mul_succ, pw_add _ _ _ ha, ih]; rfl
theorem pw_of_one (n : Nat) : pw 1 n = 1 := by
  induction n with
  | zero => rfl
  | succ n ih => show tm (pw 1 n) 1 = 1; rw [ih]; exact tm_one 1 (by decide)
theorem pw_zero_succ (n : Nat) : pw 0 (n + 1) = 0 := tm_zero _
theorem pw_sq (a k : Nat) (ha : a < 256) : pw a (2 * k) = pw (tm a a) k := by
  rw [pw_mul _ _ _ ha]
  show pw (tm (tm 1 a) a) k = _
  rw [one_tm a ha]
theorem pw_sq_odd (a k : Nat) (ha : a < 256) : pw a (2 * k + 1) = tm a (pw (tm a a) k) := by
  show tm (pw a (2 * k)) a = _
  rw [pw_sq a k ha, tm_comm _ _ (pw_256 k) ha]

/-- Eight squares, one product each: the 255th power. -/
def p255 (a : Nat) : Nat → Nat
  | 0 => 1
  | n + 1 => tm a (p255 (tm a a) n)
theorem p255_pw (n : Nat) : ∀ a < 256, p255 a n = pw a (2 ^ n - 1) := by
  induction n with
  | zero => intro a _; rfl
  | succ n ih =>
    intro a ha
    show tm a (p255 (tm a a) n) = _
    rw [ih _ (tm_256 _ ha), ← pw_sq_odd a _ ha]
    congr 1
    have := Nat.one_le_two_pow (n := n)
    rw [Nat.pow_succ]; omega
theorem p255_one : ∀ a < 256, a ≠ 0 → p255 a 8 = 1 := by decide +kernel
theorem pw_255 (a : Nat) (ha : a < 256) (h : a ≠ 0) : pw a 255 = 1 := (p255_pw 8 a ha).symm.trans (p255_one a ha h)

/-- The inverse: the 254th power. -/
def inv (a : Nat) : Nat := pw a 254
theorem inv_256 (a : Nat) : inv a < 256 := pw_256 254
theorem inv_zero : inv 0 = 0 := pw_zero_succ 253
theorem inv_tm (a : Nat) (ha : a < 256) (h : a ≠ 0) : tm (inv a) a = 1 := pw_255 a ha h
theorem tm_inv (a : Nat) (ha : a < 256) (h : a ≠ 0) : tm a (inv a) = 1 := by rw [tm_comm _ _ ha (inv_256 a)]; exact inv_tm a ha h
theorem inv_ne (a : Nat) (ha : a < 256) (h : a ≠ 0) : inv a ≠ 0 := by
  intro h0
  have := tm_inv a ha h
  rw [h0, tm_zero] at this
  omega
theorem inv_uniq (a b : Nat) (ha : a < 256) (hb : b < 256) (h : tm a b = 1) : b = inv a := by
  have h0 : a ≠ 0 := by rintro rfl; rw [zero_tm] at h; omega
  calc b = tm 1 b := (one_tm b hb).symm
    _ = tm (tm (inv a) a) b := by rw [inv_tm a ha h0]
    _ = tm (inv a) (tm a b) := tm_assoc _ _ _ (inv_256 a) ha hb
    _ = inv a := by rw [h, tm_one _ (inv_256 a)]
theorem tm_eq_zero (a b : Nat) (ha : a < 256) (hb : b < 256) : tm a b = 0 ↔ a = 0 ∨ b = 0 := by
  constructor
  · intro h
    by_cases h0 : a = 0
    · exact .inl h0
    · right
      calc b = tm 1 b := (one_tm b hb).symm
        _ = tm (tm (inv a) a) b := by rw [inv_tm a ha h0]
        _ = tm (inv a) (tm a b) := tm_assoc _ _ _ (inv_256 a) ha hb
        _ = 0 := by rw [h, tm_zero]
  · rintro (rfl | rfl)
    · exact zero_tm _
    · exact tm_zero _

/-- The powers' period. -/
theorem pw_mod (a o k : Nat) (ha : a < 256) (h : pw a o = 1) : pw a k = pw a (k % o) := by
  have hk := Nat.div_add_mod k o
  calc pw a k = pw a (o * (k / o) + k % o) := by rw [hk]
    _ = tm (pw (pw a o) (k / o)) (pw a (k % o)) := by rw [pw_add _ _ _ ha, pw_mul _ _ _ ha]
    _ = pw a (k % o) := by rw [h, pw_of_one, one_tm _ (pw_256 _)]
/-- The order: the least exponent from 1 on whose power is 1. -/
def IsOrd (a o : Nat) : Prop := 0 < o ∧ o ≤ 255 ∧ pw a o = 1 ∧ ∀ k, 0 < k → k < o → pw a k ≠ 1
theorem least_from (p : Nat → Prop) [DecidablePred p] : ∀ n, p n → ∃ m, m ≤ n ∧ p m ∧ ∀ k, k < m → ¬ p k := by
  intro n
  induction n using Nat.strongRecOn with
  | _ n ih =>
    intro hn
    by_cases h : ∃ k, k < n ∧ p k
    · obtain ⟨k, hk, hp⟩ := h
      obtain ⟨m, hm, h1, h2⟩ := ih k hk hp
      exact ⟨m, by omega, h1, h2⟩
    · exact ⟨n, Nat.le_refl _, hn, fun k hk hp => h ⟨k, hk, hp⟩⟩
theorem ord_ex (a : Nat) (ha : a < 256) (h : a ≠ 0) : ∃ o, IsOrd a o := by
  obtain ⟨m, hm, ⟨h0, h1⟩, h2⟩ := least_from (fun n => 0 < n ∧ pw a n = 1) 255 ⟨by omega, pw_255 a ha h⟩
  exact ⟨m, h0, hm, h1, fun k hk hlt he => h2 k hlt ⟨hk, he⟩⟩
theorem ord_dvd (a o : Nat) (ha : a < 256) (h : a ≠ 0) (ho : IsOrd a o) : 255 % o = 0 := by
  obtain ⟨h0, h1, h2, h3⟩ := ho
  have hm := pw_mod a o 255 ha h2
  rw [pw_255 a ha h] at hm
  have hlt := Nat.mod_lt 255 h0
  by_cases hz : 255 % o = 0
  · exact hz
  · exact absurd hm.symm (h3 _ (by omega) hlt)
theorem ord_three : IsOrd 3 255 := ⟨by decide, by decide, by decide +kernel, by
  intro k h0 h1
  have : ∀ k < 255, 0 < k → pw 3 k ≠ 1 := by decide +kernel
  exact this k h1 h0⟩

/-- A power of any exponent: below 0 that of the inverse. -/
def pz (a : Nat) (n : Int) : Nat := if n < 0 then pw (inv a) (-n).toNat else pw a n.toNat
theorem pz_256 (a : Nat) (n : Int) : pz a n < 256 := by unfold pz; split <;> exact pw_256 _
theorem pz_mod (a : Nat) (n : Int) (ha : a < 256) (h : a ≠ 0) : pz a n = pw a (n % 255).toNat := by
  unfold pz
  split
  · rw [inv, ← pw_mul _ _ _ ha, pw_mod a 255 _ ha (pw_255 a ha h)]
    congr 1; omega
  · rw [pw_mod a 255 _ ha (pw_255 a ha h)]
    congr 1; omega
theorem pz_add (a : Nat) (m n : Int) (ha : a < 256) (h : a ≠ 0) : tm (pz a m) (pz a n) = pz a (m + n) := by
  rw [pz_mod a m ha h, pz_mod a n ha h, pz_mod a (m + n) ha h, ← pw_add _ _ _ ha, pw_mod a 255 _ ha (pw_255 a ha h)]
  congr 1; omega
theorem pz_ord (a o : Nat) (n : Int) (ha : a < 256) (h : a ≠ 0) (ho : IsOrd a o) : pz a n = pz a (n.tmod o) := by
  have hd := ord_dvd a o ha h ho
  obtain ⟨h0, h1, h2, h3⟩ := ho
  rw [pz_mod a n ha h, pz_mod a _ ha h, pw_mod a o _ ha h2, pw_mod a o (n.tmod o % 255).toNat ha h2]
  congr 1
  have hdv : (o : Int) ∣ 255 := Int.ofNat_dvd.2 (Nat.dvd_of_mod_eq_zero hd)
  apply Int.ofNat_inj.1
  rw [Int.natCast_emod, Int.natCast_emod, Int.toNat_of_nonneg (by omega), Int.toNat_of_nonneg (by omega), Int.emod_emod_of_dvd _ hdv, Int.emod_emod_of_dvd _ hdv]
  rw [Int.tmod_def, Int.sub_emod, Int.mul_emod_right]
  simp
theorem pz_zero_zero (a : Nat) : pz a 0 = 1 := rfl
theorem pz_of_zero (n : Int) (h : n ≠ 0) : pz 0 n = 0 := by
  unfold pz
  split
  · rw [inv_zero]
    obtain ⟨k, hk⟩ : ∃ k, (-n).toNat = k + 1 := ⟨(-n).toNat - 1, by omega⟩
    rw [hk]; exact pw_zero_succ k
  · obtain ⟨k, hk⟩ : ∃ k, n.toNat = k + 1 := ⟨n.toNat - 1, by omega⟩
    rw [hk]; exact pw_zero_succ k

/-- The polynomials' product, by the lowest k bits of b. -/
def rb (a b : Nat) : Nat → Nat
  | 0 => 0
  | k + 1 => rb a b k ^^^ (if b / 2 ^ k % 2 = 1 then a * 2 ^ k else 0)
/-- Its rest, by the k bits from the eighth on. -/
def rd (p : Nat) : Nat → Nat
  | 0 => p
  | k + 1 => rd (p ^^^ (if p / 2 ^ (k + 8) % 2 = 1 then 283 * 2 ^ k else 0)) k
theorem rb_right (a b c k : Nat) : rb a (b ^^^ c) k = rb a b k ^^^ rb a c k := by
  induction k with
  | zero => simp [rb]
  | succ k ih => simp only [rb]; rw [xor_div, ite_xor, ih, xor_swap]
theorem rd_xor (p q k : Nat) : rd (p ^^^ q) k = rd p k ^^^ rd q k := by
  induction k generalizing p q with
  | zero => rfl
  | succ k ih => simp only [rd]; rw [xor_div, ite_xor, xor_swap, ih]
theorem ref_bit : ∀ k < 8, ∀ a < 256, rd (rb a (2 ^ k) 8) 7 = tm a (2 ^ k) := by decide +kernel
theorem ref_zero : ∀ a < 256, rd (rb a 0 8) 7 = 0 := by decide +kernel
theorem ref_tm (a b : Nat) (ha : a < 256) (hb : b < 256) : rd (rb a b 8) 7 = tm a b :=
  lin_ext (fun b => ∀ a < 256, rd (rb a b 8) 7 = tm a b) (fun a ha => by rw [ref_zero a ha, tm_zero])
    (fun x y _ _ hx hy a ha => by rw [rb_right, rd_xor, tm_right, hx a ha, hy a ha]) ref_bit b hb a ha
theorem rb_lt (a b k : Nat) (ha : a < 256) (hk : k ≤ 8) : rb a b k < 32768 := by
  induction k with
  | zero => exact (by decide : 0 < 32768)
  | succ k ih =>
    simp only [rb]
    refine Nat.xor_lt_two_pow (n := 15) (ih (by omega)) ?_
    split
    · have : 2 ^ k ≤ 2 ^ 7 := Nat.pow_le_pow_right (by omega) (by omega)
      calc a * 2 ^ k ≤ 255 * 2 ^ 7 := Nat.mul_le_mul (by omega) this
        _ < 2 ^ 15 := by decide
    · decide
theorem ex_times : tm 87 131 = 193 := by decide +kernel
theorem ex_inv : inv 83 = 202 := by decide +kernel
end Go.Proofs.YtagacpjeooaapaaGreatDoor

/-
  The three laws of layer 4 come to true, in whatever world; nothing is written. Conditions: elements are numbers below 256; exponents are ints.
-/
import Derived.Test.YtmeiegdcgplgdaaFieldRef
import Derived.Below
namespace Go.Proofs.Ytmeiegdcgplgdaa
open Go.RowKit

theorem fTimes_is (x y z : Int) (a b t : Nat) (w : World) (hx : x = a) (hy : y = b) (ha : a < 256) (hb : b < 256) (ht : tm a b = t) (hz : z = t) :
    Calls Try.prog 6 #[.int .u8 x, .int .u8 y] w fun e w' => e = .returned (.int .u8 z) ∧ w = w' := by
  subst hx; subst hy; subst ht; subst hz; exact fTimes_any a b w ha hb
theorem fInverse_is (x z : Int) (a t : Nat) (w : World) (hx : x = a) (ha : a < 256) (ht : inv a = t) (hz : z = t) :
    Calls Try.prog 9 #[.int .u8 x] w fun e w' => e = .returned (.int .u8 z) ∧ w = w' := by
  subst hx; subst ht; subst hz; exact fInverse_any a w ha
theorem fAdd_is (x y z : Int) (a b t : Nat) (w : World) (hx : x = a) (hy : y = b) (ha : a < 256) (hb : b < 256) (ht : a ^^^ b = t) (hz : z = t) :
    Calls Try.prog 8 #[.int .u8 x, .int .u8 y] w fun e w' => e = .returned (.int .u8 z) ∧ w = w' := by
  subst hx; subst hy; subst ht; subst hz; exact fAdd_any a b w ha hb
theorem fOrder_is (x z : Int) (a o : Nat) (w : World) (hx : x = a) (ha : a < 256) (h : a ≠ 0) (ho : IsOrd a o) (hz : z = o) :
    Calls Try.prog 11 #[.int .u8 x] w fun e w' => e = .returned (.int .i64 z) ∧ w = w' := by
  subst hx; subst hz; exact fOrder_any a o w ha h ho

set_option maxHeartbeats 400000 in
theorem alive_any (w : World) : Calls Try.prog 13 #[] w fun e w' => e = .returned (.bool true) ∧ w = w' := by
  go_enter Try.func13, Try.ntmps13
  go_wp2_with fail
  refine (fTimes_is _ _ 193 87 131 193 _ rfl rfl (by decide) (by decide) ex_times rfl).mono ?_; rintro e w' ⟨rfl, rfl⟩
  go_wp2_with fail
  refine (fInverse_is _ 202 83 202 _ rfl (by decide) ex_inv rfl).mono ?_; rintro e w' ⟨rfl, rfl⟩
  go_wp2_with fail
  refine (fOrder_is _ 255 3 255 _ rfl (by decide) (by decide) ord_three rfl).mono ?_; rintro e w' ⟨rfl, rfl⟩
  go_wp2_with fail
  refine (fAdd_is _ _ 3 5 6 3 _ rfl rfl (by decide) (by decide) (by decide) rfl).mono ?_; rintro e w' ⟨rfl, rfl⟩
  go_wp2
  go_ret
  exact ⟨rfl, rfl⟩

/-- The order, 0 of 0. -/
theorem order_both (a : Nat) (ha : a < 256) : ∃ o : Nat, ∀ w, (Calls Try.prog 11 #[.int .u8 (a : Int)] w fun e w' => e = .returned (.int .i64 (o : Int)) ∧ w = w') ∧
    (Calls Try.prog 12 #[.int .u8 (a : Int)] w fun e w' => e = .returned (.int .i64 (o : Int)) ∧ w = w') := by
  by_cases h : a = 0
  · subst h
    exact ⟨0, fun w => ⟨fOrder_zero w, rOrder_zero w⟩⟩
  · obtain ⟨o, ho⟩ := ord_ex a ha h
    exact ⟨o, fun w => ⟨fOrder_any a o w ha h ho, rOrder_any a o w ha ho⟩⟩

set_option maxHeartbeats 400000 in
theorem fieldTells_nat (a b : Nat) (w : World) (ha : a < 256) (hb : b < 256) :
    Calls Try.prog 3 #[.int .u8 (a : Int), .int .u8 (b : Int)] w fun e w' => e = .returned (.bool true) ∧ w = w' := by
  have hx := bits_xor8 a b ha hb
  obtain ⟨o, ho⟩ := order_both a ha
  have ho := Lib.hid ho
  go_enter Try.func3, Try.ntmps3
  go_wp2_with fail
  refine (fTimes_any a b _ ha hb).mono ?_; rintro e w' ⟨rfl, rfl⟩
  go_wp2_with fail
  refine (rTimes_any a b _ ha hb).mono ?_; rintro e w' ⟨rfl, rfl⟩
  go_wp2_with fail
  refine (fAdd_any a b _ ha hb).mono ?_; rintro e w' ⟨rfl, rfl⟩
  go_wp2_with fail
  refine (fInverse_any a _ ha).mono ?_; rintro e w' ⟨rfl, rfl⟩
  go_wp2_with fail
  refine (rInverse_any a _ ha).mono ?_; rintro e w' ⟨rfl, rfl⟩
  go_wp2_with fail
  refine (ho.out _).1.mono ?_; rintro e w' ⟨rfl, rfl⟩
  go_wp2_with fail
  refine (ho.out _).2.mono ?_; rintro e w' ⟨rfl, rfl⟩
  go_wp2_with fail
  refine (alive_any _).mono ?_; rintro e w' ⟨rfl, rfl⟩
  go_wp2
  go_ret
  exact ⟨rfl, rfl⟩

set_option maxHeartbeats 400000 in
theorem fieldLaws_nat (a b c : Nat) (w : World) (ha : a < 256) (hb : b < 256) (hc : c < 256) :
    Calls Try.prog 4 #[.int .u8 (a : Int), .int .u8 (b : Int), .int .u8 (c : Int)] w fun e w' => e = .returned (.bool true) ∧ w = w' := by
  obtain ⟨p, hp⟩ : ∃ p, tm a b = p := ⟨_, rfl⟩
  obtain ⟨q, hq⟩ : ∃ q, tm b c = q := ⟨_, rfl⟩
  obtain ⟨r, hr⟩ : ∃ r, tm a c = r := ⟨_, rfl⟩
  obtain ⟨x, hx⟩ : ∃ x, tm p c = x := ⟨_, rfl⟩
  obtain ⟨s, hs⟩ : ∃ s, b ^^^ c = s := ⟨_, rfl⟩
  obtain ⟨z, hz⟩ : ∃ z, p ^^^ r = z := ⟨_, rfl⟩
  have hpl : p < 256 := by rw [← hp]; exact tm_256 b ha
  have hql : q < 256 := by rw [← hq]; exact tm_256 c hb
  have hrl : r < 256 := by rw [← hr]; exact tm_256 c ha
  have hsl : s < 256 := by rw [← hs]; exact xor_256 hb hc
  have hy : tm a q = x := by rw [← hq, ← hx, ← hp, tm_assoc a b c ha hb hc]
  have hz2 : tm a s = z := by rw [← hs, tm_right, hp, hr, hz]
  have hp2 : tm b a = p := by rw [← hp, tm_comm a b ha hb]
  have h1 : tm a 1 = a := tm_one a ha
  have hzero : ((((x : Nat) : Int) == 0) = true ∧ (((a : Nat) : Int) == 0) = true) ∨ ((((x : Nat) : Int) == 0) = true ∧ (((a : Nat) : Int) == 0) = false ∧ (((b : Nat) : Int) == 0) = true)
      ∨ ((((x : Nat) : Int) == 0) = true ∧ (((a : Nat) : Int) == 0) = false ∧ (((b : Nat) : Int) == 0) = false ∧ (((c : Nat) : Int) == 0) = true)
      ∨ ((((x : Nat) : Int) == 0) = false ∧ (((a : Nat) : Int) == 0) = false ∧ (((b : Nat) : Int) == 0) = false ∧ (((c : Nat) : Int) == 0) = false) := by
    have h0 : x = 0 ↔ (a = 0 ∨ b = 0) ∨ c = 0 := by rw [← hx, tm_eq_zero p c hpl hc, ← hp, tm_eq_zero a b ha hb]
    have T : ∀ n : Nat, n = 0 → (((n : Nat) : Int) == 0) = true := fun n h => by subst h; rfl
    have F : ∀ n : Nat, n ≠ 0 → (((n : Nat) : Int) == 0) = false := fun n h => beq_false_of_ne (by omega)
    by_cases ea : a = 0
    · exact .inl ⟨T x (by omega), T a ea⟩
    · by_cases eb : b = 0
      · exact .inr (.inl ⟨T x (by omega), F a ea, T b eb⟩)
      · by_cases ec : c = 0
        · exact .inr (.inr (.inl ⟨T x (by omega), F a ea, F b eb, T c ec⟩))
        · exact .inr (.inr (.inr ⟨F x (by omega), F a ea, F b eb, F c ec⟩))
  have hp := Lib.hid hp
  have hq := Lib.hid hq
  have hr := Lib.hid hr
  have hx := Lib.hid hx
  have hs := Lib.hid hs
  have hz := Lib.hid hz
  have hpl := Lib.hid hpl
  have hql := Lib.hid hql
  have hrl := Lib.hid hrl
  have hsl := Lib.hid hsl
  have hy := Lib.hid hy
  have hz2 := Lib.hid hz2
  have hp2 := Lib.hid hp2
  have h1 := Lib.hid h1
  have hzero := Lib.hid hzero
  go_enter Try.func4, Try.ntmps4
  go_wp2_with fail
  refine (fTimes_is _ _ p a b p _ rfl rfl ha hb hp.out rfl).mono ?_; rintro e w' ⟨rfl, rfl⟩
  go_wp2_with fail
  refine (fTimes_is _ _ x p c x _ rfl rfl hpl.out hc hx.out rfl).mono ?_; rintro e w' ⟨rfl, rfl⟩
  go_wp2_with fail
  refine (fTimes_is _ _ q b c q _ rfl rfl hb hc hq.out rfl).mono ?_; rintro e w' ⟨rfl, rfl⟩
  go_wp2_with fail
  refine (fTimes_is _ _ x a q x _ rfl rfl ha hql.out hy.out rfl).mono ?_; rintro e w' ⟨rfl, rfl⟩
  go_wp2_with fail
  refine (fAdd_is _ _ s b c s _ rfl rfl hb hc hs.out rfl).mono ?_; rintro e w' ⟨rfl, rfl⟩
  go_wp2_with fail
  refine (fTimes_is _ _ z a s z _ rfl rfl ha hsl.out hz2.out rfl).mono ?_; rintro e w' ⟨rfl, rfl⟩
  go_wp2_with fail
  refine (fTimes_is _ _ p a b p _ rfl rfl ha hb hp.out rfl).mono ?_; rintro e w' ⟨rfl, rfl⟩
  go_wp2_with fail
  refine (fTimes_is _ _ p b a p _ rfl rfl hb ha hp2.out rfl).mono ?_; rintro e w' ⟨rfl, rfl⟩
  go_wp2_with fail
  refine (fTimes_is _ _ p a b p _ rfl rfl ha hb hp.out rfl).mono ?_; rintro e w' ⟨rfl, rfl⟩
  go_wp2_with fail
  refine (fTimes_is _ _ r a c r _ rfl rfl ha hc hr.out rfl).mono ?_; rintro e w' ⟨rfl, rfl⟩
  go_wp2_with fail
  refine (fAdd_is _ _ z p r z _ rfl rfl hpl.out hrl.out hz.out rfl).mono ?_; rintro e w' ⟨rfl, rfl⟩
  rcases hzero.out with ⟨g1, g2⟩ | ⟨g1, g2, g3⟩ | ⟨g1, g2, g3, g4⟩ | ⟨g1, g2, g3, g4⟩
  all_goals
    go_wp2_with fail
    refine (fTimes_is _ _ a a 1 a _ rfl rfl ha (by decide) h1.out rfl).mono ?_; rintro e w' ⟨rfl, rfl⟩
    go_wp2_with fail
    refine (alive_any _).mono ?_; rintro e w' ⟨rfl, rfl⟩
    go_wp2
    go_ret
    exact ⟨rfl, rfl⟩

theorem fPower_is (x z : Int) (a t : Nat) (n : Int) (w : World) (hx : x = a) (ha : a < 256) (h0 : -9223372036854775808 ≤ n) (h1 : n < 9223372036854775808) (ht : pz a n = t) (hz : z = t) :
    Calls Try.prog 14 #[.int .u8 x, .int .i64 n] w fun e w' => e = .returned (.int .u8 z) ∧ w = w' := by
  subst hx; subst ht; subst hz; exact fPower_any a n w ha h0 h1
theorem rPower_is (x z : Int) (a t : Nat) (n : Int) (w : World) (hx : x = a) (ha : a < 256) (h0 : -1000 ≤ n) (h1 : n ≤ 1000) (ht : pz a n = t) (hz : z = t) :
    Calls Try.prog 15 #[.int .u8 x, .int .i64 n] w fun e w' => e = .returned (.int .u8 z) ∧ w = w' := by
  subst hx; subst ht; subst hz; exact rPower_any a n w ha h0 h1

theorem tmod_500 (n : Int) : -500 < n.tmod 500 ∧ n.tmod 500 < 500 := by
  have h := Int.tmod_eq_emod (a := n) (b := 500)
  split at h <;> omega

set_option maxHeartbeats 400000 in
theorem fieldPowers_zero (n m : Int) (w : World) (n0 : -9223372036854775808 ≤ n) (n1 : n ≤ 9223372036854775807) :
    Calls Try.prog 5 #[.int .u8 0, .int .i64 n, .int .i64 m] w fun e w' => e = .returned (.bool true) ∧ w = w' := by
  obtain ⟨f, hf⟩ : ∃ f, n.tmod 500 = f := ⟨_, rfl⟩
  obtain ⟨g, hg⟩ : ∃ g, m.tmod 500 = g := ⟨_, rfl⟩
  have hfr := tmod_500 n
  have hgr := tmod_500 m
  rw [hf] at hfr
  rw [hg] at hgr
  obtain ⟨f0, f1⟩ := hfr
  obtain ⟨g0, g1⟩ := hgr
  obtain ⟨x, hx⟩ : ∃ x, pz 0 f = x := ⟨_, rfl⟩
  obtain ⟨y, hy⟩ : ∃ y, pz 0 g = y := ⟨_, rfl⟩
  have hx := Lib.hid hx
  have hy := Lib.hid hy
  go_enter Try.func5, Try.ntmps5
  go_wp2_with fail
  refine (fPower_is _ x 0 x f _ rfl (by decide) (by omega) (by omega) hx.out rfl).mono ?_; rintro e w' ⟨rfl, rfl⟩
  go_wp2_with fail
  refine (fPower_is _ y 0 y g _ rfl (by decide) (by omega) (by omega) hy.out rfl).mono ?_; rintro e w' ⟨rfl, rfl⟩
  go_wp2_with fail
  refine (rPower_is _ x 0 x f _ rfl (by decide) (by omega) (by omega) hx.out rfl).mono ?_; rintro e w' ⟨rfl, rfl⟩
  go_wp2_with fail
  refine (rPower_is _ y 0 y g _ rfl (by decide) (by omega) (by omega) hy.out rfl).mono ?_; rintro e w' ⟨rfl, rfl⟩
  by_cases hn : n = 0
  · subst hn
    go_wp2_with fail
    refine (fPower_is _ 1 0 1 0 _ rfl (by decide) (by omega) (by omega) rfl rfl).mono ?_; rintro e w' ⟨rfl, rfl⟩
    go_wp2_with fail
    refine (alive_any _).mono ?_; rintro e w' ⟨rfl, rfl⟩
    go_wp2
    go_ret
    exact ⟨rfl, rfl⟩
  · have hnb : (n == 0) = false := beq_false_of_ne hn
    go_wp2_with fail
    refine (fPower_is _ 0 0 0 n _ rfl (by decide) (by omega) (by omega) (pz_of_zero n hn) rfl).mono ?_; rintro e w' ⟨rfl, rfl⟩
    go_wp2_with fail
    refine (fPower_is _ 1 0 1 0 _ rfl (by decide) (by omega) (by omega) rfl rfl).mono ?_; rintro e w' ⟨rfl, rfl⟩
    go_wp2_with fail
    refine (alive_any _).mono ?_; rintro e w' ⟨rfl, rfl⟩
    go_wp2
    go_ret
    exact ⟨rfl, rfl⟩
end Go.Proofs.Ytmeiegdcgplgdaa

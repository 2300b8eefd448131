/-
  The three laws of layer 4, over numbers of Go's kinds: each comes to true, in whatever world; nothing is written. Conditions: each number is one of its kind.
-/
import Derived.Test.YtmeiegdcgplgdaaFieldLaw
import Derived.StillTailTactics
namespace Go.Proofs.Ytmeiegdcgplgdaa
open Go.RowKit

set_option maxHeartbeats 3200000 in
theorem fieldPowers_some (a : Nat) (n m : Int) (w : World) (ha : a < 256) (hne : a ≠ 0) (n0 : -9223372036854775808 ≤ n) (n1 : n ≤ 9223372036854775807) :
    Calls Try.prog 5 #[.int .u8 (a : Int), .int .i64 n, .int .i64 m] w fun e w' => e = .returned (.bool true) ∧ Below w.heap.size w w' := by
  obtain ⟨f, hf⟩ : ∃ f, n.tmod 500 = f := ⟨_, rfl⟩
  obtain ⟨g, hg⟩ : ∃ g, m.tmod 500 = g := ⟨_, rfl⟩
  have hfr := tmod_500 n
  have hgr := tmod_500 m
  rw [hf] at hfr
  rw [hg] at hgr
  obtain ⟨f0, f1⟩ := hfr
  obtain ⟨g0, g1⟩ := hgr
  obtain ⟨o, ho⟩ := ord_ex a ha hne
  obtain ⟨x, hx⟩ : ∃ x, pz a f = x := ⟨_, rfl⟩
  obtain ⟨y, hy⟩ : ∃ y, pz a g = y := ⟨_, rfl⟩
  obtain ⟨z, hz⟩ : ∃ z, tm x y = z := ⟨_, rfl⟩
  obtain ⟨v, hv⟩ : ∃ v, pz a n = v := ⟨_, rfl⟩
  obtain ⟨i, hi⟩ : ∃ i, inv a = i := ⟨_, rfl⟩
  have hxl : x < 256 := by rw [← hx]; exact pz_256 a f
  have hyl : y < 256 := by rw [← hy]; exact pz_256 a g
  have hil : i < 256 := by rw [← hi]; exact inv_256 a
  have hzz : pz a (f + g) = z := by rw [← hz, ← hx, ← hy, pz_add a f g ha hne]
  have hvo : pz a (n.tmod o) = v := by rw [← hv, ← pz_ord a o n ha hne ho]
  have h1 : tm a i = 1 := by rw [← hi]; exact tm_inv a ha hne
  have hd : (255 : Int).tmod o = 0 := by
    have := ord_dvd a o ha hne ho
    show ((255 % o : Nat) : Int) = 0
    rw [this]; rfl
  have hob : 0 < (o : Int) := by have := ho.1; omega
  have hob2 : 0 < o := ho.1
  have hoz : ¬ o = 0 := by omega
  have hnr : -9223372036854775808 ≤ n.tmod o ∧ n.tmod o < 9223372036854775808 := by
    have h := Int.tmod_eq_emod (a := n) (b := o)
    have h2 := Int.emod_nonneg n (b := o) (by omega)
    have h3 := Int.emod_lt_of_pos n hob
    have h4 := ho.2.1
    split at h <;> omega
  have hza : ((a : Int) == 0) = false := beq_false_of_ne (by omega)
  have cOrd := Lib.hid (fun w => fOrder_is _ o a o w rfl ha hne ho rfl)
  have cX := Lib.hid (fun w => fPower_is _ x a x f w rfl ha (by omega) (by omega) hx rfl)
  have cY := Lib.hid (fun w => fPower_is _ y a y g w rfl ha (by omega) (by omega) hy rfl)
  have rX := Lib.hid (fun w => rPower_is _ x a x f w rfl ha (by omega) (by omega) hx rfl)
  have rY := Lib.hid (fun w => rPower_is _ y a y g w rfl ha (by omega) (by omega) hy rfl)
  have cZ := Lib.hid (fun w => fTimes_is _ _ z x y z w rfl rfl hxl hyl hz rfl)
  have hwr : IntKind.i64.wrap (f + g) = f + g := by rw [IntKind.wrap_i64]; omega
  have cP := Lib.hid (show ∀ w, Calls Try.prog 14 #[.int .u8 (a : Int), .int .i64 (IntKind.i64.wrap (f + g))] w fun e w' => e = .returned (.int .u8 (z : Int)) ∧ w = w' from
    fun w => by rw [hwr]; exact fPower_is _ z a z (f + g) w rfl ha (by omega) (by omega) hzz rfl)
  have cV := Lib.hid (fun w => fPower_is _ v a v n w rfl ha (by omega) (by omega) hv rfl)
  have cO := Lib.hid (fun w => fPower_is _ v a v (n.tmod o) w rfl ha hnr.1 hnr.2 hvo rfl)
  have cI := Lib.hid (fun w => fInverse_is _ i a i w rfl ha hi rfl)
  have c1 := Lib.hid (fun w => fTimes_is _ _ 1 a i 1 w rfl rfl ha hil h1 rfl)
  have ho := Lib.hid ho
  clear hwr hx hy hz hv hi hxl hyl hil hzz hvo h1 hnr hne
  go_enter Try.func5, Try.ntmps5
  go_wp2_with fail
  refine (cX.out _).mono ?_; rintro e w' ⟨rfl, rfl⟩
  go_wp2_with fail
  refine (cY.out _).mono ?_; rintro e w' ⟨rfl, rfl⟩
  go_wp2_with fail
  refine (rX.out _).mono ?_; rintro e w' ⟨rfl, rfl⟩
  go_wp2_with fail
  refine (rY.out _).mono ?_; rintro e w' ⟨rfl, rfl⟩
  go_wp2_with fail
  refine (cOrd.out _).mono ?_; rintro e w' ⟨rfl, rfl⟩
  go_wp2_with fail
  refine wp_region_still_tail 39 (by kernel_rfl) (by decide +kernel) ?_
  simp only [List.take_succ_cons, List.take_zero, List.drop_succ_cons, List.drop_zero]
  repeat still_step
  still_call ((cZ.out _).mono fun _ _ h => ⟨h.1, h.2.symm⟩)
  repeat still_step
  still_call ((cP.out _).mono fun _ _ h => ⟨h.1, h.2.symm⟩)
  repeat still_step
  still_call ((cV.out _).mono fun _ _ h => ⟨h.1, h.2.symm⟩)
  repeat still_step
  still_call ((cO.out _).mono fun _ _ h => ⟨h.1, h.2.symm⟩)
  repeat still_step
  still_call ((cI.out _).mono fun _ _ h => ⟨h.1, h.2.symm⟩)
  repeat still_step
  still_call ((c1.out _).mono fun _ _ h => ⟨h.1, h.2.symm⟩)
  repeat still_step
  still_call ((alive_any _).mono fun _ _ h => ⟨h.1, h.2.symm⟩)
  repeat still_step
  refine wpStill_nil ?_
  change wpList _ _ _ _ _ w.drew
  go_wp2
  go_ret
  exact ⟨rfl, (Below.refl _ _).drew⟩

theorem wf_i64 {a : Int} (h : (Lit.int .i64 a).wf = true) : -9223372036854775808 ≤ a ∧ a ≤ 9223372036854775807 := by
  simp only [Lit.wf, Bool.and_eq_true, decide_eq_true_eq] at h
  have h1 : IntKind.i64.min = -9223372036854775808 := rfl
  have h2 : IntKind.i64.max = 9223372036854775807 := rfl
  omega
theorem wf_u8 {a : Int} (h : (Lit.int .u8 a).wf = true) : ∃ n : Nat, a = n ∧ n < 256 := by
  simp only [Lit.wf, Bool.and_eq_true, decide_eq_true_eq] at h
  have h1 : IntKind.u8.min = 0 := rfl
  have h2 : IntKind.u8.max = 255 := rfl
  exact ⟨a.toNat, by omega, by omega⟩

theorem law_FieldTells (a b : Int) (w : World) (ha : (Lit.int .u8 a).wf = true) (hb : (Lit.int .u8 b).wf = true) :
    Calls Try.prog 3 #[.int .u8 a, .int .u8 b] w fun e w' => e = .returned (.bool true) ∧ Below w.heap.size w w' := by
  obtain ⟨m, rfl, hm⟩ := wf_u8 ha
  obtain ⟨n, rfl, hn⟩ := wf_u8 hb
  refine (fieldTells_nat m n w hm hn).mono ?_
  rintro e w' ⟨rfl, rfl⟩
  exact ⟨rfl, Below.refl _ _⟩

theorem law_FieldLaws (a b c : Int) (w : World) (ha : (Lit.int .u8 a).wf = true) (hb : (Lit.int .u8 b).wf = true) (hc : (Lit.int .u8 c).wf = true) :
    Calls Try.prog 4 #[.int .u8 a, .int .u8 b, .int .u8 c] w fun e w' => e = .returned (.bool true) ∧ Below w.heap.size w w' := by
  obtain ⟨m, rfl, hm⟩ := wf_u8 ha
  obtain ⟨n, rfl, hn⟩ := wf_u8 hb
  obtain ⟨k, rfl, hk⟩ := wf_u8 hc
  refine (fieldLaws_nat m n k w hm hn hk).mono ?_
  rintro e w' ⟨rfl, rfl⟩
  exact ⟨rfl, Below.refl _ _⟩

theorem law_FieldPowers (a n m : Int) (w : World) (ha : (Lit.int .u8 a).wf = true) (hn : (Lit.int .i64 n).wf = true) (_ : (Lit.int .i64 m).wf = true) :
    Calls Try.prog 5 #[.int .u8 a, .int .i64 n, .int .i64 m] w fun e w' => e = .returned (.bool true) ∧ Below w.heap.size w w' := by
  obtain ⟨k, rfl, hk⟩ := wf_u8 ha
  obtain ⟨n0, n1⟩ := wf_i64 hn
  by_cases hz : k = 0
  · subst hz
    refine (fieldPowers_zero n m w n0 n1).mono ?_
    rintro e w' ⟨rfl, rfl⟩
    exact ⟨rfl, Below.refl _ _⟩
  · exact fieldPowers_some k n m w hk hz n0 n1
end Go.Proofs.Ytmeiegdcgplgdaa

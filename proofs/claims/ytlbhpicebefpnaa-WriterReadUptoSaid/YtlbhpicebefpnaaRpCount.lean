/-
  What the program's Count comes to. New memory and the reader alone are written. Conditions: those of a reader in memory; the greatest count is an int.
-/
import Derived.Test.YtlbhpicebefpnaaRpNum
namespace Go.Proofs.Ytlbhpicebefpnaa
open Go.RowKit

set_option maxRecDepth 100000 in
set_option maxHeartbeats 800000 in
theorem pCount_neg {F : Nat → Prop} {w : World} {g : Nat} {xs : List Int} {p : Nat} {e : Int} (A M v : Int) (hM : ¬ 0 ≤ M)
    (hc : Calls Try.prog 20 #[.pointer (some ⟨g, 0, none⟩), .int .i64 A] w fun r w' => r = .returned (.int .u64 v) ∧ RdAt F w' g xs p e ∧ Moved F w w') :
    Calls Try.prog 23 #[.pointer (some ⟨g, 0, none⟩), .int .i64 A, .int .i64 M] w fun r w' => r = .returned (.int .i64 0) ∧ RdAt F w' g xs p (if e = 0 then 4 else e) ∧ Moved F w w' := by
  by_cases he : e = 0
  · subst he
    rw [if_pos rfl]
    have hcH := Lib.hid hc
    clear hc
    go_enter Try.func23, Try.ntmps23
    go_wp2_with fail
    refine hcH.out.mono ?_
    rintro r w1 ⟨rfl, hR, hM1⟩
    clear hcH
    have hc := pReads_any hR
    rw [show decide ((0 : Int) = 0) = true from rfl] at hc
    obtain ⟨a, n, c, fv, t, hb, hi, hf, hx⟩ := hR.is
    obtain ⟨c0, c1, c2, c3, c4⟩ := rdCells hb
    have z3 := hb.frozen 3
    have hbH := Lib.hid hb
    clear hb
    go_wp2_with fail
    refine hc.mono ?_
    rintro r w2 ⟨rfl, rfl⟩
    go_wp2
    go_ret
    have k1 := hbH.out.set 3 (.iface 79 (.agg #[.string { data := #[97, 32, 99, 111, 117, 110, 116] }, .int .i64 4]))
    have g1 := grown_setCell w1 g 3 (.iface 79 (.agg #[.string { data := #[97, 32, 99, 111, 117, 110, 116] }, .int .i64 4]))
    exact ⟨rfl, hR.write hi hx g1 k1 (.inr ⟨by decide, _, rfl, .inr (.inr (.inl rfl))⟩) hR.within, hM1.then (moved_set hR.own g1)⟩
  · rw [if_neg he]
    have hcH := Lib.hid hc
    clear hc
    go_enter Try.func23, Try.ntmps23
    go_wp2_with fail
    refine hcH.out.mono ?_
    rintro r w1 ⟨rfl, hR, hM1⟩
    clear hcH
    have hc := pReads_any hR
    rw [show decide (e = 0) = false from decide_eq_false he] at hc
    go_wp2_with fail
    refine hc.mono ?_
    rintro r w2 ⟨rfl, rfl⟩
    go_wp2
    go_ret
    exact ⟨rfl, hR, hM1⟩

set_option maxRecDepth 100000 in
set_option maxHeartbeats 800000 in
theorem pCount_ok {F : Nat → Prop} {w : World} {g : Nat} {xs : List Int} {p : Nat} {e : Int} (A M v : Int) (hM0 : 0 ≤ M) (hM9 : M < 9223372036854775808) (h0 : 0 ≤ v) (hv : v ≤ M)
    (hc : Calls Try.prog 20 #[.pointer (some ⟨g, 0, none⟩), .int .i64 A] w fun r w' => r = .returned (.int .u64 v) ∧ RdAt F w' g xs p e ∧ Moved F w w') :
    Calls Try.prog 23 #[.pointer (some ⟨g, 0, none⟩), .int .i64 A, .int .i64 M] w fun r w' => r = .returned (.int .i64 v) ∧ RdAt F w' g xs p e ∧ Moved F w w' := by
  have u1 : IntKind.u64.wrap M = M := by rw [IntKind.wrap_u64]; omega
  have u2H := Lib.hid (show wrap64 v = v by unfold wrap64; omega)
  clear hM9
  have hcH := Lib.hid hc
  clear hc
  go_enter Try.func23, Try.ntmps23
  go_wp2_with fail
  refine hcH.out.mono ?_
  rintro r w1 ⟨rfl, hR, hM1⟩
  clear hcH
  go_wp2
  go_ret
  exact ⟨show Ending.returned (.int .i64 (wrap64 v)) = .returned (.int .i64 v) by rw [u2H.out], hR, hM1⟩

set_option maxRecDepth 100000 in
set_option maxHeartbeats 800000 in
theorem pCount_form {F : Nat → Prop} {w : World} {g : Nat} {xs : List Int} {p : Nat} (A M v : Int) (hM0 : 0 ≤ M) (hM9 : M < 9223372036854775808) (hv : ¬ v ≤ M)
    (hc : Calls Try.prog 20 #[.pointer (some ⟨g, 0, none⟩), .int .i64 A] w fun r w' => r = .returned (.int .u64 v) ∧ RdAt F w' g xs p 0 ∧ Moved F w w') :
    Calls Try.prog 23 #[.pointer (some ⟨g, 0, none⟩), .int .i64 A, .int .i64 M] w fun r w' => r = .returned (.int .i64 0) ∧ RdAt F w' g xs p 4 ∧ Moved F w w' := by
  have u1 : IntKind.u64.wrap M = M := by rw [IntKind.wrap_u64]; omega
  clear hM9
  have hcH := Lib.hid hc
  clear hc
  go_enter Try.func23, Try.ntmps23
  go_wp2_with fail
  refine hcH.out.mono ?_
  rintro r w1 ⟨rfl, hR, hM1⟩
  clear hcH
  have hc := pReads_any hR
  rw [show decide ((0 : Int) = 0) = true from rfl] at hc
  obtain ⟨a, n, c, fv, t, hb, hi, hf, hx⟩ := hR.is
  obtain ⟨c0, c1, c2, c3, c4⟩ := rdCells hb
  have z3 := hb.frozen 3
  have hbH := Lib.hid hb
  clear hb
  go_wp2_with fail
  refine hc.mono ?_
  rintro r w2 ⟨rfl, rfl⟩
  go_wp2
  go_ret
  have k1 := hbH.out.set 3 (.iface 79 (.agg #[.string { data := #[97, 32, 99, 111, 117, 110, 116] }, .int .i64 4]))
  have g1 := grown_setCell w1 g 3 (.iface 79 (.agg #[.string { data := #[97, 32, 99, 111, 117, 110, 116] }, .int .i64 4]))
  exact ⟨rfl, hR.write hi hx g1 k1 (.inr ⟨by decide, _, rfl, .inr (.inr (.inl rfl))⟩) hR.within, hM1.then (moved_set hR.own g1)⟩

theorem rdNum_bad (xs : List Int) (p : Nat) (e A : Int) (h : (rdNum xs p e A).2.1 ≠ 0) : (rdNum xs p e A).2.2 = 0 := by
  unfold rdNum at h ⊢
  by_cases hA : A < 1 ∨ 8 < A
  · rw [if_pos hA]
  · rw [if_neg hA] at h ⊢
    have hk : (rdStep xs.length p e A).2.2 = 0 := by
      unfold rdStep at h ⊢
      split
      · rfl
      split
      · rfl
      split
      · rfl
      · rename_i h1 h2 h3
        rw [if_neg h1, if_neg h2, if_neg h3] at h
        exact absurd rfl h
    show be (rdBytes xs p e A) = 0
    unfold rdBytes
    rw [hk]
    rfl

theorem pCount_any {F : Nat → Prop} {w : World} {g : Nat} {xs : List Int} {p : Nat} {e : Int} (A M : Int) (hM9 : M < 9223372036854775808) (h : RdAt F w g xs p e) :
    Calls Try.prog 23 #[.pointer (some ⟨g, 0, none⟩), .int .i64 A, .int .i64 M] w fun r w' => r = .returned (.int .i64 (rdCount xs p e A M).2.2) ∧ RdAt F w' g xs (rdCount xs p e A M).1 (rdCount xs p e A M).2.1 ∧ Moved F w w' := by
  have hc := pNum_any A h
  have hv := rdNum_val h.range e A h.within
  have hbad := rdNum_bad xs p e A
  unfold rdCount
  generalize rdNum xs p e A = q at *
  obtain ⟨p', e', v⟩ := q
  dsimp only at hc hv hbad ⊢
  by_cases hM : 0 ≤ M
  · by_cases hle : v ≤ M
    · have := pCount_ok A M v hM hM9 hv.1 hle hc
      by_cases he : e' ≠ 0
      · rw [if_pos he]
        have hv0 := hbad he
        rw [hv0] at this
        exact this
      · rw [if_neg he, if_neg (by omega)]
        obtain rfl : e' = 0 := by omega
        exact this
    · have he : ¬ e' ≠ 0 := fun he => by have := hbad he; omega
      rw [if_neg he, if_pos (by omega)]
      obtain rfl : e' = 0 := by omega
      exact pCount_form A M v hM hM9 hle hc
  · have := pCount_neg A M v hM hc
    by_cases he : e' ≠ 0
    · rw [if_pos he]
      rw [if_neg he] at this
      exact this
    · rw [if_neg he, if_pos (by omega)]
      rw [if_pos (by omega)] at this
      exact this
end Go.Proofs.Ytlbhpicebefpnaa

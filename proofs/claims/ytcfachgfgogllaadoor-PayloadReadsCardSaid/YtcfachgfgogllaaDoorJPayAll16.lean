/-
  Texts of stages that were proved on their own, joined: PpSize. Each begins with its own words.
-/
import Derived.Test.YtcfachgfgogllaaDoorJPayAll5
import Derived.Test.YtcfachgfgogllaaDoorJPayAll15
import Derived.Test.YtcfachgfgogllaaDoorJPayAll14

/-
  What package payload's size comes to: a count, and a fault where there is none, too many, or no byte. New memory and the reader alone are written. Conditions: those of a reader in memory.
-/
namespace Go.Proofs.YtcfachgfgogllaaDoor
open Go.RowKit

/-- Place, fault and number behind size(r, M), where there is no fault ahead. -/
def szR (xs : List Int) (p : Nat) (M : Int) : Nat × Int × Int :=
  if (rdCount xs p 0 1 M).2.2 = 0 then ((rdCount xs p 0 1 M).1, badOf (rdCount xs p 0 1 M).2.1 4, 0) else rdCount xs p 0 1 M
theorem rdNum_one {xs : List Int} {p : Nat} (h : p < xs.length) : rdNum xs p 0 1 = (p + 1, 0, xs.getD p 0) := by
  unfold rdNum rdBytes rdStep
  rw [if_neg (by decide), if_neg (by decide), if_neg (by decide), if_neg (by omega)]
  have e : (xs.drop p).take 1 = [xs.getD p 0] := by
    rw [List.drop_eq_getElem_cons h, List.take_succ_cons, List.take_zero, List.getD_eq_getElem?_getD, List.getElem?_eq_getElem h]
    rfl
  show (p + 1, 0, be ((xs.drop p).take 1)) = _
  rw [e]
  show (p + 1, 0, 256 * 0 + xs.getD p 0) = _
  rw [Int.mul_zero, Int.zero_add]
theorem rdNum_none {xs : List Int} {p : Nat} (h : xs.length ≤ p) : rdNum xs p 0 1 = (p, 2, 0) := by
  unfold rdNum rdBytes rdStep
  rw [if_neg (by decide), if_neg (by decide), if_neg (by decide), if_pos (by omega)]
  rfl
theorem rdCount_one {xs : List Int} {p : Nat} (M : Int) (h : p < xs.length) : rdCount xs p 0 1 M = if M < 0 ∨ M < xs.getD p 0 then (p + 1, 4, 0) else (p + 1, 0, xs.getD p 0) := by
  unfold rdCount
  rw [rdNum_one h]
  show (if (0 : Int) ≠ 0 then _ else _) = _
  rw [if_neg (by decide)]
theorem rdCount_none {xs : List Int} {p : Nat} (M : Int) (h : xs.length ≤ p) : rdCount xs p 0 1 M = (p, 2, 0) := by
  unfold rdCount
  rw [rdNum_none h]
  show (if (2 : Int) ≠ 0 then _ else _) = _
  rw [if_pos (by decide)]
theorem szR_short {xs : List Int} {p : Nat} (M : Int) (h : xs.length ≤ p) : szR xs p M = (p, 2, 0) := by
  unfold szR
  rw [rdCount_none M h]
  rfl
theorem szR_bad {xs : List Int} {p : Nat} {M : Int} (h : p < xs.length) (hM : 0 ≤ M) (h0 : 0 ≤ xs.getD p 0) (hb : xs.getD p 0 < 1 ∨ M < xs.getD p 0) : szR xs p M = (p + 1, 4, 0) := by
  by_cases h1 : M < xs.getD p 0
  · have e : rdCount xs p 0 1 M = (p + 1, 4, 0) := by rw [rdCount_one M h, if_pos (Or.inr h1)]
    unfold szR
    rw [e]
    rfl
  · have hz : xs.getD p 0 = 0 := by omega
    have hn : ¬ (M < 0 ∨ M < (0 : Int)) := by omega
    have e : rdCount xs p 0 1 M = (p + 1, 0, 0) := by rw [rdCount_one M h, hz, if_neg hn]
    unfold szR
    rw [e]
    rfl
theorem szR_ok {xs : List Int} {p : Nat} {M : Int} (h : p < xs.length) (hM : 0 ≤ M) (h1 : 1 ≤ xs.getD p 0) (h2 : xs.getD p 0 ≤ M) : szR xs p M = (p + 1, 0, xs.getD p 0) := by
  have e : rdCount xs p 0 1 M = (p + 1, 0, xs.getD p 0) := by
    rw [rdCount_one M h, if_neg (by omega)]
  unfold szR
  rw [e, if_neg (by show ¬ xs.getD p 0 = 0; omega)]

set_option maxRecDepth 100000 in
set_option maxHeartbeats 800000 in
theorem ppSize_any {F : Nat → Prop} {w : World} {g : Nat} {xs : List Int} {p : Nat} (M : Int) (hM : M < 9223372036854775808) (h : RdAt F w g xs p 0) :
    Calls Tryd.prog 30 #[.pointer (some ⟨g, 0, none⟩), .int .i64 M] w fun r w' => r = .returned (.int .i64 (szR xs p M).2.2) ∧ RdAt F w' g xs (szR xs p M).1 (szR xs p M).2.1 ∧ Moved F w w' := by
  have hc := pCount_any 1 M hM h
  unfold szR
  obtain ⟨Q, hQ⟩ : ∃ Q, rdCount xs p 0 1 M = Q := ⟨_, rfl⟩
  rw [hQ] at hc ⊢
  obtain ⟨q, e, n⟩ := Q
  dsimp only at hc ⊢
  have hcH := Lib.hid hc
  clear hc hQ h hM
  by_cases h0 : n = 0
  · subst h0
    rw [if_pos rfl]
    dsimp only
    go_enter Tryd.func30, Tryd.ntmps30
    go_wp2_with fail
    refine hcH.out.mono ?_
    rintro r w1 ⟨rfl, hR, hm⟩
    go_wp2_with fail
    refine (pFail_any 4 hR).mono ?_
    rintro r w2 ⟨rfl, hR2, hm2⟩
    go_wp2
    go_ret
    exact ⟨rfl, hR2, hm.then hm2⟩
  · rw [if_neg h0]
    have hn0 : (n == 0) = false := beq_false_of_ne h0
    clear h0
    go_enter Tryd.func30, Tryd.ntmps30
    go_wp2_with fail
    refine hcH.out.mono ?_
    rintro r w1 ⟨rfl, hR, hm⟩
    go_wp2
    go_ret
    exact ⟨rfl, hR, hm⟩
end Go.Proofs.YtcfachgfgogllaaDoor

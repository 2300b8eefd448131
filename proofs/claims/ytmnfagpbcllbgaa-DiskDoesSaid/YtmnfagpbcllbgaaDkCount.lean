/-
  What the landed disk's spare, count, Arm, New and modulo come to. The disk's own block alone is written. Conditions: a disk that New made; needs of at most 65536 bytes a file.
-/
import Derived.Test.YtmnfagpbcllbgaaDkUsed
namespace Go.Proofs.Ytmnfagpbcllbgaa
open Go.RowKit

set_option maxRecDepth 100000 in
set_option maxHeartbeats 800000 in
theorem dSpare_any {w : World} {g o : Nat} {r : Int} {n0 n1 n2 n m : Nat} {a : Option Addr} {c : Nat} (c0 : w.cell? ⟨g, 0, none⟩ = some (.int .i64 r)) (hr : 0 < r ∧ r ≤ 65536) (a0 : w.cell? ⟨g, 6, none⟩ = some (.int .i64 (n0 : Int))) (a1 : w.cell? ⟨g, 11, none⟩ = some (.int .i64 (n1 : Int))) (a2 : w.cell? ⟨g, 16, none⟩ = some (.int .i64 (n2 : Int))) (h0 : n0 ≤ 65536) (h1 : n1 ≤ 65536) (h2 : n2 ≤ 65536)
    (b2 : w.cell? ⟨g, o + 2, none⟩ = some (.slice a m c)) (b3 : w.cell? ⟨g, o + 3, none⟩ = some (.int .i64 (n : Int))) (hn : n ≤ 65536) (hm : m ≤ 65536) :
    Calls Try.prog 40 #[.pointer (some ⟨g, 0, none⟩), .pointer (some ⟨g, o, none⟩)] w fun q w' => q = .returned (.int .i64 ((n : Int) - m + r - ((n0 + n1 + n2 : Nat) : Int))) ∧ ∃ k, w' = w.drewN k := by
  have hU : ∀ k, Calls Try.prog 13 #[.pointer (some ⟨g, 0, none⟩)] (w.drewN k) fun q w' => q = .returned (.int .i64 ((n0 + n1 + n2 : Nat) : Int)) ∧ w' = w.drewN k := fun k => dUsed_any (w := w.drewN k) c0 hr.1 a0 a1 a2 h0 h1 h2
  obtain ⟨U, hUU⟩ : ∃ U : Nat, n0 + n1 + n2 = U := ⟨_, rfl⟩
  rw [hUU] at hU ⊢
  have w1 : IntKind.i64.wrap ((n : Int) - m) = (n : Int) - m := by rw [IntKind.wrap_i64]; omega
  have w2 : IntKind.i64.wrap ((n : Int) - m + r) = (n : Int) - m + r := by rw [IntKind.wrap_i64]; omega
  have w3 : IntKind.i64.wrap ((n : Int) - m + r - (U : Int)) = (n : Int) - m + r - (U : Int) := by rw [IntKind.wrap_i64]; omega
  clear a0 a1 a2 hUU h0 h1 h2
  go_enter Try.func40, Try.ntmps40
  go_wp2
  go_quiet (refine Calls.quiet_of_same (hU _))
  go_wp2
  go_ret
  exact ⟨rfl, _, rfl⟩

set_option maxRecDepth 100000 in
set_option maxHeartbeats 800000 in
theorem dCount_any {w : World} {g : Nat} {f : Int} {t : TypeId} {cs : List Value} (hb : Blk w g t cs) (h1 : cs[1]? = some (.int .i64 f)) (h2 : ∃ d, cs[2]? = some (.bool d)) (hf : 0 ≤ f ∧ f < 9223372036854775808) :
    Calls Try.prog 42 #[.pointer (some ⟨g, 0, none⟩)] w fun q w' => q = .returned (.int .i64 (if f = 1 then 18 else 0)) ∧ Blk w' g t (if f = 0 then cs else if f = 1 then (cs.set 1 (.int .i64 (f - 1))).set 2 (.bool true) else cs.set 1 (.int .i64 (f - 1))) ∧ w.grownBy w' (some g) := by
  have c1 := hb.cell 1
  rw [h1] at c1
  have f1 := hb.frozen 1
  have g1 := grown_setCell w g 1 (.int .i64 (f - 1))
  have B1 := hb.set 1 (.int .i64 (f - 1))
  have l1 : 1 < cs.length := (List.getElem?_eq_some_iff.1 h1).1
  have d1 := B1.cell 1
  rw [List.getElem?_set_self l1] at d1
  obtain ⟨d, h2⟩ := h2
  have d2 := B1.cell 2
  rw [List.getElem?_set_ne (by decide), h2] at d2
  have f2 := B1.frozen 2
  have hw : wrap64 (f - 1) = f - 1 := by unfold wrap64; omega
  by_cases hf0 : f = 0
  · subst hf0
    rw [if_neg (by decide), if_pos rfl]
    go_enter Try.func42, Try.ntmps42
    go_wp2
    go_ret
    exact ⟨rfl, hb, grown_refl _ _⟩
  · by_cases hf1 : f = 1
    · rw [if_pos hf1, if_neg hf0, if_pos hf1]
      have hp : ¬ 0 < f - 1 := by omega
      have hp2 : f - 1 ≤ 0 := by omega
      have B2 := B1.set 2 (.bool true)
      have g2 := grown_trans g1 (grown_setCell _ g 2 (.bool true))
      clear hf1
      go_enter Try.func42, Try.ntmps42
      go_wp2
      go_ret
      exact ⟨rfl, B2, g2⟩
    · rw [if_neg hf1, if_neg hf0, if_neg hf1]
      have hp : 0 < f - 1 := by omega
      go_enter Try.func42, Try.ntmps42
      go_wp2
      go_ret
      exact ⟨rfl, B1, g1⟩

set_option maxRecDepth 100000 in
set_option maxHeartbeats 800000 in
theorem dArm_any {w : World} {g : Nat} {r n : Int} {t : TypeId} {cs : List Value} (hb : Blk w g t cs) (h0 : cs[0]? = some (.int .i64 r)) (h1 : ∃ f, cs[1]? = some (.int .i64 f)) (hr : 0 < r) :
    Calls Try.prog 22 #[.pointer (some ⟨g, 0, none⟩), .int .i64 n] w fun q w' => q = .returned (.tuple #[]) ∧ Blk w' g t (cs.set 1 (.int .i64 (max n 0))) ∧ w.grownBy w' (some g) := by
  have c0 := hb.cell 0
  rw [h0] at c0
  have hM := dMade_any c0 hr
  have f1 := hb.frozen 1
  obtain ⟨f, h1⟩ := h1
  have c1 := hb.cell 1
  rw [h1] at c1
  by_cases hn : 0 ≤ n
  · rw [show max n 0 = n by omega]
    have g1 := grown_setCell w g 1 (.int .i64 n)
    have B1 := hb.set 1 (.int .i64 n)
    go_enter Try.func22, Try.ntmps22
    go_wp2_with fail
    refine hM.mono ?_
    rintro q w1 ⟨rfl, rfl⟩
    go_wp2
    (try simp only [Exit.inBlock, Exit.then])
    first
      | go_end0
      | refine bodyPost_ret (results_none rfl _ _ _) rfl ?_
    exact ⟨rfl, B1, g1⟩
  · rw [show max n 0 = 0 by omega]
    have g1 := grown_setCell w g 1 (.int .i64 0)
    have B1 := hb.set 1 (.int .i64 0)
    go_enter Try.func22, Try.ntmps22
    go_wp2_with fail
    refine hM.mono ?_
    rintro q w1 ⟨rfl, rfl⟩
    go_wp2
    (try simp only [Exit.inBlock, Exit.then])
    first
      | go_end0
      | refine bodyPost_ret (results_none rfl _ _ _) rfl ?_
    exact ⟨rfl, B1, g1⟩

set_option maxRecDepth 100000 in
set_option maxHeartbeats 800000 in
theorem dModulo_any {w : World} (n : Int) (b : Nat) (h0 : 0 < b) (h1 : (b : Int) < 9223372036854775808) :
    Calls Try.prog 36 #[.int .i64 n, .int .i64 (b : Int)] w fun q w' => q = .returned (.int .i64 (n % (b : Int))) ∧ w' = w := by
  have hb0 : ¬ b = 0 := by omega
  have hM := Int.tmod_eq_emod (a := n) (b := (b : Int))
  have hl := Int.emod_lt_of_pos n (show (0 : Int) < b by omega)
  have hg := Int.emod_nonneg n (show (b : Int) ≠ 0 by omega)
  obtain ⟨M, hMM⟩ : ∃ M, n % (b : Int) = M := ⟨_, rfl⟩
  rw [hMM] at hl hg hM ⊢
  clear hMM
  split at hM
  · have hnn : ¬ n.tmod (b : Int) < 0 := by omega
    have he : n.tmod (b : Int) = M := by omega
    have heH := Lib.hid he
    clear hM he hl h1 hg
    go_enter Try.func36, Try.ntmps36
    go_wp2
    go_ret
    exact ⟨by rw [← heH.out]; rfl, rfl⟩
  · rw [Int.natAbs_natCast] at hM
    have hnn : n.tmod (b : Int) < 0 := by omega
    have hw : wrap64 (n.tmod (b : Int) + (b : Int)) = M := by unfold wrap64; omega
    clear hM hl h1 hg
    go_enter Try.func36, Try.ntmps36
    go_wp2
    go_ret
    exact ⟨by rw [← hw]; rfl, rfl⟩

set_option maxRecDepth 100000 in
set_option maxHeartbeats 800000 in
theorem dNew_no {w : World} (r : Int) (h : r < 1 ∨ 65536 < r) :
    Calls Try.prog 7 #[.int .i64 r] w fun q w' => q = .returned (.tuple #[.pointer none, .int .i64 1]) ∧ w' = w := by
  by_cases h0 : r < 1
  · go_enter Try.func7, Try.ntmps7
    go_wp2
    go_ret2
    exact ⟨rfl, rfl⟩
  · have h1 : 65536 < r := by omega
    go_enter Try.func7, Try.ntmps7
    go_wp2
    go_ret2
    exact ⟨rfl, rfl⟩
end Go.Proofs.Ytmnfagpbcllbgaa

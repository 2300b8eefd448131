/-
  What the landed disk's Used, spare, count and Arm come to. The disk's own block alone is written. Conditions: a disk that New made; needs of at most 65536 bytes a file.
-/
import Derived.Test.YtmnfagpbcllbgaaDkTell
namespace Go.Proofs.Ytmnfagpbcllbgaa
open Go.RowKit

set_option maxRecDepth 100000 in
set_option maxHeartbeats 800000 in
theorem dUsed_any {w : World} {g : Nat} {r : Int} {n0 n1 n2 : Nat} (c0 : w.cell? ⟨g, 0, none⟩ = some (.int .i64 r)) (hr : 0 < r) (a0 : w.cell? ⟨g, 6, none⟩ = some (.int .i64 (n0 : Int))) (a1 : w.cell? ⟨g, 11, none⟩ = some (.int .i64 (n1 : Int))) (a2 : w.cell? ⟨g, 16, none⟩ = some (.int .i64 (n2 : Int))) (h0 : n0 ≤ 65536) (h1 : n1 ≤ 65536) (h2 : n2 ≤ 65536) :
    Calls Try.prog 13 #[.pointer (some ⟨g, 0, none⟩)] w fun q w' => q = .returned (.int .i64 ((n0 + n1 + n2 : Nat) : Int)) ∧ w' = w := by
  have hM := dMade_any c0 hr
  go_enter Try.func13, Try.ntmps13
  go_wp2_with fail
  refine hM.mono ?_
  rintro q w1 ⟨rfl, rfl⟩
  go_wp2_with fail
  go_loopw [3, 8] (fun l i wr => ∃ j : Nat, j ≤ 3 ∧ i = .int .i64 j ∧ l = .int .i64 ((if j = 0 then 0 else if j = 1 then n0 else if j = 2 then n0 + n1 else n0 + n1 + n2 : Nat) : Int) ∧ wr = w) (fun _ i _ => 3 - (intOf i).toNat)
  case atStart => exact ⟨0, by omega, rfl, rfl, rfl⟩
  case round =>
    obtain ⟨j, hj, rfl, rfl, hwr⟩ := hrel
    have hwr' := hwr.symm
    subst hwr'
    match j, hj with
    | 0, _ =>
      go_wp2
      exact ⟨⟨1, by omega, rfl, by simp, by trivial⟩, by simp only [intOf]; omega⟩
    | 1, _ =>
      have hw : wrap64 ((n0 : Int) + n1) = ((n0 + n1 : Nat) : Int) := by unfold wrap64; omega
      go_wp2
      exact ⟨⟨2, by omega, rfl, by simp, by trivial⟩, by simp only [intOf]; omega⟩
    | 2, _ =>
      have hw : wrap64 (((n0 + n1 : Nat) : Int) + n2) = ((n0 + n1 + n2 : Nat) : Int) := by unfold wrap64; omega
      go_wp2
      exact ⟨⟨3, by omega, rfl, by simp, by trivial⟩, by simp only [intOf]; omega⟩
    | 3, _ =>
      go_wp2
      go_ret
      exact ⟨by simp, rfl⟩
end Go.Proofs.Ytmnfagpbcllbgaa

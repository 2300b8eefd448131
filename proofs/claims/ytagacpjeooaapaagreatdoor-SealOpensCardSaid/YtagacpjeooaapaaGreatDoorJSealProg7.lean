/-
  Texts of stages that were proved on their own, joined: ShaSums. Each begins with its own words.
-/
import Derived.Test.YtagacpjeooaapaaGreatDoorWordPick
import Derived.Test.YtagacpjeooaapaaGreatDoorJSealProg5
import Derived.Deep.QuietTactic
import Derived.BigQuiet

/-
  What the four sums of package sha, and the document's own turn of a word, come to. Conditions: the word is a number from 0 to 2^32 - 1.
-/
namespace Go.Proofs.YtagacpjeooaapaaGreatDoor
open Go.RowKit

set_option maxRecDepth 100000 in
set_option maxHeartbeats 400000 in
theorem bigSum0_any (a : Int) (w : World) (h0 : 0 ≤ a) (h1 : a < 4294967296) :
    Calls Tryz.prog 85 #[.int .u32 a] w fun e w' => e = .returned (.int .u32 (bsig0 a)) ∧ w = w' := by
  go_enter Tryz.func85, Tryz.ntmps85
  go_wp2_with (go_at_call 100; refine (right_any _ _ _ h0 h1).mono ?_; rintro e w' ⟨rfl, rfl⟩)
  go_ret
  exact ⟨rfl, rfl⟩

set_option maxRecDepth 100000 in
set_option maxHeartbeats 400000 in
theorem bigSum1_any (a : Int) (w : World) (h0 : 0 ≤ a) (h1 : a < 4294967296) :
    Calls Tryz.prog 83 #[.int .u32 a] w fun e w' => e = .returned (.int .u32 (bsig1 a)) ∧ w = w' := by
  go_enter Tryz.func83, Tryz.ntmps83
  go_wp2_with (go_at_call 100; refine (right_any _ _ _ h0 h1).mono ?_; rintro e w' ⟨rfl, rfl⟩)
  go_ret
  exact ⟨rfl, rfl⟩

set_option maxRecDepth 100000 in
set_option maxHeartbeats 400000 in
theorem smallSum0_any (a : Int) (w : World) (h0 : 0 ≤ a) (h1 : a < 4294967296) :
    Calls Tryz.prog 99 #[.int .u32 a] w fun e w' => e = .returned (.int .u32 (ssig0 a)) ∧ w = w' := by
  go_enter Tryz.func99, Tryz.ntmps99
  go_wp2_with (go_at_call 100; refine (right_any _ _ _ h0 h1).mono ?_; rintro e w' ⟨rfl, rfl⟩)
  go_ret
  exact ⟨rfl, rfl⟩

set_option maxRecDepth 100000 in
set_option maxHeartbeats 400000 in
theorem smallSum1_any (a : Int) (w : World) (h0 : 0 ≤ a) (h1 : a < 4294967296) :
    Calls Tryz.prog 98 #[.int .u32 a] w fun e w' => e = .returned (.int .u32 (ssig1 a)) ∧ w = w' := by
  go_enter Tryz.func98, Tryz.ntmps98
  go_wp2_with (go_at_call 100; refine (right_any _ _ _ h0 h1).mono ?_; rintro e w' ⟨rfl, rfl⟩)
  go_ret
  exact ⟨rfl, rfl⟩

theorem bits_or_comm (a b : Int) : bits .or .u32 a b = bits .or .u32 b a := by
  rw [bits_or, bits_or, BitVec.or_comm]
theorem wrap_rr (a : Int) (k : Nat) (h0 : 0 ≤ a) (h1 : a < 4294967296) (hk : k < 32) : bits .or .u32 (a / 2 ^ k) (IntKind.u32.wrap (a * 2 ^ (32 - k))) = rotr a k := by
  obtain ⟨x, rfl⟩ := bv_range a h0 h1
  rw [wrap_shl, shr_nv, bits_or, bv_nv, bv_nv, bv_nv]
  unfold rotr
  rw [bv_nv, BitVec.rotateRight_def]
  have : r32 (k : Int) = k := by unfold r32; omega
  rw [this, Nat.mod_eq_of_lt hk]

set_option maxRecDepth 100000 in
set_option maxHeartbeats 400000 in
theorem refTurn_any (a : Int) (k : Nat) (w : World) (h0 : 0 ≤ a) (h1 : a < 4294967296) (k0 : 0 < k) (hk : k < 32) :
    Calls Tryz.prog 62 #[.int .u32 a, .int .i64 k] w fun e w' => e = .returned (.int .u32 (rotr a k)) ∧ ∃ n, w' = w.drewN n := by
  have H := Lib.hid (wrap_rr a k h0 h1 hk)
  have e1 : IntKind.i64.wrap (32 - (k : Int)) = ((32 - k : Nat) : Int) := by rw [IntWalk.i64_in _ (by omega)]; omega
  go_enter Tryz.func62, Tryz.ntmps62
  go_wp2
  go_quiet (fail)
  go_wp2
  go_ret
  exact ⟨ret_u32 H.out, _, rfl⟩
end Go.Proofs.YtagacpjeooaapaaGreatDoor

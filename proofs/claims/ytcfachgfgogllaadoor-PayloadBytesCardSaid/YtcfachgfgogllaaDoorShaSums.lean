/-
  What the four sums of package sha, and the document's own turn of a word, come to. Conditions: the word is a number from 0 to 2^32 - 1.
-/
import Derived.Test.YtcfachgfgogllaaDoorWordPick
import Derived.Test.YtcfachgfgogllaaDoorShaMath
import Derived.Deep.QuietTactic
import Derived.BigQuiet
namespace Go.Proofs.YtcfachgfgogllaaDoor
open Go.RowKit

set_option maxRecDepth 100000 in
set_option maxHeartbeats 400000 in
theorem bigSum0_any (a : Int) (w : World) (h0 : 0 ≤ a) (h1 : a < 4294967296) :
    Calls Tryd.prog 71 #[.int .u32 a] w fun e w' => e = .returned (.int .u32 (bsig0 a)) ∧ w = w' := by
  go_enter Tryd.func71, Tryd.ntmps71
  go_wp2_with (go_at_call 76; refine (right_any _ _ _ h0 h1).mono ?_; rintro e w' ⟨rfl, rfl⟩)
  go_ret
  exact ⟨rfl, rfl⟩

set_option maxRecDepth 100000 in
set_option maxHeartbeats 400000 in
theorem bigSum1_any (a : Int) (w : World) (h0 : 0 ≤ a) (h1 : a < 4294967296) :
    Calls Tryd.prog 69 #[.int .u32 a] w fun e w' => e = .returned (.int .u32 (bsig1 a)) ∧ w = w' := by
  go_enter Tryd.func69, Tryd.ntmps69
  go_wp2_with (go_at_call 76; refine (right_any _ _ _ h0 h1).mono ?_; rintro e w' ⟨rfl, rfl⟩)
  go_ret
  exact ⟨rfl, rfl⟩

set_option maxRecDepth 100000 in
set_option maxHeartbeats 400000 in
theorem smallSum0_any (a : Int) (w : World) (h0 : 0 ≤ a) (h1 : a < 4294967296) :
    Calls Tryd.prog 75 #[.int .u32 a] w fun e w' => e = .returned (.int .u32 (ssig0 a)) ∧ w = w' := by
  go_enter Tryd.func75, Tryd.ntmps75
  go_wp2_with (go_at_call 76; refine (right_any _ _ _ h0 h1).mono ?_; rintro e w' ⟨rfl, rfl⟩)
  go_ret
  exact ⟨rfl, rfl⟩

set_option maxRecDepth 100000 in
set_option maxHeartbeats 400000 in
theorem smallSum1_any (a : Int) (w : World) (h0 : 0 ≤ a) (h1 : a < 4294967296) :
    Calls Tryd.prog 74 #[.int .u32 a] w fun e w' => e = .returned (.int .u32 (ssig1 a)) ∧ w = w' := by
  go_enter Tryd.func74, Tryd.ntmps74
  go_wp2_with (go_at_call 76; refine (right_any _ _ _ h0 h1).mono ?_; rintro e w' ⟨rfl, rfl⟩)
  go_ret
  exact ⟨rfl, rfl⟩

theorem bits_or_comm (a b : Int) : bits .or .u32 a b = bits .or .u32 b a := by
  rw [bits_or, bits_or, BitVec.or_comm]
theorem wrap_rr (a : Int) (k : Nat) (h0 : 0 ≤ a) (h1 : a < 4294967296) (hk : k < 32) : bits .or .u32 (a / 2 ^ k) (IntKind.u32.wrap (a * 2 ^ (32 - k))) = rotr a k := by
  obtain ⟨x, rfl⟩ := bv_range a h0 h1
  rw [wrap_shl, shr_nv, bits_or, bv_nv, bv_nv, bv_nv]
  unfold rotr
  rw [bv_nv, BitVec.rotateRight_def]
  have : r32 (k : Int) = k := by unfold r32; omega
  rw [this, Nat.mod_eq_of_lt hk]

set_option maxRecDepth 100000 in
set_option maxHeartbeats 400000 in
theorem refTurn_any (a : Int) (k : Nat) (w : World) (h0 : 0 ≤ a) (h1 : a < 4294967296) (k0 : 0 < k) (hk : k < 32) :
    Calls Tryd.prog 63 #[.int .u32 a, .int .i64 k] w fun e w' => e = .returned (.int .u32 (rotr a k)) ∧ ∃ n, w' = w.drewN n := by
  have H := Lib.hid (wrap_rr a k h0 h1 hk)
  have e1 : IntKind.i64.wrap (32 - (k : Int)) = ((32 - k : Nat) : Int) := by rw [IntWalk.i64_in _ (by omega)]; omega
  go_enter Tryd.func63, Tryd.ntmps63
  go_wp2
  go_quiet (fail)
  go_wp2
  go_ret
  exact ⟨ret_u32 H.out, _, rfl⟩
end Go.Proofs.YtcfachgfgogllaaDoor

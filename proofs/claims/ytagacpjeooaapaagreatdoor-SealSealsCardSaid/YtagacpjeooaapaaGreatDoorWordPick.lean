/-
  What the calls of package word that choose bits, and the document's own answers to them, come to. Conditions: each word is a number from 0 to 2^32 - 1.
-/
import Derived.Test.YtagacpjeooaapaaGreatDoorWordTurn
namespace Go.Proofs.YtagacpjeooaapaaGreatDoor
open Go.RowKit

set_option maxRecDepth 100000 in
set_option maxHeartbeats 400000 in
theorem choose_any (a b c : Int) (w : World) :
    Calls Tryz.prog 84 #[.int .u32 a, .int .u32 b, .int .u32 c] w fun e w' => e = .returned (.int .u32 (choose a b c)) ∧ w = w' := by
  have H := Lib.hid (bits_choose a b c)
  go_enter Tryz.func84, Tryz.ntmps84
  go_wp2
  go_ret
  exact ⟨ret_u32 H.out, rfl⟩

set_option maxRecDepth 100000 in
set_option maxHeartbeats 400000 in
theorem major_any (a b c : Int) (w : World) :
    Calls Tryz.prog 86 #[.int .u32 a, .int .u32 b, .int .u32 c] w fun e w' => e = .returned (.int .u32 (major a b c)) ∧ w = w' := by
  have H := Lib.hid (bits_major a b c)
  go_enter Tryz.func86, Tryz.ntmps86
  go_wp2
  go_ret
  exact ⟨ret_u32 H.out, rfl⟩
end Go.Proofs.YtagacpjeooaapaaGreatDoor

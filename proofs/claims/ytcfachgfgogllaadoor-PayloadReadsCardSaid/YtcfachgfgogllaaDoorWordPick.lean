/-
  What the calls of package word that choose bits, and the document's own answers to them, come to. Conditions: each word is a number from 0 to 2^32 - 1.
-/
import Derived.Test.YtcfachgfgogllaaDoorWordTurn
namespace Go.Proofs.YtcfachgfgogllaaDoor
open Go.RowKit

set_option maxRecDepth 100000 in
set_option maxHeartbeats 400000 in
theorem choose_any (a b c : Int) (w : World) :
    Calls Tryd.prog 70 #[.int .u32 a, .int .u32 b, .int .u32 c] w fun e w' => e = .returned (.int .u32 (choose a b c)) ∧ w = w' := by
  have H := Lib.hid (bits_choose a b c)
  go_enter Tryd.func70, Tryd.ntmps70
  go_wp2
  go_ret
  exact ⟨ret_u32 H.out, rfl⟩

set_option maxRecDepth 100000 in
set_option maxHeartbeats 400000 in
theorem major_any (a b c : Int) (w : World) :
    Calls Tryd.prog 72 #[.int .u32 a, .int .u32 b, .int .u32 c] w fun e w' => e = .returned (.int .u32 (major a b c)) ∧ w = w' := by
  have H := Lib.hid (bits_major a b c)
  go_enter Tryd.func72, Tryd.ntmps72
  go_wp2
  go_ret
  exact ⟨ret_u32 H.out, rfl⟩
end Go.Proofs.YtcfachgfgogllaaDoor

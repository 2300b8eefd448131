/-
  What the document's own answers on substitutes come to: the same substitute, whose substitute a byte is, and words. Conditions: bytes are numbers below 256, words below 2^32.
-/
import Derived.Test.YtagacpjeooaapaaGreatDoorBoxWalk
namespace Go.Proofs.YtagacpjeooaapaaGreatDoor
open Go.RowKit

theorem shifted_of (x : Int) (b t : Nat) (w : World) (hx : x = b) (hb : b < 256) (ht : st b = t) :
    Calls Tryz.prog 96 #[.int .i64 x] w fun e w' => e = .returned (.int .u8 (t : Int)) ∧ ∃ m, w' = w.drewN m := by
  subst hx; subst ht; exact shifted_any b w hb
end Go.Proofs.YtagacpjeooaapaaGreatDoor

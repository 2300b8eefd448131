/-
  Texts of stages that were proved on their own, joined: DkPlay. Each begins with its own words.
-/
import Derived.Test.YtnblknhdchpboaaGreatDoorJRzAll6
import Derived.Test.YtnblknhdchpboaaGreatDoorJRzAll1

/-
  The disk's laws: small tells something; play leaves a disk of the call's own. New memory alone is written. Conditions: the calls lie below the disk's blocks; the steps in all are at most 2^42.
-/
namespace Go.Proofs.YtnblknhdchpboaaGreatDoor
open Go.RowKit

def opZ : List Value := [.int .i64 0, .int .i64 0, .int .i64 0, .slice none 0 0, .slice none 0 0]

end Go.Proofs.YtnblknhdchpboaaGreatDoor

/-
  Texts of stages that were proved on their own, joined: CrcBits. Each begins with its own words.
-/
import Derived.Test.YtnblknhdchpboaaGreatDoorJRzAll18
import Derived.Test.YtnblknhdchpboaaGreatDoorByteMath
import Derived.Test.YtnblknhdchpboaaGreatDoorSlices

/-
  A bit of bytes turned, and what that does to their sum: on numbers. No Go function is spoken of.
-/
namespace Go.Proofs.YtnblknhdchpboaaGreatDoor
open Go.RowKit

end Go.Proofs.YtnblknhdchpboaaGreatDoor

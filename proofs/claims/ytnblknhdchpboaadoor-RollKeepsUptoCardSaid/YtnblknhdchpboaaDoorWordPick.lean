/-
  What the calls of package word that choose bits, and the document's own answers to them, come to. Conditions: each word is a number from 0 to 2^32 - 1.
-/
import Derived.Test.YtnblknhdchpboaaDoorWordTurn
namespace Go.Proofs.YtnblknhdchpboaaDoor
open Go.RowKit
end Go.Proofs.YtnblknhdchpboaaDoor

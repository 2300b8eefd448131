/-
  What the calls of package word that choose bits, and the document's own answers to them, come to. Conditions: each word is a number from 0 to 2^32 - 1.
-/
import Derived.Test.YtcohbhimhacedaaDoorWordTurn
namespace Go.Proofs.YtcohbhimhacedaaDoor
open Go.RowKit
end Go.Proofs.YtcohbhimhacedaaDoor

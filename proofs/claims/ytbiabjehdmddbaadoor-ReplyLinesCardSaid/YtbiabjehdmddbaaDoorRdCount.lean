/-
  The document's own counts of layer 9. New memory alone is written. Conditions: bytes below 256, at most a million; the place is within them.
-/
import Derived.Test.YtbiabjehdmddbaaDoorRdModel
namespace Go.Proofs.YtbiabjehdmddbaaDoor
open Go.RowKit
end Go.Proofs.YtbiabjehdmddbaaDoor

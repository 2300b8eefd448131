/-
  The document's own numbers of layer 9. New memory alone is written. Conditions: at most 8 bytes, each below 256.
-/
import Derived.Test.YtbiabjehdmddbaaDoorRdRef
namespace Go.Proofs.YtbiabjehdmddbaaDoor
open Go.RowKit
end Go.Proofs.YtbiabjehdmddbaaDoor

/-
  The document's own numbers of layer 9. New memory alone is written. Conditions: at most 8 bytes, each below 256.
-/
import Derived.Test.YtnfjmhppajdmaaaDoorRdRef
namespace Go.Proofs.YtnfjmhppajdmaaaDoor
open Go.RowKit
end Go.Proofs.YtnfjmhppajdmaaaDoor

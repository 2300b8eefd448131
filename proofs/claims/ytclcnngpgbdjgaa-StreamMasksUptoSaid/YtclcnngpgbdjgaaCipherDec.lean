/-
  What a cipher's Decrypt comes to: the block decrypted with the bytes of its round keys; new memory alone is written.
-/
import Derived.Test.YtclcnngpgbdjgaaCipherEnc
import Derived.Test.YtclcnngpgbdjgaaSteps
namespace Go.Proofs.Ytclcnngpgbdjgaa
open Go.RowKit
end Go.Proofs.Ytclcnngpgbdjgaa

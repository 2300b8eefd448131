/-
  The law CipherMixes, in the letters of its statement's frame. Conditions: each array has four bytes.
-/
import Derived.Test.YtohobknianhplaaCipherMixes
namespace Go.Proofs.Ytohobknianhplaa
open Go.RowKit

theorem law_CipherMixes (z0 z1 : List Int) (w : World) (h0 : z0.length = 4) (w0 : ∀ x ∈ z0, (Lit.int .u8 x).wf = true) (h1 : z1.length = 4) (w1 : ∀ x ∈ z1, (Lit.int .u8 x).wf = true) :
    Calls Try.prog 5 #[.agg (z0.map (Value.int .u8)).toArray, .agg (z1.map (Value.int .u8)).toArray] w fun e w' => e = .returned (.bool true) ∧ Below w.heap.size w w' := by
  obtain ⟨a, ha, rfl⟩ := bytes_fn z0 4 h0 w0
  obtain ⟨b, hb, rfl⟩ := bytes_fn z1 4 h1 w1
  rw [bytesL_row, bytesL_row]
  exact cipherMixes_any a b w ha hb
end Go.Proofs.Ytohobknianhplaa

/-
  The law ReaderReads of the landed reader. No conditions but that the arguments are such as come in.
-/
import Derived.Test.YtpobplkijfienaaRpProg
import Derived.Test.YtpobplkijfienaaRdReads
namespace Go.Proofs.Ytpobplkijfienaa
open Go.RowKit

theorem law_reads (a : Option Addr) (n c : Nat) (z : List Int) (b : Option Addr) (m k : Nat) (ops : List (Int × Int × Int)) (w : World) (hI : Ints .u8 w a n c z) (hz : ∀ x ∈ z, (Lit.int .u8 x).wf = true) (_hc : c ≤ maxLen) (hO : Ops3 w b m k ops) (_hk : k ≤ maxLen) (ho : ∀ o ∈ ops, (Lit.int .i64 o.1).wf = true ∧ (Lit.int .i64 o.2.1).wf = true ∧ (Lit.int .i64 o.2.2).wf = true) :
    Calls Try.prog 3 #[.agg #[.slice a n c, .slice b m k]] w fun r w' => r = .returned (.bool true) ∧ Below w.heap.size w w' :=
  reads_any readerProg a n c z b m k ops w trivial hI (fun x hx => by have := bounds_u8 (hz x hx); omega) hO (fun o hh => by have := bounds_i64 (ho o hh).2.2; omega)
end Go.Proofs.Ytpobplkijfienaa

/-
  The law WriterWrites about the landed writer, as its statement's frame takes it. Conditions: at most a hundred million bytes and calls.
-/
import Derived.Test.YtlbhpicebefpnaaWpProg
import Derived.Test.YtlbhpicebefpnaaWrWrites
namespace Go.Proofs.Ytlbhpicebefpnaa
open Go.RowKit

theorem i64_of {z : Int} (h : (Lit.int .i64 z).wf = true) : -9223372036854775808 ≤ z ∧ z < 9223372036854775808 := by
  simp [Lit.wf, IntKind.min, IntKind.max, IntKind.signed, IntKind.bits] at h
  omega
theorem law_writes (room : Int) (a : Option Addr) (m k : Nat) (ops : List OpV) (w : World) (hr : (Lit.int .i64 room).wf = true) (hO : OpsAt w a m k ops) (hm : m + wts ops ≤ 100000000) :
    Calls Try.prog 3 #[.int .i64 room, .slice a m k] w fun q w' => q = .returned (.bool true) ∧ Below w.heap.size w w' :=
  writes_any writerProg room a m k ops w trivial (i64_of hr).1 (i64_of hr).2 hO hm
end Go.Proofs.Ytlbhpicebefpnaa

/-
  The laws ReplyLines and ReplyNames, as their statements' frames take them. Conditions: the rows' own.
-/
import Derived.Test.YtbiabjehdmddbaaDoorRlLawL
import Derived.Test.YtbiabjehdmddbaaDoorRlLawN
namespace Go.Proofs.YtbiabjehdmddbaaDoor
open Go.RowKit

theorem law_lines (s : ByteArray) (w : World) (hG : Pow12 w) (_ : s.size ≤ maxLen) :
    Calls Tryd.prog 3 #[.string s] w fun q w' => q = .returned (.bool true) ∧ Below w.heap.size w w' := rlLines_any s w hG
theorem law_names (e k : Int) (s : ByteArray) (w : World) (hG : Pow12 w) (_ : (Lit.int .i64 e).wf = true) (_ : (Lit.int .i64 k).wf = true) (_ : s.size ≤ maxLen) :
    Calls Tryd.prog 4 #[.int .i64 e, .int .i64 k, .string s] w fun q w' => q = .returned (.bool true) ∧ Below w.heap.size w w' := rlNames_any e k s w hG
end Go.Proofs.YtbiabjehdmddbaaDoor

/-
  No cell of these rows narrows 'for every input' (looked for: loops, veiled, ifaces, maps, wideKeys, modest, calm, conditions, laid).
  DERIVED. THE GIVEN ROWS OF THIS SEAT. 3 by the template 'for every input the law returns true; each argument reads behind the call as it read before'; 0 by the template 'total and deterministic' (their statements: YtlbhpicebefpnaaTotals.lean).
  GIVEN WITH THE SEED: the statements are not yours to turn. If you find one false, say at which input.
  Laid BY PROGRAM, IN A SANDBOX (cutbox-rows.mjs): the forced cells as the released guide's own fill.sh prints them over the translation dfc391602c618d7d… (all of the seat's roots in one cut). By AI agents, Wed Nov 11 2026. No macro, syntax, notation, axiom, sorry.
-/
import Derived.Test.YtlbhpicebefpnaaChecked
import GoSem.Claim
import GoSem.ClaimJoined
import GoSem.ClaimMapViews
import Derived.JoinedTies
import Derived.KernelRfl
namespace Go.Proofs.Ytlbhpicebefpnaa
/- THE CELL 'sum', in the pinned program and in every row, IS THE sha256 OF THE DUMP (.gsa) THAT YtlbhpicebefpnaaProg.lean LOADS. Nothing in Lean hashes anything: it is a label: what it is worth is what the hold of that sum in a sandbox is worth. -/
noncomputable def Try.pinned : Pinned := { name := "ytlbhpicebefpnaa", sum := "dfc391602c618d7d26e3aed65e61044e36fe191fb7f2da6d73cd31482fc58dd7", checked := Try.checked }
namespace Rows
def none {H : Type} : Left H := { results := [], args := [] }

/-- 'miradorlaw10.WriterWrites': WHATEVER THE INPUT: true; the input reads as it did. -/
def writerWritesSpec : ChangeSpec := { name := "writerWrites", fn := fun _ => fun
  | [d1, d2] => { results := [.lit (.bool true)], args := [d1, d2] }
  | _ => none }
def writerWritesRow : OpenClaim := { program := "ytlbhpicebefpnaa", sum := "dfc391602c618d7d26e3aed65e61044e36fe191fb7f2da6d73cd31482fc58dd7", func := "mirador/miradorlaw10.WriterWrites", spec := "writerWrites", apart := false }
def WriterWritesSaid : Prop := writerWritesRow.holds Try.pinned (OpenSpec.ofChange writerWritesSpec)

/-- ITS FALSE NEIGHBOUR: 'it returns false'. Refute it at one input. -/
def writerWritesWrong : ChangeSpec := { name := "writerWrites", fn := fun _ => fun
  | [d1, d2] => { results := [.lit (.bool false)], args := [d1, d2] }
  | _ => none }
def WriterWritesWrongFalsely : Prop := writerWritesRow.holds Try.pinned (OpenSpec.ofChange writerWritesWrong)

/-- 'miradorlaw10.WriterRead': WHATEVER THE INPUT: true; the input reads as it did. -/
def writerReadSpec : ChangeSpec := { name := "writerRead", fn := fun _ => fun
  | [d] => { results := [.lit (.bool true)], args := [d] }
  | _ => none }
def writerReadRow : OpenClaim := { program := "ytlbhpicebefpnaa", sum := "dfc391602c618d7d26e3aed65e61044e36fe191fb7f2da6d73cd31482fc58dd7", func := "mirador/miradorlaw10.WriterRead", spec := "writerRead", inPlace := ["internal/reflectlite.TypeOf"], unfollowed := true, recurses := true, apart := false }
def WriterReadSaid : Prop := writerReadRow.holds Try.pinned (OpenSpec.ofChange writerReadSpec)

/-- ITS FALSE NEIGHBOUR: 'it returns false'. Refute it at one input. -/
def writerReadWrong : ChangeSpec := { name := "writerRead", fn := fun _ => fun
  | [d] => { results := [.lit (.bool false)], args := [d] }
  | _ => none }
def WriterReadWrongFalsely : Prop := writerReadRow.holds Try.pinned (OpenSpec.ofChange writerReadWrong)

/-- 'miradorlaw10.WriterNil': WHATEVER THE INPUT: true; the input reads as it did. -/
def writerNilSpec : ChangeSpec := { name := "writerNil", fn := fun _ => fun
  | [d] => { results := [.lit (.bool true)], args := [d] }
  | _ => none }
def writerNilRow : OpenClaim := { program := "ytlbhpicebefpnaa", sum := "dfc391602c618d7d26e3aed65e61044e36fe191fb7f2da6d73cd31482fc58dd7", func := "mirador/miradorlaw10.WriterNil", spec := "writerNil", apart := false }
def WriterNilSaid : Prop := writerNilRow.holds Try.pinned (OpenSpec.ofChange writerNilSpec)

/-- ITS FALSE NEIGHBOUR: 'it returns false'. Refute it at one input. -/
def writerNilWrong : ChangeSpec := { name := "writerNil", fn := fun _ => fun
  | [d] => { results := [.lit (.bool false)], args := [d] }
  | _ => none }
def WriterNilWrongFalsely : Prop := writerNilRow.holds Try.pinned (OpenSpec.ofChange writerNilWrong)

/- THE SECOND FORM. 'bulk': how many values and letters a reading holds, each counted each time it is reached (what is shared counts as often as it is met; a slice's spare places count too). A statement '..UptoSaid' is the law's where the arguments, and the package variables that the reading takes, are together of bulk at most 1048576: NARROWER than '..Said'. Prove '..Said' where nothing that the law and all that it calls make is longer than what came in: it says more and counts as full. Else prove '..UptoSaid'. A law counts once. -/
mutual
def uptoBulk {H : Type} : DataW H → Nat
  | .lit (.string bytes) => bytes.length + 1
  | .lit _ => 1
  | .nil => 1
  | .ptr d => uptoBulk d + 1
  | .slice elems spare => uptoBulkAll elems + uptoBulkAll spare + 1
  | .agg parts => uptoBulkAll parts + 1
  | .iface _ d => uptoBulk d + 1
  | .map entries => uptoBulkEntries entries + 1
  | .held _ => 1
def uptoBulkAll {H : Type} : List (DataW H) → Nat
  | [] => 0
  | d :: r => uptoBulk d + uptoBulkAll r
def uptoBulkEntries {H : Type} : List (Lit × DataW H) → Nat
  | [] => 0
  | x :: r => uptoBulkEntry x + uptoBulkEntries r
def uptoBulkEntry {H : Type} : Lit × DataW H → Nat
  | (.string bytes, d) => bytes.length + uptoBulk d + 1
  | (_, d) => uptoBulk d + 1
 end
def uptoSmall : (H : Type) → List (DataW H) → Bool := fun _ ds => decide (uptoBulkAll ds ≤ 1048576)
def OpenSpec.upto (s : _root_.Go.ChangeSpec) : _root_.Go.OpenSpec := { _root_.Go.OpenSpec.ofChange s with cond := some uptoSmall }

/-- 'miradorlaw10.WriterWrites', WHERE WHAT IT READS IS OF BULK AT MOST 1048576: true; the input reads as it did. -/
def writerWritesUptoRow : OpenClaim := { program := "ytlbhpicebefpnaa", sum := "dfc391602c618d7d26e3aed65e61044e36fe191fb7f2da6d73cd31482fc58dd7", func := "mirador/miradorlaw10.WriterWrites", spec := "writerWrites", apart := false, narrowed := true }
def WriterWritesUptoSaid : Prop := writerWritesUptoRow.holds Try.pinned (OpenSpec.upto writerWritesSpec)

/-- 'miradorlaw10.WriterRead', WHERE WHAT IT READS IS OF BULK AT MOST 1048576: true; the input reads as it did. -/
def writerReadUptoRow : OpenClaim := { program := "ytlbhpicebefpnaa", sum := "dfc391602c618d7d26e3aed65e61044e36fe191fb7f2da6d73cd31482fc58dd7", func := "mirador/miradorlaw10.WriterRead", spec := "writerRead", inPlace := ["internal/reflectlite.TypeOf"], unfollowed := true, recurses := true, apart := false, narrowed := true }
def WriterReadUptoSaid : Prop := writerReadUptoRow.holds Try.pinned (OpenSpec.upto writerReadSpec)

/-- 'miradorlaw10.WriterNil', WHERE WHAT IT READS IS OF BULK AT MOST 1048576: true; the input reads as it did. -/
def writerNilUptoRow : OpenClaim := { program := "ytlbhpicebefpnaa", sum := "dfc391602c618d7d26e3aed65e61044e36fe191fb7f2da6d73cd31482fc58dd7", func := "mirador/miradorlaw10.WriterNil", spec := "writerNil", apart := false, narrowed := true }
def WriterNilUptoSaid : Prop := writerNilUptoRow.holds Try.pinned (OpenSpec.upto writerNilSpec)

end Rows
end Go.Proofs.Ytlbhpicebefpnaa

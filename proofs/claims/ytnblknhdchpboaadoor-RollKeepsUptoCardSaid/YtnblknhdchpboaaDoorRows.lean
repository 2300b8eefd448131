/-
  NARROWER THAN 'FOR EVERY INPUT', by the rows' own cells (each row's printed sentence says how): RollKeeps: laid · RollOpens: laid · RollNil: laid.
  DERIVED. THE GIVEN ROWS OF THIS SEAT. 3 by the template 'for every input the law returns true; each argument reads behind the call as it read before'; 0 by the template 'total and deterministic' (their statements: YtnblknhdchpboaaDoorTotals.lean).
  GIVEN WITH THE SEED: the statements are not yours to turn. If you find one false, say at which input.
  Laid BY PROGRAM, IN A SANDBOX (cutbox-rows.mjs): the forced cells as the released guide's own fill.sh prints them over the translation 4a01a4dd0c681a99… (all of the seat's roots in one cut). By AI agents, Wed Nov 11 2026. No macro, syntax, notation, axiom, sorry.
-/
import Derived.Test.YtnblknhdchpboaaDoorChecked
import GoSem.Claim
import GoSem.ClaimJoined
import GoSem.ClaimMapViews
import Derived.JoinedTies
import Derived.KernelRfl
namespace Go.Proofs.YtnblknhdchpboaaDoor
/- THE CELL 'sum', in the pinned program and in every row, IS THE sha256 OF THE DUMP (.gsa) THAT YtnblknhdchpboaaDoorProg.lean LOADS. Nothing in Lean hashes anything: it is a label: what it is worth is what the hold of that sum in a sandbox is worth. -/
noncomputable def Tryd.pinned : Pinned := { name := "ytnblknhdchpboaadoor", sum := "4a01a4dd0c681a99266ed1a536785439816142cc822a6cc901c5ba7f2fc746d8", checked := Tryd.checked }
namespace Rows
def none {H : Type} : Left H := { results := [], args := [] }

/- WHAT THE LISTED PACKAGE-LEVEL VARIABLES READ AS WHEN THE CALL BEGINS. Each datum BY PROGRAM (the guide's laid-datum.mjs) off the statement by which the dump's own 'gosem.cut.vars' lays the variable. In a bare row this is a premise. The card (YtnblknhdchpboaaDoorCards.lean) ties it to the program's text. -/
def laid_mirador_crc_halves {H : Type} : DataW H := .agg [.lit (.int .u32 0), .lit (.int .u32 274646895), .lit (.int .u32 549293790), .lit (.int .u32 820201905), .lit (.int .u32 1098587580), .lit (.int .u32 1361435347), .lit (.int .u32 1640403810), .lit (.int .u32 1905808397), .lit (.int .u32 2197175160), .lit (.int .u32 2460548119), .lit (.int .u32 2722870694), .lit (.int .u32 2987750089), .lit (.int .u32 3280807620), .lit (.int .u32 3553878443), .lit (.int .u32 3811616794), .lit (.int .u32 4084100981)]

/-- 'miradorlaw20.RollKeeps': WHATEVER THE INPUT: true; the input reads as it did. -/
def rollKeepsSpec : ChangeSpec := { name := "rollKeeps", fn := fun _ => fun
  | [d1, d2, d3] => { results := [.lit (.bool true)], args := [d1, d2, d3] }
  | _ => none }
def rollKeepsRow : OpenClaim := { program := "ytnblknhdchpboaadoor", sum := "4a01a4dd0c681a99266ed1a536785439816142cc822a6cc901c5ba7f2fc746d8", func := "mirador/miradorlaw20.RollKeeps", spec := "rollKeeps", inPlace := ["internal/reflectlite.TypeOf"], unfollowed := true, recurses := true, named := ["mirador/crc.halves"], apart := false, laid := [("mirador/crc.halves", laid_mirador_crc_halves)] }
def RollKeepsSaid : Prop := rollKeepsRow.holds Tryd.pinned (OpenSpec.ofChange rollKeepsSpec)

/-- ITS FALSE NEIGHBOUR: 'it returns false'. Refute it at one input. -/
def rollKeepsWrong : ChangeSpec := { name := "rollKeeps", fn := fun _ => fun
  | [d1, d2, d3] => { results := [.lit (.bool false)], args := [d1, d2, d3] }
  | _ => none }
def RollKeepsWrongFalsely : Prop := rollKeepsRow.holds Tryd.pinned (OpenSpec.ofChange rollKeepsWrong)

/-- 'miradorlaw20.RollOpens': WHATEVER THE INPUT: true; the input reads as it did. -/
def rollOpensSpec : ChangeSpec := { name := "rollOpens", fn := fun _ => fun
  | [d1, d2, d3] => { results := [.lit (.bool true)], args := [d1, d2, d3] }
  | _ => none }
def rollOpensRow : OpenClaim := { program := "ytnblknhdchpboaadoor", sum := "4a01a4dd0c681a99266ed1a536785439816142cc822a6cc901c5ba7f2fc746d8", func := "mirador/miradorlaw20.RollOpens", spec := "rollOpens", inPlace := ["internal/reflectlite.TypeOf"], unfollowed := true, recurses := true, named := ["mirador/crc.halves"], apart := false, laid := [("mirador/crc.halves", laid_mirador_crc_halves)] }
def RollOpensSaid : Prop := rollOpensRow.holds Tryd.pinned (OpenSpec.ofChange rollOpensSpec)

/-- ITS FALSE NEIGHBOUR: 'it returns false'. Refute it at one input. -/
def rollOpensWrong : ChangeSpec := { name := "rollOpens", fn := fun _ => fun
  | [d1, d2, d3] => { results := [.lit (.bool false)], args := [d1, d2, d3] }
  | _ => none }
def RollOpensWrongFalsely : Prop := rollOpensRow.holds Tryd.pinned (OpenSpec.ofChange rollOpensWrong)

/-- 'miradorlaw20.RollNil': WHATEVER THE INPUT: true; the input reads as it did. -/
def rollNilSpec : ChangeSpec := { name := "rollNil", fn := fun _ => fun
  | [d1, d2] => { results := [.lit (.bool true)], args := [d1, d2] }
  | _ => none }
def rollNilRow : OpenClaim := { program := "ytnblknhdchpboaadoor", sum := "4a01a4dd0c681a99266ed1a536785439816142cc822a6cc901c5ba7f2fc746d8", func := "mirador/miradorlaw20.RollNil", spec := "rollNil", inPlace := ["internal/reflectlite.TypeOf"], unfollowed := true, recurses := true, named := ["mirador/crc.halves"], apart := false, laid := [("mirador/crc.halves", laid_mirador_crc_halves)] }
def RollNilSaid : Prop := rollNilRow.holds Tryd.pinned (OpenSpec.ofChange rollNilSpec)

/-- ITS FALSE NEIGHBOUR: 'it returns false'. Refute it at one input. -/
def rollNilWrong : ChangeSpec := { name := "rollNil", fn := fun _ => fun
  | [d1, d2] => { results := [.lit (.bool false)], args := [d1, d2] }
  | _ => none }
def RollNilWrongFalsely : Prop := rollNilRow.holds Tryd.pinned (OpenSpec.ofChange rollNilWrong)

/- THE SECOND FORM. 'bulk': how many values and letters a reading holds, each counted each time it is reached (what is shared counts as often as it is met; a slice's spare places count too). A statement '..UptoSaid' is the law's where the arguments, and the package variables that the reading takes, are together of bulk at most 1048576: NARROWER than '..Said'. Prove '..Said' where nothing that the law and all that it calls make is longer than what came in: it says more and counts as full. Else prove '..UptoSaid'. A law counts once. -/
mutual
def uptoBulk {H : Type} : DataW H → Nat
  | .lit (.string bytes) => bytes.length + 1
  | .lit _ => 1
  | .nil => 1
  | .ptr d => uptoBulk d + 1
  | .slice elems spare => uptoBulkAll elems + uptoBulkAll spare + 1
  | .agg parts => uptoBulkAll parts + 1
  | .iface _ d => uptoBulk d + 1
  | .map entries => uptoBulkEntries entries + 1
  | .held _ => 1
def uptoBulkAll {H : Type} : List (DataW H) → Nat
  | [] => 0
  | d :: r => uptoBulk d + uptoBulkAll r
def uptoBulkEntries {H : Type} : List (Lit × DataW H) → Nat
  | [] => 0
  | x :: r => uptoBulkEntry x + uptoBulkEntries r
def uptoBulkEntry {H : Type} : Lit × DataW H → Nat
  | (.string bytes, d) => bytes.length + uptoBulk d + 1
  | (_, d) => uptoBulk d + 1
 end
def uptoSmall : (H : Type) → List (DataW H) → Bool := fun _ ds => decide (uptoBulkAll ds ≤ 1048576)
def OpenSpec.upto (s : _root_.Go.ChangeSpec) : _root_.Go.OpenSpec := { _root_.Go.OpenSpec.ofChange s with cond := some uptoSmall }

/-- 'miradorlaw20.RollKeeps', WHERE WHAT IT READS IS OF BULK AT MOST 1048576: true; the input reads as it did. -/
def rollKeepsUptoRow : OpenClaim := { program := "ytnblknhdchpboaadoor", sum := "4a01a4dd0c681a99266ed1a536785439816142cc822a6cc901c5ba7f2fc746d8", func := "mirador/miradorlaw20.RollKeeps", spec := "rollKeeps", inPlace := ["internal/reflectlite.TypeOf"], unfollowed := true, recurses := true, named := ["mirador/crc.halves"], apart := false, laid := [("mirador/crc.halves", laid_mirador_crc_halves)], narrowed := true }
def RollKeepsUptoSaid : Prop := rollKeepsUptoRow.holds Tryd.pinned (OpenSpec.upto rollKeepsSpec)

/-- 'miradorlaw20.RollOpens', WHERE WHAT IT READS IS OF BULK AT MOST 1048576: true; the input reads as it did. -/
def rollOpensUptoRow : OpenClaim := { program := "ytnblknhdchpboaadoor", sum := "4a01a4dd0c681a99266ed1a536785439816142cc822a6cc901c5ba7f2fc746d8", func := "mirador/miradorlaw20.RollOpens", spec := "rollOpens", inPlace := ["internal/reflectlite.TypeOf"], unfollowed := true, recurses := true, named := ["mirador/crc.halves"], apart := false, laid := [("mirador/crc.halves", laid_mirador_crc_halves)], narrowed := true }
def RollOpensUptoSaid : Prop := rollOpensUptoRow.holds Tryd.pinned (OpenSpec.upto rollOpensSpec)

/-- 'miradorlaw20.RollNil', WHERE WHAT IT READS IS OF BULK AT MOST 1048576: true; the input reads as it did. -/
def rollNilUptoRow : OpenClaim := { program := "ytnblknhdchpboaadoor", sum := "4a01a4dd0c681a99266ed1a536785439816142cc822a6cc901c5ba7f2fc746d8", func := "mirador/miradorlaw20.RollNil", spec := "rollNil", inPlace := ["internal/reflectlite.TypeOf"], unfollowed := true, recurses := true, named := ["mirador/crc.halves"], apart := false, laid := [("mirador/crc.halves", laid_mirador_crc_halves)], narrowed := true }
def RollNilUptoSaid : Prop := rollNilUptoRow.holds Tryd.pinned (OpenSpec.upto rollNilSpec)

end Rows
end Go.Proofs.YtnblknhdchpboaaDoor

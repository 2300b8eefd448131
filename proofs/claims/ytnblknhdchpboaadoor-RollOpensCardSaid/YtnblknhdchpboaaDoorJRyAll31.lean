/-
  Texts of stages that were proved on their own, joined: RyLwO, RyLwK. Each begins with its own words.
-/
import Derived.Test.YtnblknhdchpboaaDoorJRyAll27
import Derived.Test.YtnblknhdchpboaaDoorJRyAll30
import Derived.Test.YtnblknhdchpboaaDoorJRyAll29

/-
  The law RollOpens, as its statement's frame takes it. No conditions beyond the row's own.
-/
namespace Go.Proofs.YtnblknhdchpboaaDoor
open Go.RowKit

theorem u8_of20 {z : Int} (h : (Lit.int .u8 z).wf = true) : 0 ≤ z ∧ z < 256 := by
  simp [Lit.wf, IntKind.min, IntKind.max, IntKind.signed, IntKind.bits] at h
  omega
theorem law_ryopens (a : Option Addr) (n c : Nat) (xs : List Int) (i t : Int) (w : World) (hG : Glob11 w) (hI : Ints .u8 w a n c xs) (hr : ∀ x ∈ xs, (Lit.int .u8 x).wf = true) (_ : c ≤ maxLen) (_ : (Lit.int .i64 i).wf = true) (ht : (Lit.int .u8 t).wf = true) :
    Calls Tryd.prog 4 #[.slice a n c, .int .i64 i, .int .u8 t] w fun q w' => q = .returned (.bool true) ∧ Below w.heap.size w w' :=
  opens_any a n c xs i t w hG hI (fun x hx => u8_of20 (hr x hx)) (u8_of20 ht)
end Go.Proofs.YtnblknhdchpboaaDoor

/-
  The law RollKeeps, as its statement's frame takes it. Conditions: at most a hundred million bytes and parts.
-/
namespace Go.Proofs.YtnblknhdchpboaaDoor
open Go.RowKit

theorem law_rykeeps (a : Option Addr) (n c : Nat) (ps : List (List Int)) (t u : Int) (w : World) (hG : Glob11 w) (hP : Parts w a n c ps) (hr : ∀ p ∈ ps, ∀ y ∈ p, 0 ≤ y ∧ y < 256) (hm : n + ps.flatten.length ≤ 100000000) (ht : (Lit.int .u8 t).wf = true) (hu : (Lit.int .u8 u).wf = true) :
    Calls Tryd.prog 3 #[.slice a n c, .int .u8 t, .int .u8 u] w fun q w' => q = .returned (.bool true) ∧ Below w.heap.size w w' :=
  keeps20_any a n c ps t u w hG hP hr hm (u8_of20 ht) (u8_of20 hu)
end Go.Proofs.YtnblknhdchpboaaDoor

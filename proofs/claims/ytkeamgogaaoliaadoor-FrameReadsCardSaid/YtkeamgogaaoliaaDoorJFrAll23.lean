/-
  Texts of stages that were proved on their own, joined: FrLw. Each begins with its own words.
-/
import Derived.Test.YtkeamgogaaoliaaDoorJFrAll20
import Derived.Test.YtkeamgogaaoliaaDoorJFrAll21
import Derived.Test.YtkeamgogaaoliaaDoorJFrAll22

/-
  The three laws of layer 19, as their statements' frames take them. Conditions: the rows' own (FrameTorn: at most a hundred million bytes and parts).
-/
namespace Go.Proofs.YtkeamgogaaoliaaDoor
open Go.RowKit

theorem u8_of19 {z : Int} (h : (Lit.int .u8 z).wf = true) : 0 ≤ z ∧ z < 256 := by
  simp [Lit.wf, IntKind.min, IntKind.max, IntKind.signed, IntKind.bits] at h
  omega
theorem u16_of19 {z : Int} (h : (Lit.int .u16 z).wf = true) : 0 ≤ z ∧ z < 65536 := by
  simp [Lit.wf, IntKind.min, IntKind.max, IntKind.signed, IntKind.bits] at h
  omega
theorem law_frwraps (a : Option Addr) (n c : Nat) (xs : List Int) (b : Option Addr) (m d : Nat) (ys : List Int) (t : Int) (w : World) (hG : Glob11 w) (hI : Ints .u8 w a n c xs) (hr : ∀ x ∈ xs, (Lit.int .u8 x).wf = true) (_ : c ≤ maxLen) (hJ : Ints .u8 w b m d ys) (hs : ∀ x ∈ ys, (Lit.int .u8 x).wf = true) (_ : d ≤ maxLen) (ht : (Lit.int .u16 t).wf = true) :
    Calls Tryd.prog 3 #[.slice a n c, .slice b m d, .int .u16 t] w fun q w' => q = .returned (.bool true) ∧ Below w.heap.size w w' :=
  wraps_any a n c xs b m d ys t w hG hI (fun x hx => u8_of19 (hr x hx)) hJ (fun x hx => u8_of19 (hs x hx)) (u16_of19 ht)
theorem law_frreads (a : Option Addr) (n c : Nat) (xs : List Int) (mo : Int) (w : World) (hG : Glob11 w) (hI : Ints .u8 w a n c xs) (hr : ∀ x ∈ xs, (Lit.int .u8 x).wf = true) (_ : c ≤ maxLen) (hmo : (Lit.int .u8 mo).wf = true) :
    Calls Tryd.prog 4 #[.slice a n c, .int .u8 mo] w fun q w' => q = .returned (.bool true) ∧ Below w.heap.size w w' :=
  reads19_any a n c xs mo w hG hI (fun x hx => u8_of19 (hr x hx)) (u8_of19 hmo)
theorem law_frtorn (a : Option Addr) (n c : Nat) (ps : List (List Int)) (b : Option Addr) (m d : Nat) (ys : List Int) (t : Int) (w : World) (hG : Glob11 w) (hP : Parts w a n c ps) (hr : ∀ p ∈ ps, ∀ y ∈ p, 0 ≤ y ∧ y < 256) (hm : n + ps.flatten.length ≤ 100000000) (hJ : Ints .u8 w b m d ys) (hs : ∀ x ∈ ys, (Lit.int .u8 x).wf = true) (_ : d ≤ maxLen) (ht : (Lit.int .u16 t).wf = true) :
    Calls Tryd.prog 5 #[.slice a n c, .slice b m d, .int .u16 t] w fun q w' => q = .returned (.bool true) ∧ Below w.heap.size w w' :=
  torn_any a n c ps b m d ys t w hG hP hr hm hJ (fun x hx => u8_of19 (hs x hx)) (u16_of19 ht)
end Go.Proofs.YtkeamgogaaoliaaDoor

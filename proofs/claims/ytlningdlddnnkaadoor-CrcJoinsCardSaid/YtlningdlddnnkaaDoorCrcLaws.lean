/-
  The four laws of layer 11 about the program's sums, as their statements' frames take them. Conditions: the rows' own (CrcSums: at most a hundred million bytes and parts).
-/
import Derived.Test.YtlningdlddnnkaaDoorCpMoved
import Derived.Test.YtlningdlddnnkaaDoorCrcJoins
import Derived.Test.YtlningdlddnnkaaDoorCrcSums
import Derived.Test.YtlningdlddnnkaaDoorCrcTurned
namespace Go.Proofs.YtlningdlddnnkaaDoor
open Go.RowKit

theorem u8_of {z : Int} (h : (Lit.int .u8 z).wf = true) : 0 ≤ z ∧ z < 256 := by
  simp [Lit.wf, IntKind.min, IntKind.max, IntKind.signed, IntKind.bits] at h
  omega
theorem u16_of {z : Int} (h : (Lit.int .u16 z).wf = true) : 0 ≤ z ∧ z < 65536 := by
  simp [Lit.wf, IntKind.min, IntKind.max, IntKind.signed, IntKind.bits] at h
  omega
theorem u32_of {z : Int} (h : (Lit.int .u32 z).wf = true) : 0 ≤ z ∧ z < 4294967296 := by
  simp [Lit.wf, IntKind.min, IntKind.max, IntKind.signed, IntKind.bits] at h
  omega
theorem u64_of {z : Int} (h : (Lit.int .u64 z).wf = true) : 0 ≤ z ∧ z < 18446744073709551616 := by
  simp [Lit.wf, IntKind.min, IntKind.max, IntKind.signed, IntKind.bits] at h
  omega
theorem law_sums (a : Option Addr) (n c : Nat) (ps : List (List Int)) (s : Int) (w : World) (hG : Glob11 w) (hP : Parts w a n c ps) (hr : ∀ p ∈ ps, ∀ y ∈ p, 0 ≤ y ∧ y < 256) (hm : n + ps.flatten.length ≤ 100000000) (h0 : (Lit.int .u32 s).wf = true) :
    Calls Tryd.prog 3 #[.slice a n c, .int .u32 s] w fun e w' => e = .returned (.bool true) ∧ Below w.heap.size w w' :=
  sums_any crcProg a n c ps s w hG hP hr hm (u32_of h0)
theorem law_joins (a : Option Addr) (n c : Nat) (xs : List Int) (b : Option Addr) (m d : Nat) (ys zs : List Int) (w : World) (hG : Glob11 w) (hI : Ints .u8 w a n c xs) (hr : ∀ x ∈ xs, (Lit.int .u8 x).wf = true) (_ : c ≤ maxLen) (hJ : Ints .u8 w b m d ys) (hs : ∀ x ∈ ys, (Lit.int .u8 x).wf = true) (_ : d ≤ maxLen) (hl : zs.length = 2) (hz : ∀ x ∈ zs, (Lit.int .u32 x).wf = true) :
    Calls Tryd.prog 4 #[.slice a n c, .slice b m d, .agg (zs.map (Value.int .u32)).toArray] w fun e w' => e = .returned (.bool true) ∧ Below w.heap.size w w' := by
  match zs, hl with
  | [s, t], _ => exact joins_any crcProg a n c xs b m d ys s t w hG hI (fun x hx => u8_of (hr x hx)) hJ (fun x hx => u8_of (hs x hx)) (u32_of (hz s (by simp))) (u32_of (hz t (by simp)))
theorem law_moves (a b n m : Int) (w : World) (hG : Glob11 w) (ha : (Lit.int .u32 a).wf = true) (hb : (Lit.int .u32 b).wf = true) (hn : (Lit.int .u64 n).wf = true) (hm : (Lit.int .u64 m).wf = true) :
    Calls Tryd.prog 5 #[.int .u32 a, .int .u32 b, .int .u64 n, .int .u64 m] w fun e w' => e = .returned (.bool true) ∧ Below w.heap.size w w' :=
  moves_any crcProg a b n m w hG (u32_of ha) (u32_of hb) (u64_of hn) (u64_of hm)
theorem law_turned (a : Option Addr) (n c : Nat) (xs : List Int) (t y : Int) (w : World) (hG : Glob11 w) (hI : Ints .u8 w a n c xs) (hr : ∀ x ∈ xs, (Lit.int .u8 x).wf = true) (_ : c ≤ maxLen) (ht : (Lit.int .u16 t).wf = true) (hy : (Lit.int .u32 y).wf = true) :
    Calls Tryd.prog 6 #[.slice a n c, .int .u16 t, .int .u32 y] w fun e w' => e = .returned (.bool true) ∧ Below w.heap.size w w' :=
  turned_any crcProg a n c xs t y w hG hI (fun x hx => u8_of (hr x hx)) (u16_of ht) (u32_of hy)
end Go.Proofs.YtlningdlddnnkaaDoor

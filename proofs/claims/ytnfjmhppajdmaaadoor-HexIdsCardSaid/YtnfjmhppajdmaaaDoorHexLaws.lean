/-
  The three laws of layer 12 about the program's texts, as their statements' frames take them. Conditions: the rows' own.
-/
import Derived.Test.YtnfjmhppajdmaaaDoorHexIds
import Derived.Test.YtnfjmhppajdmaaaDoorHexNums
import Derived.Test.YtnfjmhppajdmaaaDoorHpProg
namespace Go.Proofs.YtnfjmhppajdmaaaDoor
open Go.RowKit

theorem u8_of12 {z : Int} (h : (Lit.int .u8 z).wf = true) : 0 ≤ z ∧ z < 256 := by
  simp [Lit.wf, IntKind.min, IntKind.max, IntKind.signed, IntKind.bits] at h
  omega
theorem u64_of12 {z : Int} (h : (Lit.int .u64 z).wf = true) : ∃ n : Nat, z = (n : Int) ∧ n < 18446744073709551616 := by
  simp [Lit.wf, IntKind.min, IntKind.max, IntKind.signed, IntKind.bits] at h
  exact ⟨z.toNat, by omega, by omega⟩
theorem law_bytes (a : Option Addr) (n c : Nat) (xs : List Int) (s : ByteArray) (w : World) (hG : Pow12 w) (hI : Ints .u8 w a n c xs) (hr : ∀ x ∈ xs, (Lit.int .u8 x).wf = true) (_ : c ≤ maxLen) (_ : s.size ≤ maxLen) :
    Calls Tryd.prog 3 #[.slice a n c, .string s] w fun q w' => q = .returned (.bool true) ∧ Below w.heap.size w w' :=
  hexBytes_any hexProg a n c xs s w hG hI (fun x hx => u8_of12 (hr x hx))
theorem law_ids (xs : List Int) (s : ByteArray) (w : World) (hG : Pow12 w) (hl : xs.length = 32) (hr : ∀ x ∈ xs, (Lit.int .u8 x).wf = true) (_ : s.size ≤ maxLen) :
    Calls Tryd.prog 4 #[.agg (xs.map (Value.int .u8)).toArray, .string s] w fun q w' => q = .returned (.bool true) ∧ Below w.heap.size w w' :=
  hexIds_any hexProg xs s w hG hl (fun x hx => u8_of12 (hr x hx))
theorem law_nums (n m : Int) (s : ByteArray) (w : World) (hG : Pow12 w) (hn : (Lit.int .u64 n).wf = true) (hm : (Lit.int .u64 m).wf = true) (_ : s.size ≤ maxLen) :
    Calls Tryd.prog 5 #[.int .u64 n, .int .u64 m, .string s] w fun q w' => q = .returned (.bool true) ∧ Below w.heap.size w w' := by
  obtain ⟨N, rfl, h1⟩ := u64_of12 hn
  obtain ⟨M, rfl, h2⟩ := u64_of12 hm
  exact hexNums_any hexProg N M s w hG h1 h2
end Go.Proofs.YtnfjmhppajdmaaaDoor

/-
  Texts of stages that were proved on their own, joined: CrcProg. Each begins with its own words.
-/
import Derived.Test.YtinmmhbiomcdoaaGreatDoorJVaLawN21
import Derived.Test.YtinmmhbiomcdoaaGreatDoorParts
import Derived.Lib.SlBytesConst

/-
  What a program's sums (layer 11) come to, as a structure ('CrcProg'); the law's 'alive'; the law CrcMoves. New memory alone is written. Conditions: at most a million bytes and parts.
-/
namespace Go.Proofs.YtinmmhbiomcdoaaGreatDoor
open Go.RowKit

theorem crc_check : nv (crcOf 0#32 (bvs [49, 50, 51, 52, 53, 54, 55, 56, 57])) = 3808858755 := by decide +kernel
theorem crc_none : nv (crcOf 0#32 (bvs [])) = 0 := by decide
theorem parts_two11 (w : World) (A B : Option Addr) (m n c d : Nat) (xs ys : List Int) (hx : Ints .u8 w A m c xs) (hy : Ints .u8 w B n d ys) (t : TypeId) : Parts (w.alloc (.cells #[.slice A m c, .slice B n d] t)) (some ⟨w.heap.size, 0, none⟩) 2 2 [xs, ys] :=
  Parts.of_blk (Blk.new w t [.slice A m c, .slice B n d]) rfl (fun i hi => by
    rcases i with _ | _ | i
    · exact ⟨A, m, c, rfl, hx.keep (below1 _ _)⟩
    · exact ⟨B, n, d, rfl, hy.keep (below1 _ _)⟩
    · omega)
theorem parts_one11 (w : World) (A : Option Addr) (m c : Nat) (xs : List Int) (hx : Ints .u8 w A m c xs) (t : TypeId) : Parts (w.alloc (.cells #[.slice A m c] t)) (some ⟨w.heap.size, 0, none⟩) 1 1 [xs] :=
  Parts.of_blk (Blk.new w t [.slice A m c]) rfl (fun i hi => by
    obtain rfl : i = 0 := by omega
    exact ⟨A, m, c, rfl, hx.keep (below1 _ _)⟩)
theorem ints_new11 (w : World) (k : IntKind) (t : TypeId) (fr : Nat × Nat) (xs : List Int) (n : Nat) (hn : xs.length = n) : Ints k (w.alloc (.cells (xs.map (Value.int k)).toArray t fr)) (some ⟨w.heap.size, 0, none⟩) n n xs :=
  ⟨hn, Nat.le_refl _, .inr ⟨w.heap.size, 0, rfl, fun i hi => by
    rw [Nat.zero_add, cell_of_row _ _ i _ t fr (heap_alloc_new w _)]
    simpa using getElem?_mapInt k xs i (by omega)⟩⟩
end Go.Proofs.YtinmmhbiomcdoaaGreatDoor

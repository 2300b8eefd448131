/-
  What word.Bytes, word.Words, word.Add and the document's own answers to them come to: lists of numbers. Conditions: each word is a number from 0 to 2^32 - 1, each byte one from 0 to 255; at most 2^32 elements.
-/
import Derived.Test.YtcohbhimhacedaaDoorWordPick
import Derived.Test.YtcohbhimhacedaaDoorSlices
import Derived.Deep.RegionHeld3
import Derived.Deep.QuietTactic
import Derived.BigQuiet
namespace Go.Proofs.YtcohbhimhacedaaDoor
open Go.RowKit

theorem infoU8 : (Tryd.prog.info? 5).map (fun i => (i.zero, i.size, i.bytes)) = some (some (.int .u8 0), 1, 1) := by kernel_rfl
theorem infoU32 : (Tryd.prog.info? 71).map (fun i => (i.zero, i.size, i.bytes)) = some (some (.int .u32 0), 1, 4) := by kernel_rfl

theorem four_cells (w : World) (k : IntKind) (t : TypeId) (x : List Int) (cs : Array Value) (h : cs.toList = x.map (Value.int k)) : ∀ j u, (x.map (Value.int k))[j]? = some u → (w.alloc (.cells cs t)).cell? ((⟨w.heap.size, 0, none⟩ : Addr).add j) = some u := by
  rw [← h]; exact World.news_of_block (heap_alloc_new w _)
end Go.Proofs.YtcohbhimhacedaaDoor

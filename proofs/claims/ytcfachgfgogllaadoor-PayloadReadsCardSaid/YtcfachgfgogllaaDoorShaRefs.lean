/-
  What the document's own answers of layer 2 come to: tables, padded bytes, joined parts. Conditions: at most 2^33 bytes.
-/
import Derived.Test.YtcfachgfgogllaaDoorShaMath
import Derived.Test.YtcfachgfgogllaaDoorAppends
import Derived.Test.YtcfachgfgogllaaDoorWordBytes
namespace Go.Proofs.YtcfachgfgogllaaDoor
open Go.RowKit

theorem refStarts_any (w : World) : Calls Tryd.prog 51 #[] w fun e w' => ∃ b m c, e = .returned (.slice b m c) ∧ Ints .u32 w' b m c starts8.list ∧ Below w.heap.size w w' := by
  go_enter Tryd.func51, Tryd.ntmps51
  go_wp2
  go_ret
  exact ⟨_, _, _, rfl, Ints.of_blk (Blk.new w 39 (starts8.list.map (Value.int .u32))) rfl (Nat.le_refl _) (fun i hi => by rw [Nat.zero_add]; exact getElem?_mapInt _ _ _ hi), below1 _ _⟩

set_option maxRecDepth 100000 in
theorem refConstants_any (w : World) : Calls Tryd.prog 64 #[] w fun e w' => ∃ b m c, e = .returned (.slice b m c) ∧ Ints .u32 w' b m c kW ∧ Below w.heap.size w w' := by
  go_enter Tryd.func64, Tryd.ntmps64
  go_wp2
  go_ret
  exact ⟨_, _, _, rfl, Ints.of_blk (Blk.new w 39 (kW.map (Value.int .u32))) rfl (Nat.le_refl _) (fun i hi => by rw [Nat.zero_add]; exact getElem?_mapInt _ _ _ hi), below1 _ _⟩
end Go.Proofs.YtcfachgfgogllaaDoor

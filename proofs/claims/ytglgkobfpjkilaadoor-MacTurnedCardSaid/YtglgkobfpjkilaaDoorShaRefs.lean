/-
  What the document's own answers of layer 2 come to: tables, padded bytes, joined parts. Conditions: at most 2^33 bytes.
-/
import Derived.Test.YtglgkobfpjkilaaDoorShaMath
import Derived.Test.YtglgkobfpjkilaaDoorAppends
import Derived.Test.YtglgkobfpjkilaaDoorWordBytes
namespace Go.Proofs.YtglgkobfpjkilaaDoor
open Go.RowKit

theorem refStarts_any (w : World) : Calls Tryd.prog 26 #[] w fun e w' => ∃ b m c, e = .returned (.slice b m c) ∧ Ints .u32 w' b m c starts8.list ∧ Below w.heap.size w w' := by
  go_enter Tryd.func26, Tryd.ntmps26
  go_wp2
  go_ret
  exact ⟨_, _, _, rfl, Ints.of_blk (Blk.new w 57 (starts8.list.map (Value.int .u32))) rfl (Nat.le_refl _) (fun i hi => by rw [Nat.zero_add]; exact getElem?_mapInt _ _ _ hi), below1 _ _⟩

set_option maxRecDepth 100000 in
theorem refConstants_any (w : World) : Calls Tryd.prog 37 #[] w fun e w' => ∃ b m c, e = .returned (.slice b m c) ∧ Ints .u32 w' b m c kW ∧ Below w.heap.size w w' := by
  go_enter Tryd.func37, Tryd.ntmps37
  go_wp2
  go_ret
  exact ⟨_, _, _, rfl, Ints.of_blk (Blk.new w 57 (kW.map (Value.int .u32))) rfl (Nat.le_refl _) (fun i hi => by rw [Nat.zero_add]; exact getElem?_mapInt _ _ _ hi), below1 _ _⟩
end Go.Proofs.YtglgkobfpjkilaaDoor

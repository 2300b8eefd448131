/-
  The document's examples of layer 2 (alive) come to true; only new memory is written. Conditions: the package's variables hold the constants and the starts.
-/
import Derived.Test.YtickkogmmlpagaaDoorShaSumFn
import Derived.Test.YtickkogmmlpagaaDoorShaRefSum
import Derived.Test.YtickkogmmlpagaaDoorShaJoin
import Derived.Test.YtickkogmmlpagaaDoorEqArr
import Derived.Test.YtickkogmmlpagaaDoorRegion
import Derived.Lib.SlBytesConst
namespace Go.Proofs.YtickkogmmlpagaaDoor
open Go.RowKit

theorem abc_sum : (shaSum [97, 98, 99]).getD 0 0 = 186 ∧ (shaSum [97, 98, 99]).getD 1 0 = 120 ∧ (shaSum [97, 98, 99]).getD 31 0 = 173 := by decide +kernel
theorem noGuardId : Tryd.prog.eqGuardType Tryd.prog.depth 30 = false := by kernel_rfl
theorem same_id (xs : List Int) (h : xs.length = 32) (w : World) : (Op.equalIn 10000 30 (.agg (xs.map (Value.int .u8)).toArray) (.agg (xs.map (Value.int .u8)).toArray)).run Tryd.prog w = .ok true w := by
  rw [run_equalIn_ints w 9998 30 5 32 .u8 Tryd.underlying30 Tryd.underlying5 sizeU8 xs xs h h]
  simp
theorem parts_two (w : World) (A B : Option Addr) (m n c d : Nat) (xs ys : List Int) (hx : Ints .u8 w A m c xs) (hy : Ints .u8 w B n d ys) (t : TypeId) : Parts (w.alloc (.cells #[.slice A m c, .slice B n d] t)) (some ⟨w.heap.size, 0, none⟩) 2 2 [xs, ys] :=
  Parts.of_blk (Blk.new w t [.slice A m c, .slice B n d]) rfl (fun i hi => by
    rcases i with _ | _ | i
    · exact ⟨A, m, c, rfl, hx.keep (below1 _ _)⟩
    · exact ⟨B, n, d, rfl, hy.keep (below1 _ _)⟩
    · omega)

theorem ints_new (w : World) (k : IntKind) (t : TypeId) (fr : Nat × Nat) (xs : List Int) (n : Nat) (hn : xs.length = n) : Ints k (w.alloc (.cells (xs.map (Value.int k)).toArray t fr)) (some ⟨w.heap.size, 0, none⟩) n n xs :=
  ⟨hn, Nat.le_refl _, .inr ⟨w.heap.size, 0, rfl, fun i hi => by
    rw [Nat.zero_add, cell_of_row _ _ i _ t fr (heap_alloc_new w _)]
    simpa using getElem?_mapInt k xs i (by omega)⟩⟩

set_option maxRecDepth 100000 in
set_option maxHeartbeats 1600000 in
theorem alive2_any (w : World) (hG : Glob w) : Calls Tryd.prog 7 #[] w fun e w' => e = .returned (.bool true) ∧ Below w.heap.size w w' := by
  have i1 : Ints .u8 (w.alloc (.cells #[.int .u8 97] 5 (1, 2))) (some ⟨w.heap.size, 0, none⟩) 1 1 [97] := ints_new w .u8 5 (1, 2) [97] 1 rfl
  have i2 : Ints .u8 ((w.alloc (.cells #[.int .u8 97] 5 (1, 2))).alloc (.cells #[.int .u8 98, .int .u8 99] 5 (2, 3))) (some ⟨(w.alloc (.cells #[.int .u8 97] 5 (1, 2))).heap.size, 0, none⟩) 2 2 [98, 99] := ints_new _ .u8 5 (2, 3) [98, 99] 2 rfl
  rw [size1] at i2
  have hP := parts_two _ _ _ _ _ _ _ _ _ (i1.keep (below1 _ (.cells #[.int .u8 98, .int .u8 99] 5 (2, 3)))) i2 27
  rw [size2] at hP
  have hb3 := below3 w (.cells #[.int .u8 97] 5 (1, 2)) (.cells #[.int .u8 98, .int .u8 99] 5 (2, 3)) (.cells #[.slice (some ⟨w.heap.size, 0, none⟩) 1 1, .slice (some ⟨w.heap.size + 1, 0, none⟩) 2 2] 27)
  have hG3 := hG.keep hb3 (Nat.le_refl _)
  have kc := fun (w : World) (C : Array Value) (n c : Nat) => Lib.run_convert_bytes_const (P := Tryd.prog) w 27 5 C n c Tryd.underlying27 Tryd.underlying5
  have kc1 := kc (w.alloc (.cells #[.int .u8 97] 5 (1, 2)))
  rw [size1] at kc1
  go_enter Tryd.func7, Tryd.ntmps7
  go_wp2_with fail
  refine (sumFn_any _ 2 2 [[97], [98, 99]] _ hP (by decide) hG3 (by decide) (by decide)).mono ?_
  rintro e w5 ⟨rfl, hb5⟩
  rw [show ([[97], [98, 99]] : List (List Int)).flatten = [97, 98, 99] from rfl]
  obtain ⟨s0, hs0⟩ : ∃ s0, s0 = shaSum [97, 98, 99] := ⟨_, rfl⟩
  have hsl : s0.length = 32 := by rw [hs0]; exact shaSum_length _
  obtain ⟨q0, q1, q31⟩ := abc_sum
  rw [← hs0] at q0 q1 q31
  rw [← hs0]
  clear hs0
  obtain ⟨out, hout⟩ : ∃ out, out = s0.map (Value.int .u8) := ⟨_, rfl⟩
  have hol : out.length = 32 := by rw [hout, List.length_map, hsl]
  have o0 : out[0]? = some (.int .u8 186) := by rw [hout, getElem?_mapInt _ _ _ (by omega), q0]
  have o1 : out[1]? = some (.int .u8 120) := by rw [hout, getElem?_mapInt _ _ _ (by omega), q1]
  have o31 : out[31]? = some (.int .u8 173) := by rw [hout, getElem?_mapInt _ _ _ (by omega), q31]
  rw [← hout]
  have HOL := Lib.hid hol
  have HI : IsRow Tryd.prog 30 out.length := by rw [hol]; exact rowId
  have HO1 := Lib.hid (show ∀ v ∈ out, v.oneCell' = true by rw [hout]; exact ints_oneCell' _ _)
  have HOF := Lib.hid (show 0 + out.length ≤ (zb 32).length by rw [hol]; decide)
  have hG5 := hG3.keep hb5 (Nat.le_refl _)
  have hb35 := hb3.trans (hb5.mono hb3.size)
  have Ho0 := Lib.hid o0; have Ho1 := Lib.hid o1; have Ho31 := Lib.hid o31
  have hsame := same_id (shaSum []) (shaSum_length _)
  obtain ⟨E, hE⟩ : ∃ E, E = ((shaSum []).map (Value.int .u8)).toArray := ⟨_, rfl⟩
  rw [← hE] at hsame
  have HE := Lib.hid hE
  have hng := noGuardId
  clear hout hol hsl q0 q1 q31 o0 o1 o31 hE kc kc1 hP i1 i2 hb3 hG3 hb5
  go_wp2_with (first
    | ((with_reducible refine wpList_alloc_blk rfl 30 rfl zeroId ?_)
       refine wpList_store_part (g := w5.heap.size) (off := 0) (t := 30) (cur := zb 32) (cs := out) rfl 30 (.tmp 1) (.tmp 7) rfl ?_ ?_ (Blk.new w5 _ (zb 32)) HI ?_ HO1.out ?_
       rfl
       rfl
       exact HOF.out
       intro w6 hX' hg6
       have hX := hX'.cast (overV_all _ _ (by rw [HOL.out]; rfl))
       have c0 := hX.cell 0
       have c1 := hX.cell 1
       have c31 := hX.cell 31
       rw [Ho0.out] at c0
       rw [Ho1.out] at c1
       rw [Ho31.out] at c31
       have hb6 : Below w5.heap.size w5 w6 := (below1 w5 _).trans (below_of_grown hg6 (Nat.le_refl _) (by rw [size1]; omega))
       have hG6 := hG5.keep hb6 (Nat.le_refl _)
       clear hX' hg6)
    | (go_at_call 14
       refine (sumFn_any none 0 0 [] _ (parts_nil _ _) (by simp) hG6 (by simp) (by decide)).mono ?_
       rintro e w7 ⟨rfl, hb7⟩
       rw [show ([] : List (List Int)).flatten = [] from rfl, ← HE.out])
    | (go_at_call 11
       refine (refSum_any none 0 0 [] _ ⟨rfl, Nat.le_refl _, .inl rfl⟩ (by simp) (by decide)).mono ?_
       rintro e w8 ⟨rfl, hb8⟩
       rw [← HE.out]))
  go_ret
  exact ⟨rfl, hb35.trans ((hb6.trans ((hb7.mono hb6.size).trans (hb8.mono (Nat.le_trans hb6.size hb7.size)))).mono hb35.size)⟩
end Go.Proofs.YtickkogmmlpagaaDoor

/-
  Texts of stages that were proved on their own, joined: PayAlive. Each begins with its own words.
-/
import Derived.Test.YtcfachgfgogllaaDoorJPayAll8
import Derived.Test.YtcfachgfgogllaaDoorJPayAll5
import Derived.Test.YtcfachgfgogllaaDoorJPayAll10

/-
  The example of layer 13's laws ('alive'), by what the program and the document's own words come to. New memory alone is written. Conditions: sha's package variables hold the constants and the starts.
-/
namespace Go.Proofs.YtcfachgfgogllaaDoor
open Go.RowKit

theorem exTier (w : World) : TiersAt ((w.alloc (.cells #[.int .u8 9] 5)).alloc (.cells #[.int .u32 5, .slice (some ⟨w.heap.size, 0, none⟩) 1 1] 41)) (some ⟨w.heap.size + 1, 0, none⟩) 1 1 [(5, [9])] := by
  have h1 := (Blk.new w 5 [.int .u8 9]).alloc (.cells #[.int .u32 5, .slice (some ⟨w.heap.size, 0, none⟩) 1 1] 41)
  have h2 : Blk ((w.alloc (.cells #[.int .u8 9] 5)).alloc (.cells #[.int .u32 5, .slice (some ⟨w.heap.size, 0, none⟩) 1 1] 41)) (w.heap.size + 1) 41 [.int .u32 5, .slice (some ⟨w.heap.size, 0, none⟩) 1 1] := Blk.new1 w _ 41 _
  refine ⟨rfl, Nat.le_refl _, .inr ⟨_, 0, rfl, fun i t ht => ?_⟩⟩
  rcases i with _ | i
  · obtain rfl : (5, [9]) = t := by simpa using ht
    refine ⟨some ⟨w.heap.size, 0, none⟩, 1, fun j v hj => ?_, ⟨rfl, Nat.le_refl _, .inr ⟨_, 0, rfl, fun i hi => ?_⟩⟩⟩
    · rcases j with _ | _ | j
      · obtain rfl : _ = v := by simpa using hj
        exact h2.cell 0
      · obtain rfl : _ = v := by simpa using hj
        exact h2.cell 1
      · simp at hj
    · rcases i with _ | i
      · exact h1.cell 0
      · have hi : i + 1 < 1 := hi
        omega
  · simp at ht
theorem exEnc : encL [(5, [9])] = ([1, 0, 0, 0, 5, 1, 9], 0) := by decide +kernel
theorem exStr : strOfNums [1, 0, 0, 0, 5, 1, 9] = { data := #[1, 0, 0, 0, 5, 1, 9] } := by decide +kernel
theorem exRanged : ∀ t ∈ [((5 : Int), [(9 : Int)])], Ranged t := by
  intro t ht
  obtain rfl := List.mem_singleton.1 ht
  exact ⟨by decide, by decide⟩

set_option maxRecDepth 100000 in
set_option maxHeartbeats 1600000 in
theorem alive13_any (w : World) (hG : Glob w) : Calls Tryd.prog 8 #[] w fun e w' => e = .returned (.bool true) ∧ Below w.heap.size w w' := by
  have b0 := below2 w (.cells #[.int .u8 9] 5) (.cells #[.int .u32 5, .slice (some ⟨w.heap.size, 0, none⟩) 1 1] 41)
  have hE := ppEncode_any _ 1 1 [(5, [9])] _ (exTier w) exRanged (by decide)
  rw [exEnc] at hE
  dsimp only [List.length_cons, List.length_nil] at hE
  have hEH := Lib.hid hE
  have hq := idEq13 (shaSum []) (shaSum []) (shaSum_length _) (shaSum_length _)
  have gl := Lib.hid (fun w' (h : Below w.heap.size w w') => hG.keep h (Nat.le_refl _))
  have nilI : ∀ w' : World, Ints .u8 w' none 0 0 [] := fun _ => ⟨rfl, Nat.le_refl _, .inl rfl⟩
  have t1 := fun w' h => ppTxID_any none 0 0 [] w' (gl.out w' h) (nilI w') (by simp) (by decide)
  have t2 := fun w' => r13ID_any none 0 0 [] w' (nilI w') (by simp) (by decide)
  have cv := Lib.hid (fun (w' : World) (b : Option Addr) (k d : Nat) (zs : List Int) (h : Ints .u8 w' b k d zs) => h.string (P := Tryd.prog) 27 9 5 Tryd.underlying27 Tryd.underlying5 Tryd.underlying9)
  have hng := noGuard13
  obtain ⟨X, hX⟩ : ∃ X, (shaSum []).map (Value.int .u8) = X := ⟨_, rfl⟩
  rw [decide_eq_true rfl] at hq
  rw [hX] at hq t1 t2
  have t1H := Lib.hid t1
  have t2H := Lib.hid t2
  have b0H := Lib.hid b0
  clear hE hX t1 t2 nilI b0 hG
  go_enter Tryd.func8, Tryd.ntmps8
  go_wp2_with fail
  refine hEH.out.mono ?_
  rintro q w1 ⟨b, d, rfl, hI, b1⟩
  have B1 := b0H.out.trans (b1.mono b0H.out.size)
  have v1 := cv.out w1 b 7 d _ hI
  rw [exStr] at v1
  clear hEH b0H b1 hI
  go_wp2_with fail
  refine (t1H.out w1 B1).mono ?_
  rintro q w2 ⟨rfl, b2⟩
  have B2 := B1.trans (b2.mono B1.size)
  clear v1 b2 B1
  go_wp2_with fail
  refine (t2H.out w2).mono ?_
  rintro q w3 ⟨rfl, b3⟩
  have B3 := B2.trans (b3.mono B2.size)
  have hq3 := hq w3
  clear b3 B2
  go_wp2
  go_ret
  exact ⟨rfl, B3⟩
end Go.Proofs.YtcfachgfgogllaaDoor

/-
  What a program's texts (layer 12) come to, as a structure ('HexProg'); the law's 'alive'. New memory alone is written. Conditions: at most three thousand signs.
-/
import Derived.Test.YtnfjmhppajdmaaaDoorHexRefI
import Derived.Test.YtnfjmhppajdmaaaDoorHexRefN
namespace Go.Proofs.YtnfjmhppajdmaaaDoor
open Go.RowKit

structure HexProg where
  Gl : World → Prop
  N : Nat
  gl_le : ∀ {w}, Gl w → N ≤ w.heap.size
  gl_keep : ∀ {w w'}, Gl w → Below N w w' → Gl w'
  text : ∀ (a : Option Addr) (n c : Nat) (xs : List Int) (w : World), Gl w → Ints .u8 w a n c xs → okB xs → n ≤ 3000 →
    Calls Tryd.prog 7 #[.slice a n c] w fun q w' => q = .returned (.string (strOfNums (textL xs))) ∧ Below w.heap.size w w'
  bytes : ∀ (s : ByteArray) (w : World), Gl w → s.size ≤ 3000 →
    Calls Tryd.prog 8 #[.string s] w fun q w' => ∃ b c, q = .returned (.tuple #[.slice b (unText (numsOf s)).1.length c, .int .i64 (unText (numsOf s)).2]) ∧ Ints .u8 w' b (unText (numsOf s)).1.length c (unText (numsOf s)).1 ∧ Below w.heap.size w w'
  idText : ∀ (xs : List Int) (w : World), Gl w → xs.length = 32 → okB xs →
    Calls Tryd.prog 11 #[.agg (xs.map (Value.int .u8)).toArray] w fun q w' => q = .returned (.string (strOfNums (idText xs))) ∧ Below w.heap.size w w'
  idOf : ∀ (s : ByteArray) (w : World), Gl w → s.size ≤ 3000 →
    Calls Tryd.prog 12 #[.string s] w fun q w' => q = .returned (.tuple #[.agg ((unId (numsOf s)).1.map (Value.int .u8)).toArray, .int .i64 (unId (numsOf s)).2]) ∧ Below w.heap.size w w'
  num : ∀ (n : Nat) (w : World), Gl w → n < 18446744073709551616 →
    Calls Tryd.prog 15 #[.int .u64 (n : Int)] w fun q w' => q = .returned (.string (strOfNums (numL n))) ∧ Below w.heap.size w w'
  numOf : ∀ (s : ByteArray) (m : Nat) (w : World), Gl w → s.size ≤ 3000 → m < 18446744073709551616 →
    Calls Tryd.prog 16 #[.string s, .int .u64 (m : Int)] w fun q w' => q = .returned (.tuple #[.int .u64 ((unNum (numsOf s) m).1 : Int), .int .i64 (unNum (numsOf s) m).2]) ∧ Below w.heap.size w w'

theorem ex_id1 : unId (numsOf { data := #[48, 97, 102, 102] }) = (10 :: 255 :: List.replicate 30 0, 0) := by decide +kernel
theorem ex_id2 : unId (numsOf { data := #[48, 97, 48, 48] }) = (List.replicate 32 0, 4) := by decide +kernel
theorem ex_text : strOfNums (textL [10, 255]) = { data := #[48, 97, 102, 102] } := by decide +kernel
theorem ex_num : strOfNums (numL 120) = { data := #[49, 50, 48] } := by
  rw [numL_big (by decide), numL_big (by decide), numL_small (by decide)]
  rfl
theorem two_at (w : World) (t : TypeId) (x y : Int) : Ints .u8 (w.alloc (.cells #[.int .u8 x, .int .u8 y] t)) (some ⟨w.heap.size, 0, none⟩) 2 2 [x, y] := by
  refine ⟨rfl, Nat.le_refl _, .inr ⟨_, _, rfl, fun i hi => ?_⟩⟩
  have hb := Blk.new w t [.int .u8 x, .int .u8 y]
  rcases i with _ | _ | i
  · exact hb.cell 0
  · exact hb.cell 1
  · omega

set_option maxRecDepth 100000 in
set_option maxHeartbeats 1600000 in
theorem alive12_any (HP : HexProg) (w : World) (hG : HP.Gl w) : Calls Tryd.prog 6 #[] w fun e w' => e = .returned (.bool true) ∧ Below w.heap.size w w' := by
  have hN := HP.gl_le hG
  have gl := Lib.hid (fun w' (h : Below w.heap.size w w') => HP.gl_keep hG (h.mono hN))
  have i1 := fun w' (h : Below w.heap.size w w') => HP.idOf { data := #[48, 97, 102, 102] } w' (gl.out w' h) (by decide)
  have i2 := fun w' (h : Below w.heap.size w w') => HP.idOf { data := #[48, 97, 48, 48] } w' (gl.out w' h) (by decide)
  rw [ex_id1] at i1
  rw [ex_id2] at i2
  obtain ⟨X, hX⟩ : ∃ X, (10 :: 255 :: List.replicate 30 (0 : Int)).map (Value.int .u8) = X := ⟨_, rfl⟩
  obtain ⟨Z, hZ⟩ : ∃ Z, (List.replicate 32 (0 : Int)).map (Value.int .u8) = Z := ⟨_, rfl⟩
  have hZZ : Zero Tryd.prog 30 Z := hZ ▸ zeroId9
  dsimp only at i1 i2
  rw [hX] at i1
  rw [hZ] at i2
  have hXl : X.length = 32 := by rw [← hX]; rfl
  have hZl : Z.length = 32 := by rw [← hZ]; rfl
  have hIX : IsRow Tryd.prog 30 X.length := by rw [hXl]; exact rowId9
  have hIZ : IsRow Tryd.prog 30 Z.length := by rw [hZl]; exact rowId9
  have hX1 := Lib.hid (show ∀ v ∈ X, v.oneCell' = true by rw [← hX]; exact ints_oneCell' _ _)
  have hZ1 := Lib.hid (show ∀ v ∈ Z, v.oneCell' = true by rw [← hZ]; exact ints_oneCell' _ _)
  have hfX := Lib.hid (show 0 + X.length ≤ Z.length by omega)
  have hfZ := Lib.hid (show 0 + Z.length ≤ Z.length by omega)
  have hoX := Lib.hid (overV_all Z X (by omega))
  have hoZ := Lib.hid (overV_all Z Z rfl)
  have hX2 : X[1]? = some (.int .u8 255) := by rw [← hX]; rfl
  have tx := Lib.hid (fun w' (h : Below w.heap.size w w') => HP.text (some ⟨w'.heap.size, 0, none⟩) 2 2 [10, 255] (w'.alloc (.cells #[.int .u8 10, .int .u8 255] 5)) (gl.out _ (h.alloc h.size _)) (two_at w' _ 10 255) (by unfold okB; decide) (by decide))
  have nm := Lib.hid (fun w' (h : Below w.heap.size w w') => HP.num 120 w' (gl.out w' h) (by decide))
  rw [ex_text] at tx
  rw [ex_num] at nm
  have i1H := Lib.hid i1
  have i2H := Lib.hid i2
  clear hX hZ i1 i2
  go_enter Tryd.func6, Tryd.ntmps6
  go_wp2_with fail
  refine (i1H.out w (Below.refl _ _)).mono ?_
  rintro q w1 ⟨rfl, b1⟩
  have hk1 := Blk.new w1 30 Z
  have B2 := b1.alloc b1.size (.cells Z.toArray 30)
  have hs1 := b1.size
  clear b1
  go_wp2_with (first
    | (with_reducible refine wpList_alloc_blk rfl 30 rfl hZZ ?_)
    | (refine wpList_store_part (cs := X) rfl 30 (.tmp 1) (.tmp 7) rfl rfl rfl hk1 hIX hfX.out hX1.out ?_; intro w3 hk3 hg3; refine RowKit.Hid.out ?_))
  refine Lib.hid ?_
  rw [hoX.out] at hk3
  have B3 : Below w.heap.size w w3 := B2.grown hg3 (by rw [size1]; omega) (fun k hk => by injection hk with hk; omega)
  obtain ⟨G, hGe⟩ : ∃ G, w1.heap.size = G := ⟨_, rfl⟩
  rw [hGe] at hk3 ⊢
  clear hk1 B2 hg3 hs1 hGe
  go_wp2_with fail
  refine (i2H.out w3 B3).mono ?_
  rintro q w4 ⟨rfl, b4⟩
  have k4 := hk3.keep b4 hk3.lt
  have B4 := B3.trans (b4.mono B3.size)
  have hk5 := Blk.new w4 30 Z
  have k5 := k4.alloc (.cells Z.toArray 30)
  have B5 := B4.alloc B4.size (.cells Z.toArray 30)
  have hs4 := B4.size
  have hG4 := k4.lt
  clear hk3 B3 b4 k4 B4
  go_wp2_with (first
    | (with_reducible refine wpList_alloc_blk rfl 30 rfl hZZ ?_)
    | (refine wpList_store_part (cs := Z) rfl 30 (.tmp 3) (.tmp 11) rfl rfl rfl hk5 hIZ hfZ.out hZ1.out ?_; intro w6 hk6 hg6; refine RowKit.Hid.out ?_))
  refine Lib.hid ?_
  have k6 := k5.grown hg6 (by intro e; injection e with e; omega)
  have B6 : Below w.heap.size w w6 := B5.grown hg6 (by rw [size1]; omega) (fun k hk => by injection hk with hk; omega)
  clear hk5 k5 B5 hg6 hk6
  go_wp2_with fail
  refine (tx.out w6 B6).mono ?_
  rintro q w7 ⟨rfl, b7⟩
  have b7' := (below1 w6 (.cells #[.int .u8 10, .int .u8 255] 5)).trans (b7.mono (by rw [size1]; omega))
  have k7 := k6.keep b7' k6.lt
  have B7 := B6.trans (b7'.mono B6.size)
  have c7 : w7.cell? ⟨G, 1, none⟩ = some (.int .u8 255) := (k7.cell 1).trans hX2
  clear k6 B6 b7 b7'
  go_wp2_with fail
  refine (nm.out w7 B7).mono ?_
  rintro q w8 ⟨rfl, b8⟩
  go_wp2
  go_ret
  exact ⟨rfl, B7.trans (b8.mono B7.size)⟩
end Go.Proofs.YtnfjmhppajdmaaaDoor

/-
  The law HexIds, out of what a program's texts come to ('HexProg'). New memory alone is written. Conditions: an id's bytes below 256.
-/
import Derived.Test.YtnfjmhppajdmaaaDoorHexBytes
import Derived.Test.YtnfjmhppajdmaaaDoorEqArr
namespace Go.Proofs.YtnfjmhppajdmaaaDoor
open Go.RowKit

/-- A load of a whole block under a guard that holds. -/
theorem wpList_load_if {P : Program} {w : World} {ops : Array Oper} {rest : List Oper} {o : Oper} {a : Act} {Q : Exit → Act → World → Prop} (hw : Region.wanted o (yielded ops a.tmps) = true) (ty : TypeId) (x : Operand) (ho : o.op = .load ty x)
    {g : Nat} (hx : a.eval x = .pointer (some ⟨g, 0, none⟩)) {t : TypeId} {cs : List Value} (hg : Blk w g t cs) {n : Nat} (hr : IsRow P ty n) (hn : cs.length = n)
    (h : wpList P ops Q rest (a.put o.dst (.agg cs.toArray)) w) : wpList P ops Q (o :: rest) a w := by
  subst hn
  obtain ⟨⟨d, hu, hd⟩, hi⟩ := hr
  refine wpList_step fun K hK => ?_
  rw [if_pos hw]
  exact wp_load_mid ty x ho g 0 hx cs d (hg.range 0 cs (fun j v hj => by simpa using hj)) hu hd (by simpa using hi) (hK _ _ h)
theorem id_eq12 (xs ys : List Int) (hx : xs.length = 32) (hy : ys.length = 32) (w : World) : (Op.equalIn 10000 30 (.agg (xs.map (Value.int .u8)).toArray) (.agg (ys.map (Value.int .u8)).toArray)).run Tryd.prog w = .ok (xs == ys) w :=
  run_equalIn_ints (P := Tryd.prog) w 9998 30 5 32 .u8 Tryd.underlying30 Tryd.underlying5 sizeU8s xs ys hx hy

set_option maxRecDepth 100000 in
set_option maxHeartbeats 2000000 in
theorem hexIds_any (HP : HexProg) (xs : List Int) (s : ByteArray) (w : World) (hG : HP.Gl w) (hl : xs.length = 32) (hr : okB xs) :
    Calls Tryd.prog 4 #[.agg (xs.map (Value.int .u8)).toArray, .string s] w fun q w' => q = .returned (.bool true) ∧ Below w.heap.size w w' := by
  have hN := HP.gl_le hG
  have gl := Lib.hid (fun w' (h : Below w.heap.size w w') => HP.gl_keep hG (h.mono hN))
  have alH := Lib.hid (fun w' h => alive12_any HP w' (gl.out w' h))
  have hb0 := below1 w (.cells (xs.map (Value.int .u8)).toArray 30)
  have hk0 := Blk.new w 30 (xs.map (Value.int .u8))
  by_cases hz : 1000 < s.size
  · have hzi : 1000 < (s.size : Int) := by omega
    obtain ⟨X, hX⟩ : ∃ X, xs.map (Value.int .u8) = X := ⟨_, rfl⟩
    rw [hX] at hb0 hk0 ⊢
    clear hX
    go_enter Tryd.func4, Tryd.ntmps4
    go_wp2_with fail
    refine (alH.out _ hb0).mono ?_
    rintro q w9 ⟨rfl, b9⟩
    go_wp2
    go_ret
    exact ⟨rfl, hb0.trans (b9.mono hb0.size)⟩
  have hzi : ¬ 1000 < (s.size : Int) := by omega
  have ct := fun w' h => HP.idText xs w' (gl.out w' h) hl hr
  have rt := fun w' => rId_any xs hl hr w'
  have hrt : okB (xs.take (cutN xs 32)) := fun x hx => hr x (List.mem_of_mem_take hx)
  have htz : (strOfNums (idText xs)).size ≤ 3000 := by rw [strOfNums_size]; have := textL_len (xs.take (cutN xs 32)); rw [List.length_take] at this; unfold idText; omega
  have co := fun w' h => HP.idOf (strOfNums (idText xs)) w' (gl.out w' h) htz
  rw [nums_str (show okB (idText xs) from textL_range hrt), unId_idText hl hr] at co
  have cs := fun w' h => HP.idOf s w' (gl.out w' h) (by omega)
  have rs := fun w' => rIdOf_any s w' (by omega)
  have hsn := str_nums s
  obtain ⟨ss, hss⟩ : ∃ ss, numsOf s = ss := ⟨_, rfl⟩
  rw [hss] at cs rs hsn
  have hzl := unId_len ss
  have hzr := unId_range ss
  obtain ⟨zs, e, hu⟩ : ∃ zs e, unId ss = (zs, e) := ⟨_, _, rfl⟩
  rw [hu] at cs rs hzl hzr
  dsimp only at cs rs hzl hzr co
  have hback := fun (h : e = 0) => idText_unId (ss := ss) (xs := zs) (by rw [hu, h])
  have ck := fun w' h => HP.idText zs w' (gl.out w' h) hzl hzr
  have q1 := id_eq12 xs xs hl hl
  have q2 := id_eq12 zs zs hzl hzl
  simp only [beq_self_eq_true] at q1 q2
  have q0 := noGuardIds
  obtain ⟨T, hT⟩ : ∃ T, strOfNums (idText xs) = T := ⟨_, rfl⟩
  rw [hT] at ct rt co
  obtain ⟨X, hX⟩ : ∃ X, xs.map (Value.int .u8) = X := ⟨_, rfl⟩
  obtain ⟨Y, hY⟩ : ∃ Y, zs.map (Value.int .u8) = Y := ⟨_, rfl⟩
  have hXl : X.length = 32 := by rw [← hX, List.length_map, hl]
  have hYl : Y.length = 32 := by rw [← hY, List.length_map, hzl]
  have hX1 := Lib.hid (show ∀ v ∈ X, v.oneCell' = true by rw [← hX]; exact ints_oneCell' _ _)
  have hY1 := Lib.hid (show ∀ v ∈ Y, v.oneCell' = true by rw [← hY]; exact ints_oneCell' _ _)
  rw [hX] at ct rt co q1 hk0 hb0 ⊢
  rw [hY] at cs rs ck q2
  have hIX : IsRow Tryd.prog 30 X.length := by rw [hXl]; exact rowId9
  have hIY : IsRow Tryd.prog 30 Y.length := by rw [hYl]; exact rowId9
  obtain ⟨Z, hZ⟩ : ∃ Z, (List.replicate 32 (0 : Int)).map (Value.int .u8) = Z := ⟨_, rfl⟩
  have hZZ : Zero Tryd.prog 30 Z := hZ ▸ zeroId9
  have hZl : Z.length = 32 := by rw [← hZ]; rfl
  have hfX := Lib.hid (show 0 + X.length ≤ Z.length by omega)
  have hfY := Lib.hid (show 0 + Y.length ≤ Z.length by omega)
  have hoX := Lib.hid (overV_all Z X (by omega))
  have hoY := Lib.hid (overV_all Z Y (by omega))
  have ctH := Lib.hid ct
  have rtH := Lib.hid rt
  have coH := Lib.hid co
  have csH := Lib.hid cs
  have rsH := Lib.hid rs
  have ckH := Lib.hid ck
  have bkH := Lib.hid hback
  have hsnH := Lib.hid hsn
  clear ct rt co cs rs ck hback hX hY hZ hss hT htz hrt hz hsn hu
  obtain ⟨G, hGe⟩ : ∃ G, w.heap.size = G := ⟨_, rfl⟩
  have hGH := Lib.hid hGe
  rw [hGe] at hk0
  clear hGe
  go_enter Tryd.func4, Tryd.ntmps4
  go_wp2_with (rw [hGH.out]; (refine wpList_load_blk rfl 30 (.tmp 2) rfl ?_ hk0 hIX rfl ?_); rfl)
  obtain ⟨V, hV⟩ : ∃ V, w.alloc (.cells X.toArray 30) = V := ⟨_, rfl⟩
  rw [hV] at hk0 hb0 ⊢
  clear hV
  refine (ctH.out V hb0).mono ?_
  rintro q w1 ⟨rfl, b1⟩
  have g1 := hk0.keep b1 hk0.lt
  have B1 := hb0.trans (b1.mono hb0.size)
  clear hk0 hb0 b1
  go_wp2_with fail
  refine (coH.out w1 B1).mono ?_
  rintro q w2 ⟨rfl, b2⟩
  have g2 := (g1.keep b2 g1.lt).alloc (.cells Z.toArray 30)
  have B2 := B1.trans (b2.mono B1.size)
  have s2 := B2.size
  have B2 := B2.alloc s2 (.cells Z.toArray 30)
  have p2 := Blk.new w2 30 Z
  have d2 : G ≠ w2.heap.size := by have := g1.lt; have := b2.size; omega
  clear g1 B1 b2
  go_wp2_with (first
    | (with_reducible refine wpList_alloc_blk rfl 30 rfl hZZ ?_)
    | (refine wpList_store_part (cs := X) rfl 30 (.tmp 6) (.tmp 21) rfl rfl rfl p2 hIX hfX.out hX1.out ?_; intro w3 p3 u3; refine RowKit.Hid.out ?_))
  refine Lib.hid ?_
  rw [hoX.out] at p3
  have g3 := g2.grown u3 (by intro e; injection e with e; exact d2 e)
  have B3 : Below w.heap.size w w3 := B2.grown u3 (by rw [size1]; omega) (fun k hk => by injection hk with hk; omega)
  obtain ⟨P, hP⟩ : ∃ P, w2.heap.size = P := ⟨_, rfl⟩
  rw [hP] at p3 ⊢
  clear p2 u3 g2 B2 s2 d2 hP
  go_wp2_with ((refine wpList_load_blk rfl 30 (.tmp 2) rfl ?_ g3 hIX rfl ?_); rfl)
  refine (rtH.out w3).mono ?_
  rintro q w4 ⟨rfl, b4⟩
  have g4 := g3.keep b4 g3.lt
  have p4 := p3.keep b4 p3.lt
  have B4 := B3.trans (b4.mono B3.size)
  clear g3 p3 B3 b4
  go_wp2_with (first
    | ((first | refine wpList_load_blk rfl 30 (.tmp 6) rfl ?_ p4 hIX rfl ?_ | refine wpList_load_if (by rfl) 30 (.tmp 6) rfl ?_ p4 hIX rfl ?_); rfl)
    | ((first | refine wpList_load_blk rfl 30 (.tmp 2) rfl ?_ g4 hIX rfl ?_ | refine wpList_load_if (by rfl) 30 (.tmp 2) rfl ?_ g4 hIX rfl ?_); rfl))
  refine (csH.out w4 B4).mono ?_
  rintro q w5 ⟨rfl, b5⟩
  have B5 := B4.trans (b5.mono B4.size)
  have s5 := B5.size
  have B5 := B5.alloc s5 (.cells Z.toArray 30)
  have p5 := Blk.new w5 30 Z
  clear B4 b5 g4 p4
  go_wp2_with (first
    | (with_reducible refine wpList_alloc_blk rfl 30 rfl hZZ ?_)
    | (refine wpList_store_part (cs := Y) rfl 30 (.tmp 8) (.tmp 39) rfl rfl rfl p5 hIY hfY.out hY1.out ?_; intro w6 p6 u6; refine RowKit.Hid.out ?_))
  refine Lib.hid ?_
  rw [hoY.out] at p6
  have B6 : Below w.heap.size w w6 := B5.grown u6 (by rw [size1]; omega) (fun k hk => by injection hk with hk; omega)
  obtain ⟨P2, hP⟩ : ∃ P, w5.heap.size = P := ⟨_, rfl⟩
  rw [hP] at p6 ⊢
  clear p5 u6 B5 s5 hP
  go_wp2_with fail
  refine (rsH.out w6).mono ?_
  rintro q w7 ⟨rfl, b7⟩
  have p7 := (p6.keep b7 p6.lt).alloc (.cells Z.toArray 30)
  have B7 := B6.trans (b7.mono B6.size)
  have s7 := B7.size
  have B7 := B7.alloc s7 (.cells Z.toArray 30)
  have r7 := Blk.new w7 30 Z
  have d7 : P2 ≠ w7.heap.size := by have := p6.lt; have := b7.size; omega
  clear p6 B6 b7
  go_wp2_with (first
    | (with_reducible refine wpList_alloc_blk rfl 30 rfl hZZ ?_)
    | (refine wpList_store_part (cs := Y) rfl 30 (.tmp 10) (.tmp 44) rfl rfl rfl r7 hIY hfY.out hY1.out ?_; intro w8 r8 u8; refine RowKit.Hid.out ?_))
  refine Lib.hid ?_
  rw [hoY.out] at r8
  have p8 := p7.grown u8 (by intro e; injection e with e; exact d7 e)
  have B8 : Below w.heap.size w w8 := B7.grown u8 (by rw [size1]; omega) (fun k hk => by injection hk with hk; omega)
  obtain ⟨P3, hP⟩ : ∃ P, w7.heap.size = P := ⟨_, rfl⟩
  rw [hP] at r8 ⊢
  clear p7 u8 B7 s7 d7 r7 hP
  by_cases he : e = 0
  · have hk := ckH.out w8 B8
    rw [bkH.out he, hsnH.out] at hk
    subst he
    go_wp2_with (first
      | ((first | refine wpList_load_blk rfl 30 (.tmp 8) rfl ?_ p8 hIY rfl ?_ | refine wpList_load_if (by rfl) 30 (.tmp 8) rfl ?_ p8 hIY rfl ?_); rfl)
      | ((first | refine wpList_load_blk rfl 30 (.tmp 10) rfl ?_ r8 hIY rfl ?_ | refine wpList_load_if (by rfl) 30 (.tmp 10) rfl ?_ r8 hIY rfl ?_); rfl))
    refine hk.mono ?_
    rintro q w9 ⟨rfl, b9⟩
    have B9 := B8.trans (b9.mono B8.size)
    clear b9 B8 p8 r8 hk
    go_wp2_with fail
    refine (alH.out w9 B9).mono ?_
    rintro q w10 ⟨rfl, b10⟩
    go_wp2
    go_ret
    exact ⟨rfl, B9.trans (b10.mono B9.size)⟩
  · have heb : (e == 0) = false := beq_false_of_ne he
    go_wp2_with (first
      | ((first | refine wpList_load_blk rfl 30 (.tmp 8) rfl ?_ p8 hIY rfl ?_ | refine wpList_load_if (by rfl) 30 (.tmp 8) rfl ?_ p8 hIY rfl ?_); rfl)
      | ((first | refine wpList_load_blk rfl 30 (.tmp 10) rfl ?_ r8 hIY rfl ?_ | refine wpList_load_if (by rfl) 30 (.tmp 10) rfl ?_ r8 hIY rfl ?_); rfl))
    refine (alH.out w8 B8).mono ?_
    rintro q w10 ⟨rfl, b10⟩
    go_wp2
    go_ret
    exact ⟨rfl, B8.trans (b10.mono B8.size)⟩
end Go.Proofs.YtnfjmhppajdmaaaDoor

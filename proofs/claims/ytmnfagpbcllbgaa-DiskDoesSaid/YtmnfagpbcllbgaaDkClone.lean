/-
  What the landed disk's Clone comes to: another disk that is the same, in new memory, but for what nobody writes to any more. Conditions: a disk that New made; at most 2^42 steps.
-/
import Derived.Test.YtmnfagpbcllbgaaDkCloneF
namespace Go.Proofs.Ytmnfagpbcllbgaa
open Go.RowKit

theorem rowDk : IsRow Try.prog 60 18 := by
  refine ⟨?_, by kernel_rfl⟩
  have h : (Try.prog.underlying 60).map (·.isRow) = some true := by kernel_rfl
  cases hq : Try.prog.underlying 60 with
  | none => simp [hq] at h
  | some d => rw [hq] at h; simp at h; exact ⟨d, rfl, h⟩
theorem zeroDk : Zero Try.prog 60 (dC (dk0 0) fa0 fa0 fa0) := by unfold Zero; kernel_rfl
theorem dC_len (D : DkV) (x0 x1 x2 : FaV) : (dC D x0 x1 x2).length = 18 := rfl
theorem dC_one (D : DkV) (x0 x1 x2 : FaV) : ∀ u ∈ dC D x0 x1 x2, u.oneCell' = true := by
  intro u hu
  unfold dC at hu
  simp only [List.mem_append, List.mem_cons, List.not_mem_nil, or_false] at hu
  rcases hu with (rfl | rfl | rfl) | hu | hu | hu
  · rfl
  · rfl
  · rfl
  · exact fC_one _ _ u hu
  · exact fC_one _ _ u hu
  · exact fC_one _ _ u hu
theorem dC_at (D : DkV) (y : Nat → FaV) (j : Nat) (hj : j < 3) :
    (dC D (y 0) (y 1) (y 2))[3 + j * 5]? = some (.slice (y j).ka (D.f j).K.length (y j).kc) ∧ (dC D (y 0) (y 1) (y 2))[3 + j * 5 + 1]? = some (.slice (y j).sa (D.f j).S.length (y j).sc) ∧ (dC D (y 0) (y 1) (y 2))[3 + j * 5 + 2]? = some (.slice (y j).ha (D.f j).held.length (y j).hc) := by
  match j, hj with
  | 0, _ => exact ⟨rfl, rfl, rfl⟩
  | 1, _ => exact ⟨rfl, rfl, rfl⟩
  | 2, _ => exact ⟨rfl, rfl, rfl⟩

set_option maxRecDepth 100000 in
set_option maxHeartbeats 2000000 in
theorem dClone_any {L : Nat → Nat} {P : Nat → Prop} {w : World} {g : Nat} {D : DkV} {T : Nat} (h : DkIs L P w g D) (hO : D.Ok T) (hT : T ≤ 4398046511104) :
    Calls Try.prog 11 #[.pointer (some ⟨g, 0, none⟩)] w fun q w' => ∃ gc L' P', q = .returned (.pointer (some ⟨gc, 0, none⟩)) ∧ DkIs L' P' w' gc D ∧ Below w.heap.size w w' ∧ (∀ b, L' b ≠ 0 → w.heap.size ≤ b) ∧ ∀ b, P' b → P b ∨ w.heap.size ≤ b := by
  obtain ⟨x0, x1, x2, h⟩ := h
  have hr := hO.room
  have hM := dMade_any (dcells h.b).1 (by omega)
  have hPl : ∀ b, P b → b < w.heap.size := fun b hb => (h.lab.p b hb).1
  have hfl : ∀ j, j < 3 → FlAt L P w j ((fun i => if i = 0 then x0 else if i = 1 then x1 else x2) j) (D.f j) := fun j hj => by
    match j, hj with
    | 0, _ => exact h.f0
    | 1, _ => exact h.f1
    | 2, _ => exact h.f2
  have hb0 : Blk w g 60 (dC D ((fun i => if i = 0 then x0 else if i = 1 then x1 else x2) 0) ((fun i => if i = 0 then x0 else if i = 1 then x1 else x2) 1) ((fun i => if i = 0 then x0 else if i = 1 then x1 else x2) 2)) := h.b
  obtain ⟨x, hx⟩ : ∃ x : Nat → FaV, (fun i => if i = 0 then x0 else if i = 1 then x1 else x2) = x := ⟨_, rfl⟩
  rw [hx] at hfl hb0
  have hOf := hO.f
  obtain ⟨cs, hcs⟩ : ∃ cs, dC D (x 0) (x 1) (x 2) = cs := ⟨_, rfl⟩
  have hcl : cs.length = 18 := by rw [← hcs]; exact dC_len _ _ _ _
  have hc1 : ∀ u ∈ cs, u.oneCell' = true := by rw [← hcs]; exact dC_one _ _ _ _
  rw [hcs] at hb0
  have hcsH := Lib.hid hcs
  obtain ⟨zs, hzs⟩ : ∃ zs, dC (dk0 0) fa0 fa0 fa0 = zs := ⟨_, rfl⟩
  have hz := zeroDk
  rw [hzs] at hz
  have hzl : zs.length = 18 := by rw [← hzs]; exact dC_len _ _ _ _
  clear hx hcs hzs h hr
  go_enter Try.func11, Try.ntmps11
  go_wp2_with fail
  refine hM.mono ?_
  rintro q w1 ⟨rfl, rfl⟩
  go_wp2_with ((with_reducible refine wpList_load_blk rfl 60 (.tmp 10) rfl ?_ hb0 rowDk hcl ?_); rfl; refine RowKit.Hid.out ?_)
  refine Lib.hid ?_
  refine wpList_alloc_blk rfl 60 rfl hz ?_
  have hnew := Blk.new w 60 zs
  have hbel := below1 w (.cells zs.toArray 60)
  obtain ⟨W, hW⟩ : ∃ W, w.alloc (.cells zs.toArray 60) = W := ⟨_, rfl⟩
  rw [hW] at hnew hbel ⊢
  refine store_row rfl 60 (.tmp 3) (.tmp 11) rfl rfl rfl hnew rowDk hcl hzl hc1 ?_
  intro w2 hb2 hg2
  have hB2 : Below w.heap.size w w2 := hbel.grown hg2 hbel.size (fun q hq => by injection hq with hq; rw [← hq]; exact Nat.le_refl _)
  have hst0 : ∃ y Lr Pr, ClSt P w D x w.heap.size 0 w2 y Lr Pr := by
    have hlt := hb2.lt
    have hLb : ∀ b, (fun b => if b = w.heap.size then 1 else 0) b ≠ 0 → b = w.heap.size := fun b hb => by
      by_cases e : b = w.heap.size
      · exact e
      · exact absurd (if_neg e) hb
    refine ⟨x, fun b => if b = w.heap.size then 1 else 0, P, by rw [hcsH.out]; exact hb2, if_pos rfl, ⟨fun b hb => by rw [hLb b hb]; exact hlt, fun b hb => ?_⟩, fun i hi => by omega, fun _ _ => rfl, hB2, fun b hb => by rw [hLb b hb]; exact Nat.le_refl _, fun _ hb => hb, fun _ hb => .inl hb⟩
    have := hPl b hb
    have := hB2.size
    exact ⟨by omega, if_neg (by omega)⟩
  clear hW hnew hbel hb2 hg2 hB2 hb0 hz hzl hcsH
  obtain ⟨G, hG⟩ : ∃ G, w.heap.size = G := ⟨_, rfl⟩
  rw [hG] at hst0 ⊢
  have hGH := Lib.hid hG
  clear hG hc1 hcl
  go_wp2_with fail
  go_loopw [12] (fun i wr => ∃ (j : Nat) (y : Nat → FaV) (Lr : Nat → Nat) (Pr : Nat → Prop), j ≤ 3 ∧ i = .int .i64 j ∧ ClSt P w D x G j wr y Lr Pr) (fun i _ => 3 - (intOf i).toNat)
  case atStart =>
    obtain ⟨y, Lr, Pr, h0⟩ := hst0
    exact ⟨0, y, Lr, Pr, by omega, rfl, h0⟩
  case round =>
    clear hst0
    obtain ⟨j, y, Lr, Pr, hj, rfl, hst⟩ := hrel
    by_cases hlt : j < 3
    · have hji : (j : Int) < 3 := by omega
      obtain ⟨a0, a1, a2⟩ := dC_at D y j hlt
      have hyx := hst.rest j (Nat.le_refl _)
      rw [hyx] at a0 a1 a2
      have hx := hfl j hlt
      have hOj := hOf j
      have hCk := pClone_any (x j).ka (D.f j).K.length (x j).kc (D.f j).K wr (hx.k.i.keep hst.bel) (by have := kept_le (D.f j).K (D.f j).S; have := hOj.need; unfold FlV.need at this; omega)
      obtain ⟨vs, hvo, hvs⟩ := hx.s.o
      have hlS := hOj.len
      have hlH := Nat.le_trans (FlV.held_le (D.f j)) hOj.need
      have c0 := hst.b.cell (3 + j * 5)
      rw [a0] at c0
      have hkb := hst.b
      have fin := fun (w1 w2 w3 w4 w5 w6 : World) (b1 b2 b3 : Option Addr) (d1 d2 d3 : Nat) => clone_fin (w1 := w1) (w2 := w2) (w3 := w3) (w4 := w4) (w5 := w5) (w6 := w6) (b1 := b1) (b2 := b2) (b3 := b3) (d1 := d1) (d2 := d2) (d3 := d3) (vs := vs) hlt hst hPl
      have hcell := fun z => cl_cells D y j hlt z
      rw [Nat.mul_comm 5 j] at hcell
      obtain ⟨cs, hcs⟩ : ∃ cs, dC D (y 0) (y 1) (y 2) = cs := ⟨_, rfl⟩
      rw [hcs] at a0 a1 a2 hkb hcell
      have hbelw := hst.bel
      have hho := hx.h.o
      have hgs := hkb.lt
      have hlen : 3 + j * 5 + 2 < cs.length := (List.getElem?_eq_some_iff.1 a2).1
      have hltH := Lib.hid hlt
      have finH := Lib.hid fin
      have hcellH := Lib.hid hcell
      have hvsH := Lib.hid hvs
      have a1H := Lib.hid a1
      have a2H := Lib.hid a2
      clear hlt hj hst hyx hx hOj hOf hPl hfl fin hcell hvs a0 a1 a2 hcs hO hM
      go_wp2_with fail
      refine hCk.mono ?_
      rintro q w1 ⟨b1, d1, rfl, o1, B1⟩
      have hk1 := hkb.keep B1 hgs
      have f0 := hk1.frozen (3 + j * 5)
      have c0w : w1.cell? ⟨G, 3 + j * 5, none⟩ = some (.slice (x j).ka (D.f j).K.length (x j).kc) := by rw [B1.cell (p := ⟨G, 3 + j * 5, none⟩) hgs]; exact c0
      have hk2 := hk1.set (3 + j * 5) (.slice b1 (D.f j).K.length d1)
      have g2 := grown_setCell w1 G (3 + j * 5) (.slice b1 (D.f j).K.length d1)
      have c1 := hk2.cell (3 + j * 5 + 1)
      rw [List.getElem?_set_ne (by omega), a1H.out] at c1
      obtain ⟨W2, hW2⟩ : ∃ W, w1.setCell ⟨G, 3 + j * 5, none⟩ (.slice b1 (D.f j).K.length d1) = W := ⟨_, rfl⟩
      rw [hW2] at hk2 g2
      have hB2 : Below w.heap.size w W2 := (hbelw.trans (B1.mono hbelw.size)).grown g2 (by have := hbelw.size; have := B1.size; omega) (fun q hq => by injection hq with hq; rw [← hq, hGH.out]; exact Nat.le_refl _)
      have hvo2 := own_same (B := 0) hvo (w' := W2) (fun b hb => hB2.block b (hvo.lt b hb).2)
      have hCs := dCloneS_any hvo2 hvsH.out (by omega)
      have hW2H := Lib.hid hW2
      clear hCk hk1 c0 hkb hW2 hvo hvo2
      go_wp2_with fail
      rw [hW2H.out]
      refine hCs.mono ?_
      rintro q w3 ⟨b2, d2, rfl, o3, B3⟩
      have hk3 := hk2.keep B3 hk2.lt
      have hgs2 := hk2.lt
      have f1 := hk3.frozen (3 + j * 5 + 1)
      have c1w : w3.cell? ⟨G, 3 + j * 5 + 1, none⟩ = some (.slice (x j).sa (D.f j).S.length (x j).sc) := by rw [B3.cell (p := ⟨G, 3 + j * 5 + 1, none⟩) hgs2, ← hW2H.out]; exact c1
      have hk4 := hk3.set (3 + j * 5 + 1) (.slice b2 (D.f j).S.length d2)
      have g4 := grown_setCell w3 G (3 + j * 5 + 1) (.slice b2 (D.f j).S.length d2)
      have c2 := hk4.cell (3 + j * 5 + 2)
      rw [List.getElem?_set_ne (by omega), List.getElem?_set_ne (by omega), a2H.out] at c2
      obtain ⟨W4, hW4⟩ : ∃ W, w3.setCell ⟨G, 3 + j * 5 + 1, none⟩ (.slice b2 (D.f j).S.length d2) = W := ⟨_, rfl⟩
      rw [hW4] at hk4 g4
      have hB4 : Below w.heap.size w W4 := (hB2.trans (B3.mono hB2.size)).grown g4 (by have := hB2.size; have := B3.size; omega) (fun q hq => by injection hq with hq; rw [← hq, hGH.out]; exact Nat.le_refl _)
      have hho4 := own_same hho (w' := W4) (fun b hb => hB4.block b (hho.lt b hb).2)
      have hCh := pClone_any (x j).ha (D.f j).held.length (x j).hc (D.f j).held W4 (own_ints' hho4) (by omega)
      have hW4H := Lib.hid hW4
      clear hk3 c1 hW4 hho hho4 hCs hk2 c0w f0 hW2H
      go_wp2_with fail
      rw [hW4H.out]
      refine hCh.mono ?_
      rintro q w5 ⟨b3, d3, rfl, o5, B5⟩
      have hgs4 := hk4.lt
      have hk5 := hk4.keep B5 hgs4
      have f2 := hk5.frozen (3 + j * 5 + 2)
      have c2w : w5.cell? ⟨G, 3 + j * 5 + 2, none⟩ = some (.slice (x j).ha (D.f j).held.length (x j).hc) := by rw [B5.cell (p := ⟨G, 3 + j * 5 + 2, none⟩) hgs4, ← hW4H.out]; exact c2
      have hk6 := hk5.set (3 + j * 5 + 2) (.slice b3 (D.f j).held.length d3)
      have g6 := grown_setCell w5 G (3 + j * 5 + 2) (.slice b3 (D.f j).held.length d3)
      have hce := hcellH.out ⟨b1, d1, b2, d2, b3, d3⟩
      rw [hce] at hk6
      obtain ⟨y', L', P', hfin⟩ := finH.out _ _ _ _ _ _ b1 b2 b3 d1 d2 d3 B1 o1 g2 B3 o3 hvsH.out g4 B5 o5 g6 hk6
      have hfinH := Lib.hid hfin
      clear hfin hk6 hce g6 hk5 c2 hCh B5 o5 B3 o3 B1 o1 g2 g4 hcellH finH hk4 c1w f1 hW4H
      go_wp2
      exact ⟨⟨j + 1, y', L', P', by have := hltH.out; omega, by congr 1, hfinH.out⟩, by simp only [intOf]; have := hltH.out; omega⟩
    · obtain rfl : j = 3 := by omega
      have hji : ¬ ((3 : Nat) : Int) < 3 := by omega
      have hfin : DkIs Lr Pr wr G D := ⟨y 0, y 1, y 2, hst.b, hst.g, hst.lab, hst.own 0 (by decide), hst.own 1 (by decide), hst.own 2 (by decide)⟩
      have hbel := hst.bel
      have hlo := hst.lo
      have hq := hst.q
      clear hst hlt hj hM hfl hPl hO hOf
      go_wp2
      go_ret
      exact ⟨G, rfl, Lr, Pr, hfin, by first | exact hbel | exact hGH.out ▸ hbel, by first | exact hlo | exact hGH.out ▸ hlo, by first | exact hq | exact hGH.out ▸ hq⟩
end Go.Proofs.Ytmnfagpbcllbgaa

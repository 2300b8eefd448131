/-
  New makes a box: the first table holds each byte's substitute, the second whose substitute each byte is; nothing that lay is written.
-/
import Derived.Test.YtagacpjeooaapaaGreatDoorBoxIter
import Derived.RegionIn
import Derived.Shelf.RegionOpen
import Derived.Great.Ranges
import Derived.Great.BuildSlice
namespace Go.Proofs.YtagacpjeooaapaaGreatDoor
open Go.RowKit Go.Shelf
attribute [local go_sem] Oper.semAt_some

theorem Blk.own {A B : World} {row : Option Nat} {g : Nat} {t : TypeId} {cs : List Value} (h : Blk A g t cs) (hg : A.grownBy B row) (hr : ∀ r, row = some r → ∃ o : Obj, A.heap[r]? = some o ∧ o.isCells = false) : Blk B g t cs :=
  h.grown hg (fun e => by
    obtain ⟨o, ho, hc⟩ := hr g e.symm
    unfold Blk at h
    rw [h] at ho
    injection ho with ho
    subst ho
    simp [Obj.isCells] at hc)
theorem heap_own {A A' : World} {row : Option Nat} {D B : Nat} {o : Obj} (h : A.heap[D]? = some o) (hlt : D < B) (hg : A.grownBy A' row) (hr : ∀ r, row = some r → B ≤ r ∧ ∃ o : Obj, A.heap[r]? = some o ∧ o.isCells = false) : A'.heap[D]? = some o :=
  (hg.block D (Array.getElem?_eq_some_iff.1 h).1 (fun e => by have := (hr D e.symm).1; omega)).trans h

def zf : Nat → Nat := fun _ => 0
theorem built_box : Tryz.prog.built 94 [(2, Value.bool true)] = some (boxCells zf zf true).toArray := by kernel_rfl

set_option maxRecDepth 100000 in
set_option maxHeartbeats 1000000 in
theorem bNew_any (w : World) :
    Calls Tryz.prog 68 #[] w fun e w' => ∃ g, e = .returned (.pointer (some ⟨g, 0, none⟩)) ∧ w.heap.size ≤ g ∧ BoxAt w' g sb bk true ∧ Below w.heap.size w w' := by
  refine (callsIn_wide (n := 9)).1 (callsIn_of_wp_marks Tryz.func68 rfl trivial (wpIn_wide.2 ?_) rfl)
  simp only [Tryz.ntmps68, List.size_toArray, List.length_nil, Nat.reduceSub, Array.replicate_succ, Array.replicate_zero, List.push_toArray, List.append_toArray, List.nil_append, List.cons_append]
  go_wp2_with (first
    | ((with_reducible refine wpList_buildTo rfl 94 _ rfl _ rfl (boxCells zf zf true).toArray ?_ ?_); kernel_rfl)
    | (with_reducible refine wpList_boxTo rfl 94 _ rfl _ rfl _ rfl (boxCells zf zf true).toArray rfl ?_))
  obtain ⟨W0, hW0⟩ : ∃ W0, (w.alloc (.cells (boxCells zf zf true).toArray 94)).alloc (.cells #[Value.pointer (some ⟨w.heap.size, 0, none⟩)] 138) = W0 := ⟨_, rfl⟩
  have hb0 : BoxAt W0 w.heap.size zf zf true := by rw [← hW0]; exact (Blk.new w _ _).alloc _
  have hc0 : Blk W0 (w.heap.size + 1) 138 [Value.pointer (some ⟨w.heap.size, 0, none⟩)] := by rw [← hW0]; exact Blk.new1 w _ _ _
  have hsz : W0.heap.size = w.heap.size + 2 := by rw [← hW0]; exact size2 w _ _
  have hB0 : Below w.heap.size w W0 := by rw [← hW0]; exact below2 w _ _
  rw [hW0]
  clear hW0
  obtain ⟨g, hg⟩ : ∃ g, w.heap.size = g := ⟨_, rfl⟩
  rw [hg] at hb0 hc0 hsz hB0 ⊢
  have hg := Lib.hid hg
  have hcell : W0.cell? ⟨g + 1, 0, none⟩ = some (.pointer (some ⟨g, 0, none⟩)) := by rw [hc0.cell]; rfl
  have hz : W0.cell? ⟨g, 0, none⟩ = some (.int .u8 (zf 0 : Int)) := by rw [Blk.cell hb0, boxCells_sub zf zf true 0 (by decide)]
  have hfz : W0.frozen? ⟨g, 0, none⟩ = false := Blk.frozen hb0 0
  have hsz := Lib.hid hsz
  refine wp_region_still_tail 5 (by kernel_rfl) (by decide +kernel) ?_
  simp only [List.take_succ_cons, List.take_zero, List.drop_succ_cons, List.drop_zero]
  repeat still_step
  still_call ((substitute_of 0 (st 0 : Int) 0 (st 0) _ rfl (by decide) rfl rfl).mono fun _ _ h => ⟨h.1, h.2.symm⟩)
  repeat still_step
  refine wpStill_nil ?_
  change wpList _ _ _ _ _ W0.drew
  go_wp2
  obtain ⟨W1, hW1⟩ : ∃ W1, (W0.setCell ⟨g, 0, none⟩ (.int .u8 (st 0 : Int))).drew = W1 := ⟨_, rfl⟩
  have hb1 : BoxAt W1 g (tf []) zf true := by rw [← hW1, show tf [] = upd zf 0 (st 0) from rfl, BoxAt, ← boxCells_setSub zf zf true 0 (st 0) (by decide)]; exact (Blk.set hb0 0 _).drew
  have hc1 : W1.cell? ⟨g + 1, 0, none⟩ = some (.pointer (some ⟨g, 0, none⟩)) := by
    rw [← hW1]
    have := (hc0.far (p := ⟨g, 0, none⟩) (by simp) (.int .u8 (st 0 : Int))).drew.cell 0
    rw [this]; rfl
  have hsz1 : W1.heap.size = g + 2 := by rw [← hW1, ← hsz.out]; simp [World.setCell, World.drew]
  have hB1 : Below g w W1 := by rw [← hW1]; exact (hB0.setCell (p := ⟨g, 0, none⟩) (Nat.le_refl _) _).drew
  rw [hW1]
  clear hW1 hb0 hc0 hsz hB0 hcell hz hfz
  refine (wpIn_wide (n := 9)).1 ?_
  refine wpIn_rangeFunc_ownG rfl (by omega) (gf := 89) (lb := #[]) rfl trivial (enters_of Tryz.func89 (by kernel_rfl) rfl)
    (inverses_stops (9 - 1) g (by omega) W1) belowK_t (belowK_b (by rw [hsz1]; omega)) (Below.refl _ _) (fun _ => rfl)
    (fun pre W => (W.cell? ⟨g + 1, 0, none⟩ = some (.pointer (some ⟨g, 0, none⟩)) ∧ BoxAt W g (tf (vals pre).reverse) zf true) ∧ Below g w W)
    (fun _ _ _ => False)
    (OwnFrom.and (Own.from (fun s A B row hs hg hr => ⟨cell_kept hs.1 hg hr, Blk.own hs.2 hg hr⟩) _) (ownFrom_below (by rw [hg.out]; exact Nat.le_refl _) (by rw [hsz1]; omega)))
    (fun _ _ _ _ _ hs _ _ => hs)
    ⟨⟨hc1, hb1⟩, hB1⟩
    (fun x => { tmps := #[Value.pointer none, Value.pointer (some ⟨g + 1, 0, none⟩), Value.int .u8 (x.1.1 : Int), Value.int .u8 (x.1.2 : Int), undef, undef, Value.agg (boxCells zf zf true).toArray, Value.pointer (some ⟨g, 0, none⟩),
      Value.pointer (some ⟨g, 0, none⟩), Value.int .u8 (st 0 : Int), Value.pointer (some ⟨g, 0, none⟩), Value.pointer (some ⟨g, 0, none⟩), Value.pointer (some ⟨g, 0, none⟩), Value.int .u8 (x.1.1 : Int), Value.int .u8 (x.1.2 : Int), undef, undef, undef, undef, undef, undef, undef, undef, undef, undef, undef, undef, undef, undef, undef, undef, undef, undef], defers := [] }) ?assign ?body ?done ?stop
  case assign =>
    intro l x W K hK
    dsimp only [encP]
    gi_wp2
    exact hK
  case body =>
    rintro l pre x W ⟨⟨hc, hb⟩, hB⟩ _
    have hd : 1 ≤ 9 - 1 - 1 := by omega
    have hmx : Tryz.prog.follows .mixedOrders = true := by kernel_rfl
    obtain ⟨⟨a, b⟩, ha, hb8⟩ := x
    have hai : (a : Int) < 256 := by omega
    have hca : W.cell? ⟨g, a, none⟩ = some (.int .u8 (tf (vals pre).reverse a : Int)) := by rw [Blk.cell hb, boxCells_sub _ _ _ a ha]
    have hfa : W.frozen? ⟨g, a, none⟩ = false := Blk.frozen hb a
    have hset : BoxAt (W.setCell ⟨g, a, none⟩ (.int .u8 (st b : Int))) g (tf (vals (pre ++ [(⟨(a, b), ha, hb8⟩ : Pr)])).reverse) zf true := by
      rw [vals_snoc, List.reverse_append]
      show Blk _ _ _ (boxCells (upd (tf (vals pre).reverse) a (st b)) zf true)
      rw [← boxCells_setSub _ _ _ a _ ha]
      exact Blk.set hb a (.int .u8 (st b : Int))
    have hset := Lib.hid hset
    have hcs := Lib.hid ((grown_setCell W g a (.int .u8 (st b : Int))).cell hc (by simp))
    have ha := Lib.hid ha
    have hb8 := Lib.hid hb8
    gi_wp2
    gi_region_with_o (refine ⟨trivial, ?_⟩; gi_at_call 88; refine (CallsIn.inRound l (callsIn_wide.2 (substitute_of _ (st b : Int) b (st b) _ rfl hb8.out rfl rfl))).mono ?_; rintro e w' ⟨rfl, rfl⟩)
    all_goals gi_wp2
    all_goals exact ⟨((KeepsOthers.setCell W ⟨g, a, none⟩ _).trans (KeepsOthers.drew _)).from _, ((Below.refl g W).setCell (p := ⟨g, a, none⟩) (Nat.le_refl _) _).drew, ⟨hcs.out, hset.out⟩, (hB.setCell (p := ⟨g, a, none⟩) (Nat.le_refl _) _).drew⟩
  case done =>
    rintro D ys W hD hS ⟨⟨hc, hb⟩, hB⟩ hK
    go_wp2_with (go_at_call 90; refine (bAll_any _ _).mono ?_; rintro e w' ⟨rfl, rfl⟩)
    have hb2 : BoxAt W g sb (tb []) true := by
      refine Blk.cast hb ?_
      unfold boxCells
      rw [rowOf_congr _ sb (fun i hi => by rw [hS]; exact tf_ivs i hi)]
      rfl
    have hgl := hb2.lt
    have hDl : D < W.heap.size := (Array.getElem?_eq_some_iff.1 hK).1
    have hDg : D ≠ g := fun e => by subst e; unfold BoxAt Blk at hb2; rw [hb2] at hK; cases hK
    obtain ⟨W2, hW2⟩ : ∃ W2, W.alloc (.cells #[Value.pointer (some ⟨g, 0, none⟩)] 138) = W2 := ⟨_, rfl⟩
    obtain ⟨N, hN⟩ : ∃ N, W.heap.size = N := ⟨_, rfl⟩
    have hs2 : W2.heap.size = N + 1 := by rw [← hW2, ← hN]; exact size1 W _
    have hcb2 : W2.cell? ⟨N, 0, none⟩ = some (.pointer (some ⟨g, 0, none⟩)) := by rw [← hW2, ← hN]; exact (Blk.new W 138 [Value.pointer (some ⟨g, 0, none⟩)]).cell 0
    have hb3 : BoxAt W2 g sb (tb []) true := by rw [← hW2]; exact Blk.alloc hb2 _
    have hc3 : W2.cell? ⟨g + 1, 0, none⟩ = some (.pointer (some ⟨g, 0, none⟩)) := by rw [← hW2]; exact ((below1 W _).cell (p := ⟨g + 1, 0, none⟩) (World.block_lt_of_cell? W _ hc)).trans hc
    have hK3 : W2.heap[D]? = some (.deferred (some [])) := by rw [← hW2]; exact ((below1 W _).block D hDl).trans hK
    have hB3 : Below g w W2 := by rw [← hW2]; exact hB.alloc (by omega) _
    rw [hW2, hN]
    rw [hN] at hDl hgl
    have hB2' : g ≤ W2.heap.size := by omega
    clear hW2 hN hb2 hb hc hK hB
    refine (wpIn_wide (n := 9)).1 ?_
    refine wpIn_rangeFunc_ownG rfl (by omega) (gf := 104) (lb := #[.pointer (some ⟨N, 0, none⟩)]) rfl trivial (enters_of Tryz.func104 (by kernel_rfl) rfl)
      (all_stops (9 - 1) g (by omega) N g sb (tb []) sb_256 W2 (by omega) (by omega) hcb2 hb3) belowK_t (belowK_b hB2') (Below.refl _ _) (fun _ => rfl)
      (fun pre V => ((V.cell? ⟨g + 1, 0, none⟩ = some (.pointer (some ⟨g, 0, none⟩)) ∧ BoxAt V g sb (tb (vals pre).reverse) true) ∧ V.heap[D]? = some (.deferred (some []))) ∧ Below g w V)
      (fun _ _ _ => False)
      (OwnFrom.and (OwnFrom.and (Own.from (fun s A B row hs hg hr => ⟨cell_kept hs.1 hg hr, Blk.own hs.2 hg hr⟩) _) (fun s A B row hs hg hr => heap_own hs (by omega) hg hr)) (ownFrom_below (by rw [hg.out]; exact Nat.le_refl _) hB2'))
      (fun _ _ _ _ _ hs _ _ => hs)
      ⟨⟨⟨hc3, hb3⟩, hK3⟩, hB3⟩
      (fun x => { tmps := #[Value.pointer none, Value.pointer (some ⟨g + 1, 0, none⟩), undef, undef, Value.int .u8 (x.1.1 : Int), Value.int .u8 (x.1.2 : Int), Value.agg (boxCells zf zf true).toArray, Value.pointer (some ⟨g, 0, none⟩),
      Value.pointer (some ⟨g, 0, none⟩), Value.int .u8 (st 0 : Int), Value.pointer (some ⟨g, 0, none⟩), Value.pointer (some ⟨g, 0, none⟩), Value.pointer (some ⟨g, 0, none⟩), undef, undef, undef, undef, undef, undef, undef, undef, undef, Value.pointer (some ⟨g, 0, none⟩), Value.func (.func 104) #[] #[.pointer (some ⟨N, 0, none⟩)], Value.int .u8 (x.1.1 : Int), Value.int .u8 (x.1.2 : Int), undef, undef, undef, undef, undef, undef, undef], defers := [] }) ?assign2 ?body2 ?done2 ?stop2
    case assign2 =>
      intro l x W K hK
      dsimp only [encP]
      gi_wp2
      exact hK
    case body2 =>
      rintro l pre x V ⟨⟨⟨hc, hb⟩, hKD⟩, hB⟩ _
      have hd : 1 ≤ 9 - 1 - 1 := by omega
      obtain ⟨⟨a, b⟩, ha8, hb8⟩ := x
      have hbi : (b : Int) < 256 := by omega
      have hcb : V.cell? ⟨g, 256 + b, none⟩ = some (.int .u8 (tb (vals pre).reverse b : Int)) := by rw [Blk.cell hb, boxCells_back _ _ _ b hb8]
      have hfb : V.frozen? ⟨g, 256 + b, none⟩ = false := Blk.frozen hb (256 + b)
      have hset : BoxAt (V.setCell ⟨g, 256 + b, none⟩ (.int .u8 (a : Int))) g sb (tb (vals (pre ++ [(⟨(a, b), ha8, hb8⟩ : Pr)])).reverse) true := by
        rw [vals_snoc, List.reverse_append]
        show Blk _ _ _ (boxCells sb (upd (tb (vals pre).reverse) b a) true)
        rw [← boxCells_setBack _ _ _ b _ hb8]
        exact Blk.set hb (256 + b) (.int .u8 (a : Int))
      have hset := Lib.hid hset
      have hcs := Lib.hid ((grown_setCell V g (256 + b) (.int .u8 (a : Int))).cell hc (by simp))
      have hKs := Lib.hid ((Below.heap_setCell V ⟨g, 256 + b, none⟩ (.int .u8 (a : Int)) D hDg).trans hKD)
      have hb8 := Lib.hid hb8
      gi_wp2
      exact ⟨(KeepsOthers.setCell V ⟨g, 256 + b, none⟩ _).from _, (Below.refl g V).setCell (p := ⟨g, 256 + b, none⟩) (Nat.le_refl _) _, ⟨⟨hcs.out, hset.out⟩, hKs.out⟩, hB.setCell (p := ⟨g, 256 + b, none⟩) (Nat.le_refl _) _⟩
    case done2 =>
      rintro D2 zs V hD2 hS2 ⟨⟨⟨hc, hb⟩, hKD⟩, hB⟩ hK2
      go_wp2
      have hK1 : (V.putObj D2 (.deferred none)).heap[D]? = some (.deferred (some [])) := (World.putObj_heap_other (by omega)).trans hKD
      refine ⟨by simp, .inl ⟨_, _, rfl, run_takeDeferred hK2, ⟨by simp, .inl ⟨_, _, rfl, run_takeDeferred hK1, ?_⟩⟩⟩⟩
      refine ⟨_, results_tmp rfl _ _ _, g, rfl, by rw [hg.out]; exact Nat.le_refl _, ?_, ?_⟩
      · have hbf : BoxAt ((V.putObj D2 (.deferred none)).putObj D (.deferred none)) g sb (tb (vals zs).reverse) true := by
          unfold BoxAt Blk
          rw [World.putObj_heap_other (by omega), World.putObj_heap_other (by omega)]
          exact hb
        refine Blk.cast hbf ?_
        unfold boxCells
        rw [rowOf_congr (tb (vals zs).reverse) bk (fun y hy => by rw [hS2]; exact tb_sbs sb (fun _ _ => rfl) y hy)]
      · rw [hg.out]
        exact (hB.trans (belowK_b (w := W2) hB2' V D2 _ _ hD2 hK2 rfl rfl)).trans (belowK_b (w := W1) (by omega) _ D _ _ hD hK1 rfl rfl)
    case stop2 =>
      rintro D c pre W _ _ h _
      exact h.elim
  case stop =>
    rintro D c pre W _ _ h _
    exact h.elim
end Go.Proofs.YtagacpjeooaapaaGreatDoor

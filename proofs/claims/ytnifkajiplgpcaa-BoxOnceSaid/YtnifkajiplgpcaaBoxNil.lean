/-
  The law of layer 5 on boxes that are nil, or that no call made, comes to true, in whatever world; nothing that lay is written. Conditions: bytes are numbers below 256, words below 2^32.
-/
import Derived.Test.YtnifkajiplgpcaaBoxLaw
namespace Go.Proofs.Ytnifkajiplgpcaa
open Go.RowKit Go.Shelf
attribute [local go_sem] Oper.semAt_some

theorem zeroBox : Zero Try.prog 37 (boxCells zf zf false) := by unfold Zero; kernel_rfl

/-- A loop over what tells nothing, without loop variables of its own: its body is never run. -/
theorem rangeFunc_none {n : Nat} {P : Program} {g : Operand} {ps : Array Tmp} {body : Code} {Q : Exit → Act → World → Prop} {a : Act} {w : World} (h1 : 1 ≤ n) {gf : Nat} {lb : Array Value} (hg : a.eval g = .func (.func gf) #[] lb)
    (eg : ∀ args w, (callFunc gf args).run P w = .ok (.enter gf args) w) {n₀ : Nat} {w0 : World} (hseq : SeqStopsK Fence.wide (n - 1) P gf lb encP (Below n₀) (fun ys => ys = []) (fun _ => False) 0 w0) (hn₀ : n₀ ≤ w.heap.size) (hb0 : Below w0.heap.size w0 w) (hps : ps.size = 2)
    (I : World → Prop) (hI : OwnFrom w.heap.size (fun (_ : List Pr) W => I W)) (h0 : I w)
    (hdone : ∀ (D : Nat) (W : World), w.heap.size ≤ D → I W → W.heap[D]? = some (.deferred (some [])) → Q .normal { a with defers := { target := .collected D, args := #[] } :: a.defers } W) :
    (Code.rangeFunc g ps Code.skip body).wp P Q a w := by
  refine (wpIn_wide (n := n)).1 ?_
  refine wpIn_rangeFunc_ownG rfl h1 hg trivial eg hseq belowK_t (belowK_b hn₀) hb0 (fun _ => by rw [hps]; rfl) (fun _ W => I W) (fun _ _ _ => False) hI (fun _ _ _ _ _ hs _ _ => hs) h0
    (fun x => { tmps := (ps.zip (encP x)).foldl (fun t (p, v) => t.setIfInBounds p v) a.tmps, defers := [] }) ?_ ?_ ?_ ?_
  · intro l x W K hK
    exact wpIn_skip hK
  · intro l pre x W _ hlt
    exact absurd hlt (Nat.not_lt_zero _)
  · intro D xs W hD _ hi hK
    exact hdone D W hD hi hK
  · intro D c pre W _ h
    exact h.elim

theorem eqFunc (b : Nat) (w : World) : Sem.run Try.prog (binOp BinOp.eql 31 (.func (.func 19) #[] #[.pointer (some ⟨b, 0, none⟩)]) .nilFunc) w = .ok (.bool false) w := by kernel_rfl

set_option maxRecDepth 100000 in
set_option maxHeartbeats 1000000 in
theorem boxNil_nat (x u : Nat) (w : World) (hx : x < 256) (hu : u < 4294967296) :
    Calls Try.prog 5 #[.int .u8 (x : Int), .int .u32 (u : Int)] w fun e w' => e = .returned (.bool true) ∧ Below w.heap.size w w' := by
  have hx := Lib.hid hx
  have hu := Lib.hid hu
  have heq := eqFunc
  refine (callsIn_wide (n := 9)).1 (callsIn_of_wp_marks Try.func5 rfl trivial (wpIn_wide.2 ?_) rfl)
  simp only [Try.ntmps5, List.size_toArray, List.length_cons, List.length_nil, Nat.reduceAdd, Nat.reduceSub, Array.replicate_succ, Array.replicate_zero, List.push_toArray, List.append_toArray, List.nil_append, List.cons_append]
  go_wp2_with (first
    | (with_reducible refine wpList_alloc_blk rfl 37 rfl zeroBox ?_)
    | (go_at_call 14; refine (bAll_any _ _).mono ?_; rintro e w' ⟨rfl, rfl⟩))
  obtain ⟨g, hg⟩ : ∃ g, w.heap.size = g := ⟨_, rfl⟩
  obtain ⟨W0, hW0⟩ : ∃ W0, (((w.alloc (.cells (boxCells zf zf false).toArray 37)).alloc (.cells #[Value.int .i64 0] 3)).alloc (.cells #[Value.pointer none] 23)).alloc (.cells #[Value.pointer (some ⟨w.heap.size, 0, none⟩)] 23) = W0 := ⟨_, rfl⟩
  rw [hW0, hg]
  have hs0 : W0.heap.size = g + 4 := by rw [← hW0, ← hg]; simp
  have hB0 : Below g w W0 := by rw [← hW0, ← hg]; exact (below3 w _ _ _).alloc (by simp; omega) _
  have hb0 : BoxAt W0 g zf zf false := by rw [← hW0, ← hg]; exact (((Blk.new w _ _).alloc _).alloc _).alloc _
  have hn0 : Blk W0 (g + 1) 3 [Value.int .i64 0] := by rw [← hW0, ← hg]; exact ((Blk.new1 w _ _ _).alloc _).alloc _
  have hp0 : Blk W0 (g + 1 + 1) 23 [Value.pointer none] := by
    rw [← hW0, ← hg]
    have := Blk.new1 (w.alloc (.cells (boxCells zf zf false).toArray 37)) (.cells #[Value.int .i64 0] 3) 23 [Value.pointer none]
    rw [size1] at this
    exact this.alloc _
  have hq0 : Blk W0 (g + 1 + 1 + 1) 23 [Value.pointer (some ⟨g, 0, none⟩)] := by
    rw [← hW0, ← hg]
    have := Blk.new1 ((w.alloc (.cells (boxCells zf zf false).toArray 37)).alloc (.cells #[Value.int .i64 0] 3)) (.cells #[Value.pointer none] 23) 23 [Value.pointer (some ⟨w.heap.size, 0, none⟩)]
    rw [size2] at this
    exact this
  clear hW0
  have hg := Lib.hid hg
  refine rangeFunc_none (n := 9) (by omega) (gf := 19) (lb := #[.pointer (some ⟨g + 1 + 1, 0, none⟩)]) rfl (enters_of Try.func19 (by kernel_rfl) rfl)
    (all_stops_nil (9 - 1) g (g + 1 + 1) W0 (by omega) (by rw [hp0.cell]; rfl)) (by omega) (Below.refl _ _) rfl
    (fun V => ((BoxAt V g zf zf false ∧ Blk V (g + 1) 3 [Value.int .i64 0]) ∧ Blk V (g + 1 + 1 + 1) 23 [Value.pointer (some ⟨g, 0, none⟩)]) ∧ Below g w V)
    (OwnFrom.and (Own.from (fun s A B row hs hg hr => ⟨⟨Blk.own hs.1.1 hg hr, Blk.own hs.1.2 hg hr⟩, Blk.own hs.2 hg hr⟩) _) (ownFrom_below (by rw [hg.out]; exact Nat.le_refl _) (by omega)))
    ⟨⟨⟨hb0, hn0⟩, hq0⟩, hB0⟩ ?_
  rintro D V hD ⟨⟨⟨hb, hn⟩, hq⟩, hB⟩ hK
  go_wp2
  have hDl : D < V.heap.size := (Array.getElem?_eq_some_iff.1 hK).1
  refine rangeFunc_none (n := 9) (by omega) (gf := 19) (lb := #[.pointer (some ⟨g + 1 + 1 + 1, 0, none⟩)]) rfl (enters_of Try.func19 (by kernel_rfl) rfl)
    (all_stops_zero (9 - 1) g (g + 1 + 1 + 1) g zf zf V hq.lt (Blk.lt hb) (by rw [hq.cell]; rfl) hb) (by have := Blk.lt hb; omega) (Below.refl _ _) rfl
    (fun V => ((BoxAt V g zf zf false ∧ Blk V (g + 1) 3 [Value.int .i64 0]) ∧ V.heap[D]? = some (.deferred (some []))) ∧ Below g w V)
    (OwnFrom.and (OwnFrom.and (Own.from (fun s A B row hs hg hr => ⟨Blk.own hs.1 hg hr, Blk.own hs.2 hg hr⟩) _) (fun s A B row hs hg hr => heap_own hs hDl hg hr)) (ownFrom_below (by rw [hg.out]; exact Nat.le_refl _) (by have := Blk.lt hb; omega)))
    ⟨⟨⟨hb, hn⟩, hK⟩, hB⟩ ?_
  rintro D2 V2 hD2 ⟨⟨⟨hb2, hn2⟩, hK1⟩, hB2⟩ hK2
  have hcn : V2.cell? ⟨g + 1, 0, none⟩ = some (.int .i64 0) := by rw [hn2.cell]; rfl
  have hzw := Lib.hid (wd_zero u 4)
  have hb2 := Lib.hid hb2
  go_wp2_with fail
  refine (bSub_nil _ _).mono ?_; rintro e w' ⟨rfl, rfl⟩
  go_wp2_with fail
  refine (bBack_nil _ _).mono ?_; rintro e w' ⟨rfl, rfl⟩
  go_wp2_with fail
  refine (bSub_of g zf zf false x 0 x 0 _ hb2.out rfl hx.out rfl rfl).mono ?_; rintro e w' ⟨rfl, rfl⟩
  go_wp2_with fail
  refine (bBack_of g zf zf false x 0 x 0 _ hb2.out rfl hx.out rfl rfl).mono ?_; rintro e w' ⟨rfl, rfl⟩
  go_wp2_with fail
  refine (bWord_nil u _ hu.out).mono ?_; rintro e w' ⟨rfl, rfl⟩
  go_wp2_with fail
  refine (bWord_of g zf zf false (fun _ => Nat.zero_lt_succ 255) u 0 u 0 _ hb2.out rfl hu.out hzw.out rfl).mono ?_; rintro e w' ⟨rfl, rfl⟩
  go_wp2_with fail
  refine (bAlive_any _).mono ?_; rintro e V3 ⟨rfl, hB3⟩
  go_wp2
  have hD2l : D2 < V2.heap.size := (Array.getElem?_eq_some_iff.1 hK2).1
  have hD1l : D < V2.heap.size := (Array.getElem?_eq_some_iff.1 hK1).1
  have hgl : g < V2.heap.size := Blk.lt hb2.out
  have hK2' := (hB3.block D2 hD2l).trans hK2
  have hK1' : (V3.putObj D2 (.deferred none)).heap[D]? = some (.deferred (some [])) := (World.putObj_heap_other (by omega)).trans ((hB3.block D hD1l).trans hK1)
  refine ⟨by simp, .inl ⟨_, _, rfl, run_takeDeferred hK2', ⟨by simp, .inl ⟨_, _, rfl, run_takeDeferred hK1', ?_⟩⟩⟩⟩
  refine ⟨_, results_tmp rfl _ _ _, rfl, ?_⟩
  rw [hg.out]
  have h3 : Below g w V3 := hB2.trans (hB3.mono (by omega))
  exact (h3.trans (belowK_b (w := V) (by have := Blk.lt hb; omega) V3 D2 _ _ hD2 hK2' rfl rfl)).trans (belowK_b (w := W0) (by omega) _ D _ _ hD hK1' rfl rfl)

theorem law_BoxNil (a b : Int) (w : World) (ha : (Lit.int .u8 a).wf = true) (hb : (Lit.int .u32 b).wf = true) :
    Calls Try.prog 5 #[.int .u8 a, .int .u32 b] w fun e w' => e = .returned (.bool true) ∧ Below w.heap.size w w' := by
  obtain ⟨m, rfl, hm⟩ := wf_u8 ha
  obtain ⟨n, rfl, hn⟩ := wf_u32 hb
  exact boxNil_nat m n w hm hn
end Go.Proofs.Ytnifkajiplgpcaa

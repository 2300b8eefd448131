/-
  Texts of stages that were proved on their own, joined: DfNeed, DfBurn, DfRow, DfDoA, DfDoB. Each begins with its own words.
-/
import Derived.Test.YtcohbhimhacedaaGreatDoorSeqK
import Derived.Test.YtcohbhimhacedaaGreatDoorJSzAll10
import Derived.Test.YtcohbhimhacedaaGreatDoorJSzAll8
import Derived.Test.YtcohbhimhacedaaGreatDoorSteps

namespace Go.Proofs.YtcohbhimhacedaaGreatDoor
open Go.RowKit

theorem yields_part {P : Program} {ops : Array Oper} {S : World → Prop} {o : Oper} {a : Act} (hw : Region.wanted o (yielded ops a.tmps) = true) (ty : TypeId) (x : Operand) (ho : o.op = .load ty x)
    {g off : Nat} (hx : a.eval x = .pointer (some ⟨g, off, none⟩)) {cs : List Value} (hS : ∀ w, S w → w.rangeAt g off cs) (hr : IsRow P ty cs.length) : YieldsIf P ops S o (.agg cs.toArray) a := by
  obtain ⟨⟨d, hu, hd⟩, hi⟩ := hr
  exact yieldsIf_load_mid hw ty x ho g off hx cs d hS hu hd hi
end Go.Proofs.YtcohbhimhacedaaGreatDoor

/-
  The document's own Holds, Need and Used (layer 18). New memory alone is written. Conditions: files of at most 2^47 bytes and some, fewer than 2^61 units.
-/
namespace Go.Proofs.YtcohbhimhacedaaGreatDoor
open Go.RowKit

structure FOk (v : FlV) : Prop where
  ok : okF v.K v.S
  k : v.K.length ≤ 65536
  n : v.need ≤ 140737488420864
  u : v.units < 2305843009213693952
  l : v.S.length ≤ 8796093022208
theorem FOk.take {v : FlV} (h : FOk v) (j : Nat) : FOk ⟨v.K, v.S.take j⟩ :=
  ⟨okF_take _ _ _ h.ok, h.k, Nat.le_trans (needL_take_le _ _ _) h.n, Nat.lt_of_le_of_lt (unitsL_take_le _ _) h.u, by have := h.l; show (v.S.take j).length ≤ _; rw [List.length_take]; omega⟩
theorem FlV.Ok.fok {v : FlV} {T : Nat} (h : v.Ok T) (hT : T ≤ 4398046511104) : FOk v :=
  ⟨h.ok, Nat.le_trans (kept_le _ _) h.need, by have := h.need; omega, by have := h.un; omega, by have := h.len; omega⟩

set_option maxRecDepth 100000 in
set_option maxHeartbeats 1000000 in
theorem fHolds_any {R : Nat → Prop} {w : World} {cs : List Value} {v : FlV} (h : RFile R w cs v) (ho : FOk v) :
    Calls Tryz.prog 30 #[.agg cs.toArray] w fun q w' => Tells w q w' v.held := by
  have hl : cs.length = 2 := by
    obtain ⟨_, _, _, _, hc, _⟩ := h
    rw [hc]; rfl
  have hrow : IsRow Tryz.prog 34 cs.length := by rw [hl]; exact rowRf
  have hb1 := Blk.new w 34 cs
  have hB1 := below1 w (.cells cs.toArray 34)
  obtain ⟨W, hW⟩ : ∃ W, w.alloc (.cells cs.toArray 34) = W := ⟨_, rfl⟩
  rw [hW] at hb1 hB1
  obtain ⟨G, hG⟩ : ∃ G, w.heap.size = G := ⟨_, rfl⟩
  rw [hG] at hb1
  have hgl := hb1.lt
  have hU := Lib.hid (fun w' (q : Below W.heap.size W w') => fUnits_any (h.keep (hB1.trans (q.mono hB1.size))) (by have := ho.u; unfold FlV.units at this; omega) (by have := ho.l; omega))
  have hD := Lib.hid (fun w' (q : Below W.heap.size W w') => fDone_any v.units (h.keep (hB1.trans (q.mono hB1.size))) ho.ok ho.k ho.n (by have := ho.u; omega) (by have := ho.l; omega))
  have hheld : doneL v.K v.S v.units = v.held := doneL_all _ _ _ (Nat.le_refl _)
  rw [hheld] at hD
  have hBH := Lib.hid hB1
  have KC := Lib.hid (fun w' (q : Below W.heap.size W w') => hb1.keep q hgl)
  have hGH := Lib.hid hG
  have hb : Below W.heap.size W W.drew := Below.drew (Below.refl _ _)
  clear hl hb1 hB1 hgl hheld ho h
  go_enter Tryz.func30, Tryz.ntmps30
  go_wp2_with ((with_reducible refine box_row rfl 34 (.tmp 0) rfl cs rfl ?_); refine RowKit.Hid.out ?_)
  refine Lib.hid ?_
  (try rw [hW])
  (try rw [hG])
  clear hW hG
  go_wp2_with fail
  refine region_seqS (fun w' => Below W.heap.size W w') (by kernel_rfl) hb ?_
  simp only [pairs, Nat.reduceAdd]
  repeat ((first
    | (refine SeqS.y0 (v := .agg (cs).toArray) (yields_blk (by rfl) 34 (.tmp 1) rfl rfl (fun w' h => KC.out w' h) (hrow)) ?_)
    | (refine SeqS.k0 (v := ?_) ?_ ?_; rotate_left; focus (intro w' hb'; go_simp; with_reducible rfl))
    | (refine SeqS.u0 ?_)
    | (refine SeqS.y1 (v := .agg (cs).toArray) (yields_blk (by rfl) 34 (.tmp 1) rfl rfl (fun w' h => KC.out w' h) (hrow)) ?_)
    | (refine SeqS.k1 (v := ?_) ?_ ?_; rotate_left; focus (intro w' hb'; go_simp; with_reducible rfl))
    | (refine SeqS.u1 ?_)
    | (refine SeqS.y2 (v := .agg (cs).toArray) (yields_blk (by rfl) 34 (.tmp 1) rfl rfl (fun w' h => KC.out w' h) (hrow)) ?_)
    | (refine SeqS.k2 (v := ?_) ?_ ?_; rotate_left; focus (intro w' hb'; go_simp; with_reducible rfl))
    | (refine SeqS.u2 ?_)); simp only [Act.put, List.setIfInBounds_toArray, List.set_cons_zero, List.set_cons_succ])
  refine SeqS.alone (by decide +kernel) (by rfl) (fun K hK => ?_)
  go_simp
  go_at_call 59
  refine (hU.out _ hb).mono ?_
  rintro e w5 ⟨rfl, b5⟩
  go_simp
  have S5 : Below W.heap.size W w5 := hb.trans (b5.mono hb.size)
  refine hK _ _ S5 ?_
  clear hK K
  refine SeqS.alone (by decide +kernel) (by rfl) (fun K hK => ?_)
  go_simp
  go_at_call 58
  refine (hD.out _ S5).mono ?_
  rintro e w6 ⟨b9, c9, rfl, o6, b6⟩
  go_simp
  have S6 : Below W.heap.size W w6 := S5.trans (b6.mono S5.size)
  refine hK _ _ S6 ?_
  clear hK K
  repeat ((first
    | (refine SeqS.k0 (v := ?_) ?_ ?_; rotate_left; focus (intro w' hb'; go_simp; with_reducible rfl))
    | (refine SeqS.u0 ?_)
    | (refine SeqS.k1 (v := ?_) ?_ ?_; rotate_left; focus (intro w' hb'; go_simp; with_reducible rfl))
    | (refine SeqS.u1 ?_)
    | (refine SeqS.k2 (v := ?_) ?_ ?_; rotate_left; focus (intro w' hb'; go_simp; with_reducible rfl))
    | (refine SeqS.u2 ?_)); simp only [Act.put, List.setIfInBounds_toArray, List.set_cons_zero, List.set_cons_succ])
  refine SeqS.done (by decide +kernel) ?_
  go_wp2
  go_ret
  exact ⟨b9, c9, rfl, own_weak o6 (Nat.le_trans hBH.out.size S5.size), hBH.out.trans (S6.mono hBH.out.size)⟩
theorem need_step (K : List Int) (S : List StV) (j : Nat) (hj : j ≤ S.length) : max (needL K (S.take (j - 1))) (allL K (S.take j)).length = needL K (S.take j) := by
  cases j with
  | zero => rw [List.take_zero, needL_nil, allL_nil]; omega
  | succ j => rw [Nat.add_sub_cancel, needL_take_succ K S j (by omega)]
theorem built_rf (a b : Option Addr) (n m c d : Nat) : Tryz.prog.built 34 [(0, .slice a n c), (1, .slice b m d)] = some (rfC a n c b m d).toArray := by kernel_rfl
theorem run_cutHi3 {P : Program} (ty e : TypeId) (hu : P.underlying ty = some (.slice e)) {s : Nat} (hs : (P.info? e).map (·.size) = some s) (A : Option Addr) (m c : Nat) (k : IntKind) (l : Nat) (hlm : l ≤ c) (w : World) :
    (Instr.sliceAt ty (.slice A m c) none (some (.int k (l : Int))) none).run P w = .ok (.slice A l c) w := by
  have he : P.elem ty = e := by simp [Program.elem, hu]
  rw [run_sliceAt_slice w ty _ _ _ _ (by rw [he]; exact hu), run_slice_h w ty A m c (by rw [he]; exact hu) k l (by omega) (by omega)]
  cases hq : P.info? e with
  | none => simp [hq] at hs
  | some i =>
    simp [he, sizeOf, typeInfo, hq, sliced]
    intro _
    cases A with
    | none => rfl
    | some x =>
      obtain ⟨b, o, sp⟩ := x
      cases sp <;> simp [Addr.add]

set_option maxRecDepth 100000 in
set_option maxHeartbeats 1000000 in
theorem fNeed_any {R : Nat → Prop} {w : World} {cs : List Value} {v : FlV} (h : RFile R w cs v) (ho : FOk v) :
    Calls Tryz.prog 73 #[.agg cs.toArray] w fun q w' => q = .returned (.int .i64 (v.need : Nat)) ∧ Below w.heap.size w w' := by
  obtain ⟨ka, kc, sa, sc, hcs, hI, hR, hS⟩ := h
  have hb1 := Blk.new w 34 cs
  have hB1 := below1 w (.cells cs.toArray 34)
  obtain ⟨W, hW⟩ : ∃ W, w.alloc (.cells cs.toArray 34) = W := ⟨_, rfl⟩
  rw [hW] at hb1 hB1
  obtain ⟨G, hG⟩ : ∃ G, w.heap.size = G := ⟨_, rfl⟩
  rw [hG] at hb1
  have hgl := hb1.lt
  have e0 := hb1.cell 0
  have e1 := hb1.cell 1
  rw [hcs] at e0 e1
  have e0' : W.cell? ⟨G, 0, none⟩ = some (.slice ka v.K.length kc) := e0
  have e1' : W.cell? ⟨G, 1, none⟩ = some (.slice sa v.S.length sc) := e1
  have hE0 := Lib.hid (fun (w' : World) (q : Below W.heap.size W w') => ((q.cell (p := ⟨G, 0, none⟩) hgl).trans e0'))
  have hE1 := Lib.hid (fun (w' : World) (q : Below W.heap.size W w') => ((q.cell (p := ⟨G, 1, none⟩) hgl).trans e1'))
  have hsc := hS.1
  have hHo := Lib.hid (fun (j : Nat) (hj : j ≤ v.S.length) (w' : World) (q : Below W.heap.size W w') => fHolds_any (w := w') (R := R) (cs := rfC ka v.K.length kc sa (v.S.take j).length sc) (v := ⟨v.K, v.S.take j⟩) ⟨ka, kc, sa, sc, rfl, hI.keep (hB1.trans (q.mono hB1.size)), hR, (hS.take j).keep (hB1.trans (q.mono hB1.size))⟩ (ho.take j))
  have hns := Lib.hid (fun j hj => need_step v.K v.S j hj)
  have hnl := Lib.hid (fun j => Nat.le_trans (needL_take_le v.K v.S j) ho.n)
  have hal := Lib.hid (fun j => Nat.le_trans (Nat.le_trans (allL_le v.K (v.S.take j)) (needL_take_le v.K v.S j)) ho.n)
  have hNl := ho.l
  have hKl := ho.k
  obtain ⟨N, hN⟩ : ∃ N, v.S.length = N := ⟨_, rfl⟩
  rw [hN] at hE1 hsc hHo hNl
  have hNH := Lib.hid hN
  have hBH := Lib.hid hB1
  have hGH := Lib.hid hG
  have hW0 := hE0.out W (Below.refl _ _)
  have hstart : needL v.K (v.S.take (0 - 1)) = v.K.length := rfl
  have hfinal : v.need = needL v.K (v.S.take (N + 1 - 1)) := by
    show needL v.K v.S = _
    rw [Nat.add_sub_cancel, List.take_of_length_le (by omega)]
  rw [hfinal]
  have hstH := Lib.hid hstart
  clear hfinal hstart hN hb1 hB1 e0 e1 e0' e1' hcs hI hR hS ho
  go_enter Tryz.func73, Tryz.ntmps73
  go_wp2_with ((with_reducible refine box_row rfl 34 (.tmp 0) rfl cs rfl ?_); refine RowKit.Hid.out ?_)
  refine Lib.hid ?_
  (try rw [hW])
  (try rw [hG])
  clear hW hG
  go_wp2_with fail
  go_loopw [3, 4] (fun m i wr => ∃ j : Nat, j ≤ N + 1 ∧ i = .int .i64 j ∧ m = .int .i64 ((needL v.K (v.S.take (j - 1)) : Nat) : Int) ∧ Below W.heap.size W wr) (fun _ i _ => N + 1 - (intOf i).toNat)
  case atStart => exact ⟨0, Nat.zero_le _, rfl, by rw [hstH.out], Below.refl _ _⟩
  case round =>
    clear hW0
    obtain ⟨j, hj, rfl, rfl, hBw⟩ := hrel
    have c1 := hE1.out wr hBw
    by_cases hlt : j ≤ N
    · have hji : (j : Int) ≤ (N : Int) := by omega
      have hwj : wrap64 ((j : Int) + 1) = (j : Int) + 1 := by unfold wrap64; omega
      have hsl := fun wx => run_cutHi3 (P := Tryz.prog) 32 75 Tryz.underlying32 (s := 3) (by kernel_rfl) sa N sc .i64 j (by omega) wx
      have hHj := hHo.out j hlt
      have hnj := hns.out j (by rw [hNH.out]; exact hlt)
      have haj := hal.out j
      have hnlj := hnl.out (j - 1)
      have htl : (v.S.take j).length = j := by rw [List.length_take, hNH.out]; omega
      rw [htl] at hHj
      obtain ⟨A, hA⟩ : ∃ A, (⟨v.K, v.S.take j⟩ : FlV).held = A := ⟨_, rfl⟩
      have hA' : allL v.K (v.S.take j) = A := hA
      rw [hA] at hHj
      rw [hA'] at hnj haj
      obtain ⟨M, hM⟩ : ∃ M, needL v.K (v.S.take (j - 1)) = M := ⟨_, rfl⟩
      rw [hM] at hnj hnlj ⊢
      obtain ⟨V, hV⟩ : ∃ V, wr.drew = V := ⟨_, rfl⟩
      have hBV : Below W.heap.size W V := by rw [← hV]; exact hBw.drew
      have hb : Below V.heap.size V V := Below.refl _ _
      have hE0V := Lib.hid (fun (w' : World) (q : Below V.heap.size V w') => hE0.out w' (hBV.trans (q.mono hBV.size)))
      have hE1V := Lib.hid (fun (w' : World) (q : Below V.heap.size V w') => hE1.out w' (hBV.trans (q.mono hBV.size)))
      have hHV := Lib.hid (fun (w' : World) (q : Below V.heap.size V w') => hHj w' (hBV.trans (q.mono hBV.size)))
      have hbt := built_rf ka sa v.K.length j kc sc
      have hnjH := Lib.hid hnj
      have hltH := Lib.hid hlt
      have hBVH := Lib.hid hBV
      clear htl hA hA' hM hlt hj hHj hnj hBV
      go_wp2_with fail
      refine region_seqS (fun w' => Below V.heap.size V w') (by kernel_rfl) (by rw [hV]; exact hb) ?_
      simp only [pairs, Nat.reduceAdd]
      rw [hV]
      clear hV
      repeat ((first
        | (refine SeqS.k0 (v := ?_) ?_ ?_; rotate_left; focus (intro w' hb'; go_simp; with_reducible rfl))
        | (refine SeqS.k0 (v := ?_) ?_ ?_; rotate_left; focus (intro w' hb'; have d0 := hE0V.out w' hb'; go_simp; with_reducible rfl))
        | (refine SeqS.k0 (v := ?_) ?_ ?_; rotate_left; focus (intro w' hb'; have d0 := hE1V.out w' hb'; go_simp; with_reducible rfl))
        | (refine SeqS.k0 (v := ?_) ?_ ?_; rotate_left; focus (intro w' hb'; have d0 := hsl w'; go_simp; with_reducible rfl))
        | (refine SeqS.u0 ?_)
        | (refine SeqS.k1 (v := ?_) ?_ ?_; rotate_left; focus (intro w' hb'; go_simp; with_reducible rfl))
        | (refine SeqS.k1 (v := ?_) ?_ ?_; rotate_left; focus (intro w' hb'; have d0 := hE0V.out w' hb'; go_simp; with_reducible rfl))
        | (refine SeqS.k1 (v := ?_) ?_ ?_; rotate_left; focus (intro w' hb'; have d0 := hE1V.out w' hb'; go_simp; with_reducible rfl))
        | (refine SeqS.k1 (v := ?_) ?_ ?_; rotate_left; focus (intro w' hb'; have d0 := hsl w'; go_simp; with_reducible rfl))
        | (refine SeqS.u1 ?_)
        | (refine SeqS.k2 (v := ?_) ?_ ?_; rotate_left; focus (intro w' hb'; go_simp; with_reducible rfl))
        | (refine SeqS.k2 (v := ?_) ?_ ?_; rotate_left; focus (intro w' hb'; have d0 := hE0V.out w' hb'; go_simp; with_reducible rfl))
        | (refine SeqS.k2 (v := ?_) ?_ ?_; rotate_left; focus (intro w' hb'; have d0 := hE1V.out w' hb'; go_simp; with_reducible rfl))
        | (refine SeqS.k2 (v := ?_) ?_ ?_; rotate_left; focus (intro w' hb'; have d0 := hsl w'; go_simp; with_reducible rfl))
        | (refine SeqS.u2 ?_)); simp only [Act.put, List.setIfInBounds_toArray, List.set_cons_zero, List.set_cons_succ])
      refine SeqS.alone (by decide +kernel) (by rfl) (fun K hK => ?_)
      go_simp
      go_at_call 30
      refine (hHV.out _ hb).mono ?_
      rintro e w5 ⟨b9, c9, rfl, o5, b5⟩
      go_simp
      have S5 : Below V.heap.size V w5 := hb.trans (b5.mono hb.size)
      refine hK _ _ S5 ?_
      clear hK K
      repeat ((first
        | (refine SeqS.k0 (v := ?_) ?_ ?_; rotate_left; focus (intro w' hb'; go_simp; with_reducible rfl))
        | (refine SeqS.u0 ?_)
        | (refine SeqS.k1 (v := ?_) ?_ ?_; rotate_left; focus (intro w' hb'; go_simp; with_reducible rfl))
        | (refine SeqS.u1 ?_)
        | (refine SeqS.k2 (v := ?_) ?_ ?_; rotate_left; focus (intro w' hb'; go_simp; with_reducible rfl))
        | (refine SeqS.u2 ?_)); simp only [Act.put, List.setIfInBounds_toArray, List.set_cons_zero, List.set_cons_succ])
      refine SeqS.done (by decide +kernel) ?_
      have hBE := hBVH.out.trans (S5.mono hBVH.out.size)
      clear hE0V hE1V hHV hbt S5 b5 o5 hb c1 hsl
      by_cases hmx : (M : Int) < (A.length : Int)
      · have hr : needL v.K (v.S.take (j + 1 - 1)) = A.length := by rw [Nat.add_sub_cancel, ← hnjH.out]; omega
        have hrH := Lib.hid hr
        clear hr
        go_wp2
        exact ⟨⟨j + 1, by have := hltH.out; omega, by congr 1, by rw [hrH.out], hBE⟩, by simp only [intOf]; have := hltH.out; omega⟩
      · have hr : needL v.K (v.S.take (j + 1 - 1)) = M := by rw [Nat.add_sub_cancel, ← hnjH.out]; omega
        have hrH := Lib.hid hr
        clear hr
        go_wp2
        exact ⟨⟨j + 1, by have := hltH.out; omega, by congr 1, by rw [hrH.out], hBE⟩, by simp only [intOf]; have := hltH.out; omega⟩
    · obtain rfl : j = N + 1 := by omega
      have hji : ¬ ((N + 1 : Nat) : Int) ≤ (N : Int) := by omega
      have hBE := hBH.out.trans (hBw.mono hBH.out.size)
      clear hlt hj
      go_wp2
      go_ret
      exact ⟨rfl, hBE⟩

set_option maxRecDepth 100000 in
set_option maxHeartbeats 1000000 in
theorem fUsed_any {R : Nat → Prop} {w : World} {cs : List Value} {D : DkV} (h : RDisk R w cs D) (o0 : FOk D.f0) (o1 : FOk D.f1) (o2 : FOk D.f2) :
    Calls Tryz.prog 47 #[.agg cs.toArray] w fun q w' => q = .returned (.int .i64 (D.used : Nat)) ∧ Below w.heap.size w w' := by
  obtain ⟨c0, c1, c2, hcs, h0, h1, h2⟩ := h
  have l2 : ∀ {c : List Value} {v : FlV}, RFile R w c v → c.length = 2 := fun h => by
    obtain ⟨_, _, _, _, hc, _⟩ := h
    rw [hc]; rfl
  have m0 := l2 h0
  have m1 := l2 h1
  have m2 := l2 h2
  have hb1 := Blk.new w 37 cs
  have hB1 := below1 w (.cells cs.toArray 37)
  obtain ⟨W, hW⟩ : ∃ W, w.alloc (.cells cs.toArray 37) = W := ⟨_, rfl⟩
  rw [hW] at hb1 hB1
  obtain ⟨G, hG⟩ : ∃ G, w.heap.size = G := ⟨_, rfl⟩
  rw [hG] at hb1
  have hgl := hb1.lt
  have r0 : ∀ {w' : World}, Blk w' G 37 cs → w'.rangeAt G 0 c0 := fun hb => hb.range _ _ (fun j v hj => by rw [hcs]; have := (List.getElem?_eq_some_iff.1 hj).1; unfold ddC; rw [Nat.zero_add, List.getElem?_append_left (by omega)]; exact hj)
  have r1 : ∀ {w' : World}, Blk w' G 37 cs → w'.rangeAt G 2 c1 := fun hb => hb.range _ _ (fun j v hj => by rw [hcs]; have := (List.getElem?_eq_some_iff.1 hj).1; unfold ddC; rw [List.getElem?_append_right (by omega), m0, Nat.add_sub_cancel_left, List.getElem?_append_left (by omega)]; exact hj)
  have r2 : ∀ {w' : World}, Blk w' G 37 cs → w'.rangeAt G 4 c2 := fun hb => hb.range _ _ (fun j v hj => by rw [hcs]; have := (List.getElem?_eq_some_iff.1 hj).1; unfold ddC; rw [List.getElem?_append_right (by omega), m0, show 4 + j - 2 = 2 + j by omega, List.getElem?_append_right (by omega), m1, Nat.add_sub_cancel_left, List.getElem?_append_left (by omega)]; exact hj)
  have i0 : IsRow Tryz.prog 34 c0.length := by rw [m0]; exact rowRf
  have i1 : IsRow Tryz.prog 34 c1.length := by rw [m1]; exact rowRf
  have i2 : IsRow Tryz.prog 34 c2.length := by rw [m2]; exact rowRf
  have k0 := Lib.hid (fun w' (q : Below W.heap.size W w') => fNeed_any (h0.keep (hB1.trans (q.mono hB1.size))) o0)
  have k1 := Lib.hid (fun w' (q : Below W.heap.size W w') => fNeed_any (h1.keep (hB1.trans (q.mono hB1.size))) o1)
  have k2 := Lib.hid (fun w' (q : Below W.heap.size W w') => fNeed_any (h2.keep (hB1.trans (q.mono hB1.size))) o2)
  have t0 := Lib.hid (fun (w' : World) (q : Below W.heap.size W w') => r0 (hb1.keep q hgl))
  have t1 := Lib.hid (fun (w' : World) (q : Below W.heap.size W w') => r1 (hb1.keep q hgl))
  have t2 := Lib.hid (fun (w' : World) (q : Below W.heap.size W w') => r2 (hb1.keep q hgl))
  have u0 := o0.n
  have u1 := o1.n
  have u2 := o2.n
  have hused : D.used = D.f0.need + D.f1.need + D.f2.need := rfl
  obtain ⟨n0, hn0⟩ : ∃ n, D.f0.need = n := ⟨_, rfl⟩
  obtain ⟨n1, hn1⟩ : ∃ n, D.f1.need = n := ⟨_, rfl⟩
  obtain ⟨n2, hn2⟩ : ∃ n, D.f2.need = n := ⟨_, rfl⟩
  rw [hn0] at k0 u0 hused
  rw [hn1] at k1 u1 hused
  rw [hn2] at k2 u2 hused
  rw [hused]
  have hBH := Lib.hid hB1
  clear l2 r0 r1 r2 m0 m1 m2 h0 h1 h2 hcs hb1 o0 o1 o2 hn0 hn1 hn2 hused hB1
  go_enter Tryz.func47, Tryz.ntmps47
  go_wp2_with ((with_reducible refine box_row rfl 37 (.tmp 0) rfl cs rfl ?_); refine RowKit.Hid.out ?_)
  refine Lib.hid ?_
  (try rw [hW])
  (try rw [hG])
  clear hW hG
  go_wp2_with fail
  go_loopw [3, 4] (fun l i wr => ∃ j : Nat, j ≤ 3 ∧ i = .int .i64 j ∧ l = .int .i64 ((if j = 0 then 0 else if j = 1 then n0 else if j = 2 then n0 + n1 else n0 + n1 + n2 : Nat) : Int) ∧ Below W.heap.size W wr) (fun _ i _ => 3 - (intOf i).toNat)
  case atStart => exact ⟨0, by omega, rfl, rfl, Below.refl _ _⟩
  case round =>
    obtain ⟨j, hj, rfl, rfl, hBw⟩ := hrel
    match j, hj with
    | 0, _ =>
      have r := t0.out wr hBw
      have k := k0.out wr hBw
      go_wp2_with (with_reducible refine wpList_load_part (off := 0) rfl 34 _ rfl rfl c0 r i0 ?_)
      refine k.mono ?_
      rintro q w3 ⟨rfl, hB3⟩
      have hBE := hBw.trans (hB3.mono hBw.size)
      go_wp2
      exact ⟨⟨1, by omega, rfl, by simp, hBE⟩, by simp only [intOf]; omega⟩
    | 1, _ =>
      have r := t1.out wr hBw
      have k := k1.out wr hBw
      have hw : wrap64 ((n0 : Int) + n1) = ((n0 + n1 : Nat) : Int) := by unfold wrap64; omega
      go_wp2_with (with_reducible refine wpList_load_part (off := 2) rfl 34 _ rfl rfl c1 r i1 ?_)
      refine k.mono ?_
      rintro q w3 ⟨rfl, hB3⟩
      have hBE := hBw.trans (hB3.mono hBw.size)
      go_wp2
      exact ⟨⟨2, by omega, rfl, by simp, hBE⟩, by simp only [intOf]; omega⟩
    | 2, _ =>
      have r := t2.out wr hBw
      have k := k2.out wr hBw
      have hw : wrap64 (((n0 + n1 : Nat) : Int) + n2) = ((n0 + n1 + n2 : Nat) : Int) := by unfold wrap64; omega
      go_wp2_with (with_reducible refine wpList_load_part (off := 4) rfl 34 _ rfl rfl c2 r i2 ?_)
      refine k.mono ?_
      rintro q w3 ⟨rfl, hB3⟩
      have hBE := hBw.trans (hB3.mono hBw.size)
      go_wp2
      exact ⟨⟨3, by omega, rfl, by simp, hBE⟩, by simp only [intOf]; omega⟩
    | 3, _ =>
      have hBE := hBH.out.trans (hBw.mono hBH.out.size)
      go_wp2
      go_ret
      exact ⟨by simp, hBE⟩
end Go.Proofs.YtcohbhimhacedaaGreatDoor

/-
  The document's own burn, answer and Arm (layer 18); results that lie in a block beside others. New memory alone is written. Conditions: a fuse that is not below 0.
-/
namespace Go.Proofs.YtcohbhimhacedaaGreatDoor
open Go.RowKit

theorem results_bt18 {P : Program} {fn : Func} {p u : Tmp} {ty : TypeId} (h : fn.results = #[.cell p ty, .tmp u]) {tmps : Array Value} {w : World} {g : Nat} {t : TypeId} {cs : List Value}
    (hp : tmps.getD p undef = .pointer (some ⟨g, 0, none⟩)) (hg : Blk w g t cs) (hr : IsRow P ty cs.length) : (results fn tmps).run P w = .ok (.tuple #[.agg cs.toArray, tmps.getD u undef]) w := by
  obtain ⟨⟨d, hu, hd⟩, hi⟩ := hr
  have := run_loadVar_mid (P := P) w g 0 ty cs d (hg.range 0 cs (fun j v hj => by simpa using hj)) hu hd hi
  have hp' : tmps[p]?.getD undef = .pointer (some ⟨g, 0, none⟩) := by simpa using hp
  simp [results, h, hp', asAddr, this]
def ddZ : List Value := [.slice none 0 0, .slice none 0 0, .slice none 0 0, .slice none 0 0, .slice none 0 0, .slice none 0 0, .int .i64 0, .int .i64 0, .bool false]
theorem zeroDd : Zero Tryz.prog 37 ddZ := by unfold Zero; kernel_rfl
theorem ddZ_len : ddZ.length = 9 := rfl
/-- A disk's nine cells, with their head. -/
structure DdC (cs : List Value) (r f : Int) (d : Bool) : Prop where
  l : cs.length = 9
  r : cs[6]? = some (.int .i64 r)
  f : cs[7]? = some (.int .i64 f)
  d : cs[8]? = some (.bool d)
  o : ∀ u ∈ cs, u.oneCell' = true
theorem RFile.len {R : Nat → Prop} {w : World} {cs : List Value} {v : FlV} (h : RFile R w cs v) : cs.length = 2 := by
  obtain ⟨_, _, _, _, hc, _⟩ := h
  rw [hc]; rfl
theorem RFile.one {R : Nat → Prop} {w : World} {cs : List Value} {v : FlV} (h : RFile R w cs v) : ∀ u ∈ cs, u.oneCell' = true := by
  obtain ⟨_, _, _, _, hc, _⟩ := h
  intro u hu
  rw [hc] at hu
  simp only [rfC, List.mem_cons, List.not_mem_nil, or_false] at hu
  rcases hu with rfl | rfl <;> rfl
theorem ddC_at {c0 c1 c2 : List Value} (D : DkV) (h0 : c0.length = 2) (h1 : c1.length = 2) (h2 : c2.length = 2) :
    (ddC c0 c1 c2 D).length = 9 ∧ (ddC c0 c1 c2 D)[6]? = some (.int .i64 D.room) ∧ (ddC c0 c1 c2 D)[7]? = some (.int .i64 D.fuse) ∧ (ddC c0 c1 c2 D)[8]? = some (.bool D.down) := by
  match c0, h0, c1, h1, c2, h2 with
  | [_, _], _, [_, _], _, [_, _], _ => exact ⟨rfl, rfl, rfl, rfl⟩
theorem ddC_set7 {c0 c1 c2 : List Value} (D : DkV) (f : Int) (h0 : c0.length = 2) (h1 : c1.length = 2) (h2 : c2.length = 2) : (ddC c0 c1 c2 D).set 7 (.int .i64 f) = ddC c0 c1 c2 { D with fuse := f } := by
  match c0, h0, c1, h1, c2, h2 with
  | [_, _], _, [_, _], _, [_, _], _ => rfl
theorem ddC_set8 {c0 c1 c2 : List Value} (D : DkV) (d : Bool) (h0 : c0.length = 2) (h1 : c1.length = 2) (h2 : c2.length = 2) : (ddC c0 c1 c2 D).set 8 (.bool d) = ddC c0 c1 c2 { D with down := d } := by
  match c0, h0, c1, h1, c2, h2 with
  | [_, _], _, [_, _], _, [_, _], _ => rfl
theorem RDisk.ddc {R : Nat → Prop} {w : World} {cs : List Value} {D : DkV} (h : RDisk R w cs D) : DdC cs D.room D.fuse D.down := by
  obtain ⟨c0, c1, c2, hc, h0, h1, h2⟩ := h
  obtain ⟨a, b, c, d⟩ := ddC_at (c0 := c0) (c1 := c1) (c2 := c2) D h0.len h1.len h2.len
  rw [← hc] at a b c d
  refine ⟨a, b, c, d, fun u hu => ?_⟩
  rw [hc] at hu
  unfold ddC at hu
  simp only [List.mem_append, List.mem_cons, List.not_mem_nil, or_false] at hu
  rcases hu with hu | hu | hu | rfl | rfl | rfl
  · exact h0.one u hu
  · exact h1.one u hu
  · exact h2.one u hu
  · rfl
  · rfl
  · rfl
theorem RDisk.head {R : Nat → Prop} {w : World} {cs cs' : List Value} {D D' : DkV} (h : RDisk R w cs D) (h0 : D'.f0 = D.f0) (h1 : D'.f1 = D.f1) (h2 : D'.f2 = D.f2) (hc : ∀ c0 c1 c2 : List Value, c0.length = 2 → c1.length = 2 → c2.length = 2 → cs = ddC c0 c1 c2 D → cs' = ddC c0 c1 c2 D') : RDisk R w cs' D' := by
  obtain ⟨c0, c1, c2, hcs, k0, k1, k2⟩ := h
  exact ⟨c0, c1, c2, hc c0 c1 c2 k0.len k1.len k2.len hcs, h0 ▸ k0, h1 ▸ k1, h2 ▸ k2⟩
/-- What burn makes of the cells. -/
def burnC (cs : List Value) (f : Int) : List Value := if 0 < f then (cs.set 7 (.int .i64 (f - 1))).set 8 (.bool (decide (f - 1 = 0))) else cs
theorem RDisk.burn {R : Nat → Prop} {w : World} {cs : List Value} {D : DkV} (h : RDisk R w cs D) (hf : 0 ≤ D.fuse) : RDisk R w (burnC cs D.fuse) D.burn := by
  obtain ⟨k0, k1, k2, _⟩ : D.burn.f0 = D.f0 ∧ D.burn.f1 = D.f1 ∧ D.burn.f2 = D.f2 ∧ True := by unfold DkV.burn; split <;> exact ⟨rfl, rfl, rfl, trivial⟩
  refine h.head k0 k1 k2 (fun c0 c1 c2 l0 l1 l2 hc => ?_)
  unfold burnC DkV.burn
  by_cases h0 : D.fuse = 0
  · rw [if_neg (by omega), if_pos h0]; exact hc
  · rw [if_pos (by omega), if_neg h0, hc, ddC_set7 D _ l0 l1 l2, ddC_set8 _ _ l0 l1 l2]

set_option maxRecDepth 100000 in
set_option maxHeartbeats 1000000 in
theorem fBurn_any {w : World} {cs : List Value} {r f : Int} {d : Bool} (h : DdC cs r f d) (hf : f < 9223372036854775808) :
    Calls Tryz.prog 48 #[.agg cs.toArray] w fun q w' => q = .returned (.agg (burnC cs f).toArray) ∧ Below w.heap.size w w' := by
  obtain ⟨hl, h6, h7, h8, ho⟩ := h
  obtain ⟨zs, hzs⟩ : ∃ zs, ddZ = zs := ⟨_, rfl⟩
  have hz := zeroDd
  have hzl := ddZ_len
  rw [hzs] at hz hzl
  have hb1 := Blk.new w 37 cs
  have hB1 := below1 w (.cells cs.toArray 37)
  have hb2 : Blk ((w.alloc (.cells cs.toArray 37)).alloc (.cells zs.toArray 37)) (w.heap.size + 1) 37 zs := Blk.new1 w _ _ zs
  have hk2 := hb1.alloc (.cells zs.toArray 37)
  have hB2 := below2 w (.cells cs.toArray 37) (.cells zs.toArray 37)
  obtain ⟨W, hW⟩ : ∃ W, (w.alloc (.cells cs.toArray 37)).alloc (.cells zs.toArray 37) = W := ⟨_, rfl⟩
  rw [hW] at hb2 hk2 hB2
  obtain ⟨G, hG⟩ : ∃ G, w.heap.size = G := ⟨_, rfl⟩
  rw [hG] at hb2 hk2
  have e7 := hk2.cell 7
  rw [h7] at e7
  have f7 := hk2.frozen 7
  have hrow : IsRow Tryz.prog 37 cs.length := by rw [hl]; exact rowDd
  obtain ⟨cr, hcr⟩ : ∃ cr, burnC cs f = cr := ⟨_, rfl⟩
  rw [hcr]
  have hcrH := Lib.hid hcr
  have hWH := Lib.hid hW
  have hGH := Lib.hid hG
  have hBH := Lib.hid hB2
  clear hb1 hB1 hzs hW hG hB2 hcr
  go_enter Tryz.func48, Tryz.ntmps48
  go_wp2_with ((with_reducible refine box_row rfl 37 (.tmp 0) rfl cs rfl ?_); refine RowKit.Hid.out ?_)
  refine Lib.hid ?_
  refine wpList_alloc_blk rfl 37 rfl hz ?_
  rw [hWH.out, size1, hGH.out]
  by_cases hp : 0 < f
  · have hbc : burnC cs f = (cs.set 7 (.int .i64 (f - 1))).set 8 (.bool (decide (f - 1 = 0))) := if_pos hp
    have hw : wrap64 (f - 1) = f - 1 := by unfold wrap64; omega
    have B1 := hk2.set 7 (.int .i64 (f - 1))
    have e71 := B1.cell 7
    rw [List.getElem?_set_self (by omega)] at e71
    have e81 := B1.cell 8
    rw [List.getElem?_set_ne (by decide), h8] at e81
    have f81 := B1.frozen 8
    obtain ⟨dd, hdd⟩ : ∃ dd, decide (f - 1 = 0) = dd := ⟨_, rfl⟩
    rw [hdd] at hbc
    have hE : (f - 1 == 0) = dd := hdd
    have B2 := B1.set 8 (.bool dd)
    obtain ⟨c2, hc2⟩ : ∃ c, (cs.set 7 (.int .i64 (f - 1))).set 8 (.bool dd) = c := ⟨_, rfl⟩
    have hl2 : c2.length = 9 := by rw [← hc2, List.length_set, List.length_set]; exact hl
    have ho2 : ∀ u ∈ c2, u.oneCell' = true := by
      intro u hu
      rw [← hc2] at hu
      rcases List.mem_or_eq_of_mem_set hu with hu | rfl
      · rcases List.mem_or_eq_of_mem_set hu with hu | rfl
        · exact ho u hu
        · rfl
      · rfl
    rw [hc2] at B2 hbc
    have hcr2 := hcrH.out
    rw [hbc] at hcr2
    subst hcr2
    have hZ2 := (hb2.far (p := ⟨G, 7, none⟩) (by show G + 1 ≠ G; omega) (.int .i64 (f - 1))).far (p := ⟨G, 8, none⟩) (by show G + 1 ≠ G; omega) (.bool dd)
    have gg : W.grownBy ((W.setCell ⟨G, 7, none⟩ (.int .i64 (f - 1))).setCell ⟨G, 8, none⟩ (.bool dd)) (some G) := grown_trans (grown_setCell _ _ _ _) (grown_setCell _ _ _ _)
    have hBB := hBH.out.grown gg hBH.out.size (fun q hq => by injection hq with hq; rw [← hq, ← hGH.out]; exact Nat.le_refl _)
    have hc2H := Lib.hid hc2
    have hBBH := Lib.hid hBB
    clear hc2 gg hBB hbc ho h6 h7 h8 hrow hl hk2 hb2 B1
    go_wp2_with ((with_reducible refine wpList_load_blk rfl 37 (.tmp 1) rfl ?_ B2 rowDd hl2 ?_); rfl; refine RowKit.Hid.out ?_)
    refine Lib.hid ?_
    refine store_row rfl 37 (.tmp 2) (.tmp 14) rfl rfl rfl hZ2 rowDd hl2 hzl ho2 ?_
    intro w3 hb3 hg3
    have hB3 := hBBH.out.grown hg3 hBBH.out.size (fun q hq => by injection hq with hq; rw [← hq, ← hGH.out]; omega)
    have hrow2 : IsRow Tryz.prog 37 c2.length := by rw [hl2]; exact rowDd
    clear B2 hZ2 hg3 e7 f7 e71 e81 f81
    go_wp2
    refine bodyPost_ret (results_blk rfl rfl hb3 hrow2) rfl ?_
    exact ⟨rfl, hB3⟩
  · have hcr2 := hcrH.out
    rw [show burnC cs f = cs from if_neg hp] at hcr2
    subst hcr2
    go_wp2_with ((with_reducible refine wpList_load_blk rfl 37 (.tmp 1) rfl ?_ hk2 rowDd hl ?_); rfl; refine RowKit.Hid.out ?_)
    refine Lib.hid ?_
    refine store_row rfl 37 (.tmp 2) (.tmp 14) rfl rfl rfl hb2 rowDd hl hzl ho ?_
    intro w3 hb3 hg3
    have hB3 := hBH.out.grown hg3 hBH.out.size (fun q hq => by injection hq with hq; rw [← hq, ← hGH.out]; omega)
    clear hk2 hb2 hg3 e7 f7
    go_wp2
    refine bodyPost_ret (results_blk rfl rfl hb3 hrow) rfl ?_
    exact ⟨rfl, hB3⟩

set_option maxRecDepth 100000 in
set_option maxHeartbeats 1000000 in
theorem fAnswer_any {w : World} {cs : List Value} {r f : Int} {d : Bool} (h : DdC cs r f d) :
    Calls Tryz.prog 49 #[.agg cs.toArray] w fun q w' => q = .returned (.int .i64 (if d = true then 18 else 0)) ∧ Below w.heap.size w w' := by
  obtain ⟨hl, h6, h7, h8, ho⟩ := h
  have hb1 := Blk.new w 37 cs
  have hB1 := below1 w (.cells cs.toArray 37)
  obtain ⟨W, hW⟩ : ∃ W, w.alloc (.cells cs.toArray 37) = W := ⟨_, rfl⟩
  rw [hW] at hb1 hB1
  have e8 := hb1.cell 8
  rw [h8] at e8
  cases d with
  | true =>
    rw [if_pos rfl]
    clear h6 h7 h8 hb1
    go_enter Tryz.func49, Tryz.ntmps49
    go_wp2_with ((with_reducible refine box_row rfl 37 (.tmp 0) rfl cs rfl ?_); refine RowKit.Hid.out ?_)
    refine Lib.hid ?_
    (try rw [hW])
    clear hW
    go_wp2
    go_ret
    exact ⟨rfl, hB1⟩
  | false =>
    rw [if_neg (by decide)]
    clear h6 h7 h8 hb1
    go_enter Tryz.func49, Tryz.ntmps49
    go_wp2_with ((with_reducible refine box_row rfl 37 (.tmp 0) rfl cs rfl ?_); refine RowKit.Hid.out ?_)
    refine Lib.hid ?_
    (try rw [hW])
    clear hW
    go_wp2
    go_ret
    exact ⟨rfl, hB1⟩
end Go.Proofs.YtcohbhimhacedaaGreatDoor

/-
  The document's steps as rows of cells (layer 18); append as a single operation on rows of any size; a disk's files by their numbers. New memory alone is written. Conditions: at most 2^47 bytes.
-/
namespace Go.Proofs.YtcohbhimhacedaaGreatDoor
open Go.RowKit

def CellsOf (R : Nat → Prop) (w : World) : List Value → List StV → Prop
  | L, [] => L = []
  | L, s :: r => ∃ A C L', L = stC s A C ++ L' ∧ RStep R w (stC s A C) s ∧ CellsOf R w L' r
theorem CellsOf.same {R R' : Nat → Prop} {w w' : World} : ∀ {S : List StV} {L : List Value}, CellsOf R w L S → (∀ b, R b → b < w.heap.size → w'.heap[b]? = w.heap[b]?) → (∀ b, R b → R' b) → CellsOf R' w' L S
  | [], _, h, _, _ => h
  | _ :: _, _, ⟨A, C, L', hL, h1, h2⟩, hk, hr => ⟨A, C, L', hL, h1.same hk hr, h2.same hk hr⟩
theorem CellsOf.len {R : Nat → Prop} {w : World} : ∀ {S : List StV} {L : List Value}, CellsOf R w L S → L.length = S.length * 3
  | [], _, h => by rw [show _ = _ from h]; rfl
  | _ :: r, _, ⟨A, C, L', hL, _, h2⟩ => by
    rw [hL, List.length_append, stC_len, h2.len, List.length_cons]; omega
theorem CellsOf.snoc {R : Nat → Prop} {w : World} {s : StV} {A : Option Addr} {C : Nat} (hs : RStep R w (stC s A C) s) : ∀ {S : List StV} {L : List Value}, CellsOf R w L S → CellsOf R w (L ++ stC s A C) (S ++ [s])
  | [], L, h => ⟨A, C, [], by rw [show L = [] from h]; simp, hs, rfl⟩
  | _ :: _, _, ⟨A', C', L', hL, h1, h2⟩ => ⟨A', C', L' ++ stC s A C, by rw [hL, List.append_assoc], h1, h2.snoc hs⟩
theorem CellsOf.one {R : Nat → Prop} {w : World} : ∀ {S : List StV} {L : List Value}, CellsOf R w L S → ∀ u ∈ L, u.oneCell' = true
  | [], _, h, u, hu => by rw [show _ = _ from h] at hu; cases hu
  | s :: _, _, ⟨A, C, L', hL, _, h2⟩, u, hu => by
    rw [hL] at hu
    rcases List.mem_append.1 hu with hu | hu
    · exact stC_one s A C u hu
    · exact h2.one u hu
theorem CellsOf.get {R : Nat → Prop} {w : World} : ∀ {S : List StV} {L : List Value}, CellsOf R w L S → ∀ (i : Nat) (s : StV), S[i]? = some s → ∃ A C, (∀ j v, (stC s A C)[j]? = some v → L[i * 3 + j]? = some v) ∧ RStep R w (stC s A C) s
  | [], _, _, i, s, hs => by simp at hs
  | t :: r, _, ⟨A, C, L', hL, h1, h2⟩, 0, s, hs => by
    simp at hs
    subst hs
    refine ⟨A, C, fun j v hj => ?_, h1⟩
    have := (List.getElem?_eq_some_iff.1 hj).1
    rw [hL, Nat.zero_mul, Nat.zero_add, List.getElem?_append_left this]
    exact hj
  | t :: r, _, ⟨A, C, L', hL, h1, h2⟩, i + 1, s, hs => by
    rw [List.getElem?_cons_succ] at hs
    obtain ⟨A', C', h3, h4⟩ := h2.get i s hs
    refine ⟨A', C', fun j v hj => ?_, h4⟩
    have hl := stC_len t A C
    rw [hL, List.getElem?_append_right (by omega), hl, show (i + 1) * 3 + j - 3 = i * 3 + j by omega]
    exact h3 j v hj
/-- A row of steps, as cells. -/
theorem RSteps.flat {R : Nat → Prop} {w : World} : ∀ {S : List StV} {b off : Nat}, (∀ (i : Nat) (s : StV), S[i]? = some s → ∃ vals, w.rangeAt b (off + i * 3) vals ∧ RStep R w vals s) → ∃ L, CellsOf R w L S ∧ w.rangeAt b off L
  | [], _, _, _ => ⟨[], rfl, fun j v hj => by simp at hj⟩
  | s :: r, b, off, h => by
    obtain ⟨vals, h1, A, C, hv, h2⟩ := h 0 s rfl
    subst hv
    obtain ⟨L', h3, h4⟩ := RSteps.flat (S := r) (b := b) (off := off + 3) (fun i t ht => by
      obtain ⟨vals, k1, k2⟩ := h (i + 1) t (by rw [List.getElem?_cons_succ]; exact ht)
      exact ⟨vals, by rw [show off + 3 + i * 3 = off + (i + 1) * 3 by omega]; exact k1, k2⟩)
    refine ⟨stC s A C ++ L', ⟨A, C, L', rfl, ⟨A, C, rfl, h2⟩, h3⟩, fun j v hj => ?_⟩
    have hl := stC_len s A C
    by_cases hj3 : j < 3
    · rw [List.getElem?_append_left (by omega)] at hj
      have := h1 j v hj
      rw [Nat.zero_mul, Nat.add_zero] at this
      exact this
    · rw [List.getElem?_append_right (by omega), hl] at hj
      have := h4 (j - 3) v hj
      rw [show off + 3 + (j - 3) = off + j by omega] at this
      exact this
theorem RSteps.cells {R : Nat → Prop} {w : World} {a : Option Addr} {c : Nat} {S : List StV} (h : RSteps R w a c S) : ∃ L, CellsOf R w L S ∧ (S.length = 0 ∨ ∃ b off, a = some ⟨b, off, none⟩ ∧ w.rangeAt b off L) := by
  rcases h.2 with h0 | ⟨b, off, ha, _, hc⟩
  · have hS : S = [] := List.eq_nil_of_length_eq_zero h0
    subst hS
    exact ⟨[], rfl, .inl rfl⟩
  · obtain ⟨L, h1, h2⟩ := RSteps.flat hc
    exact ⟨L, h1, .inr ⟨b, off, ha, h2⟩⟩
/-- A row of the call's own that holds steps. -/
theorem RSteps.of_row {R : Nat → Prop} {w : World} {B : Nat} {e : TypeId} {a : Option Addr} {c : Nat} {L : List Value} {S : List StV} (ho : w.ownsRow B e 3 (.slice a S.length c) S.length L) (hc : CellsOf R w L S) (hR : ∀ x, a = some x → R x.block) : RSteps R w a c S := by
  rcases ho.2 with ⟨hv, h0⟩ | ⟨g, cap, cur, hv, hb, hg, hnc, hcm, hcs, ht⟩
  · injection hv with h1 h2 h3
    have hS : S = [] := List.eq_nil_of_length_eq_zero h0
    subst hS
    exact RSteps.empty _ _
  · injection hv with h1 h2 h3
    subst h3
    refine ⟨hnc, .inr ⟨g, 0, h1, hR _ h1, fun i s hs => ?_⟩⟩
    obtain ⟨A, C, h4, h5⟩ := hc.get i s hs
    refine ⟨stC s A C, fun j v hj => ?_, h5⟩
    have hl := stC_len s A C
    have hi := (List.getElem?_eq_some_iff.1 hs).1
    have hjl := (List.getElem?_eq_some_iff.1 hj).1
    subst h1
    have hcell := ho.cellAt (i * 3 + j) (by omega)
    rw [Nat.zero_add, hcell]
    exact h4 j v hj

section
variable {P : Program} {w : World} {o : Oper} {a : Act} {K : Act → World → Prop} {Q : Exit → Act → World → Prop}
/-- append, as a single operation: elements of any number of cells. -/
theorem wp_append_row (s x : Operand) (t : TypeId) (ho : o.op = .call { callee := .builtin .append, args := #[s, x], argTypes := #[t, t] })
    (base : Nat) (e : TypeId) (i : TypeInfo) (z : Value) (size bytes : Nat) (ht : P.underlying t = some (.slice e)) (hi : P.info? e = some i) (hz : i.zero = some z)
    (hsize : i.size = size) (hby : i.bytes = bytes) (hzs : z.cells.size = size) (hsz : 0 < size)
    {v : Value} {n : Nat} {xs : List Value} (hs : a.eval s = v) (hown : w.ownsRow base e size v n xs)
    {A : Option Addr} {m c : Nat} {news : List Value} (hx : a.eval x = .slice A m c) (hl : news.length = m * size) (hnews : m = 0 ∨ ∃ ad, A = some ad ∧ ∀ j u, news[j]? = some u → w.cell? (ad.add j) = some u) (h1 : ∀ u ∈ news, u.oneCell' = true)
    (h63 : n + m ≤ maxLen) (hbytes : (n + m) * bytes ≤ 140737488355328) (hbase : base ≤ w.heap.size)
    (h : ∀ v' w', w'.ownsRow base e size v' (n + m) (xs ++ news) → w.grownBy w' v.ownBlock → K (a.put o.dst v') w') : o.wp P a w K Q := by
  cases A with
  | none =>
    have hm : m = 0 := by
      rcases hnews with h0 | ⟨ad, h0, _⟩
      · exact h0
      · cases h0
    subst hm
    have hne : news = [] := List.eq_nil_of_length_eq_zero (by simpa using hl)
    subst hne
    have hrun := run_append_nothing (P := P) (w := w) base t o.type e i size ht hi v n xs hown c
    unfold Oper.wp
    simp [execOp, ho, resolve, invoke, builtin, hs, hx, hrun, Result.andThen]
    exact h v w (by simpa using hown) (grown_refl _ _)
  | some ad =>
    have hn2 : ∀ j u, news[j]? = some u → w.cell? (ad.add j) = some u := by
      rcases hnews with h0 | ⟨ad', h0, hc⟩
      · subst h0
        have hne : news = [] := List.eq_nil_of_length_eq_zero (by simpa using hl)
        subst hne
        intro j u hu
        simp at hu
      · injection h0 with h0
        subst h0
        exact hc
    obtain ⟨v', w', hr, h2, h3, _, _⟩ := run_append_own_at (P := P) w base t o.type e i z size bytes ht hi hz hsize hby hzs hsz v n xs hown ad m c news hl hn2 h1 h63 hbytes hbase
    unfold Oper.wp execOp
    simp only [ho, resolve, invoke, builtin, Sem.run_bind, Sem.run_pure, Result.andThen_ok, List.map_toArray, List.map_cons, List.map_nil, hs, hx, hr]
    exact h v' w' h2 h3
end
theorem info_rst : ∃ i, Tryz.prog.info? 75 = some i ∧ i.zero = some (.agg #[.bool false, .int .i64 0, .slice none 0 0]) ∧ i.size = 3 ∧ i.bytes = 40 := by
  have h : (Tryz.prog.info? 75).map (fun i => (i.zero, i.size, i.bytes)) = some (some (.agg #[.bool false, .int .i64 0, .slice none 0 0]), 3, 40) := by kernel_rfl
  cases hq : Tryz.prog.info? 75 with
  | none => simp [hq] at h
  | some i => rw [hq] at h; simp at h; exact ⟨i, rfl, h.1, h.2.1, h.2.2⟩
/-- A file of a disk, by its number. -/
theorem RDisk.fl {R : Nat → Prop} {w : World} {cs : List Value} {D : DkV} (h : RDisk R w cs D) (i : Nat) (hi : i < 3) :
    ∃ ka kc sa sc, (∀ j v, (rfC ka (D.f i).K.length kc sa (D.f i).S.length sc)[j]? = some v → cs[i * 2 + j]? = some v) ∧ Ints .u8 w ka (D.f i).K.length kc (D.f i).K ∧ InR R ka (D.f i).K.length ∧ RSteps R w sa sc (D.f i).S := by
  obtain ⟨c0, c1, c2, hc, h0, h1, h2⟩ := h
  have hl : ∀ {j : Nat} {v : Value} {ka sa : Option Addr} {kn kc sn sc : Nat}, (rfC ka kn kc sa sn sc)[j]? = some v → j < 2 := fun h => (List.getElem?_eq_some_iff.1 h).1
  match i, hi with
  | 0, _ =>
    have m0 := h0.len
    obtain ⟨ka, kc, sa, sc, e, k1, k2, k3⟩ := h0
    refine ⟨ka, kc, sa, sc, fun j v hj => ?_, k1, k2, k3⟩
    have := hl hj
    rw [hc]
    unfold ddC
    rw [Nat.zero_mul, Nat.zero_add, List.getElem?_append_left (by omega), e]
    exact hj
  | 1, _ =>
    have m0 := h0.len
    have m1 := h1.len
    obtain ⟨ka, kc, sa, sc, e, k1, k2, k3⟩ := h1
    refine ⟨ka, kc, sa, sc, fun j v hj => ?_, k1, k2, k3⟩
    have := hl hj
    rw [hc]
    unfold ddC
    rw [List.getElem?_append_right (by omega), m0, show 1 * 2 + j - 2 = j by omega, List.getElem?_append_left (by omega), e]
    exact hj
  | 2, _ =>
    have m0 := h0.len
    have m1 := h1.len
    have m2 := h2.len
    obtain ⟨ka, kc, sa, sc, e, k1, k2, k3⟩ := h2
    refine ⟨ka, kc, sa, sc, fun j v hj => ?_, k1, k2, k3⟩
    have := hl hj
    rw [hc]
    unfold ddC
    rw [List.getElem?_append_right (by omega), m0, List.getElem?_append_right (by omega), m1, show 2 * 2 + j - 2 - 2 = j by omega, List.getElem?_append_left (by omega), e]
    exact hj
/-- A disk of which one file's cells are others. -/
theorem RDisk.put {R : Nat → Prop} {w : World} {cs cs' : List Value} {D : DkV} (h : RDisk R w cs D) (i : Nat) (hi : i < 3) {v : FlV} {c : List Value} (hf : RFile R w c v) (hc : cs' = overV cs (i * 2) c) : RDisk R w cs' (D.set i v) := by
  obtain ⟨c0, c1, c2, hcs, h0, h1, h2⟩ := h
  have m0 := h0.len
  have m1 := h1.len
  have m2 := h2.len
  have mc := hf.len
  match i, hi with
  | 0, _ =>
    refine ⟨c, c1, c2, ?_, hf, h1, h2⟩
    rw [hc, hcs]
    match c0, m0, c1, m1, c2, m2, c, mc with
    | [_, _], _, [_, _], _, [_, _], _, [_, _], _ => rfl
  | 1, _ =>
    refine ⟨c0, c, c2, ?_, h0, hf, h2⟩
    rw [hc, hcs]
    match c0, m0, c1, m1, c2, m2, c, mc with
    | [_, _], _, [_, _], _, [_, _], _, [_, _], _ => rfl
  | 2, _ =>
    refine ⟨c0, c1, c, ?_, h0, h1, hf⟩
    rw [hc, hcs]
    match c0, m0, c1, m1, c2, m2, c, mc with
    | [_, _], _, [_, _], _, [_, _], _, [_, _], _ => rfl
theorem set_over2 (cs : List Value) (o : Nat) (k a : Value) (hl : o + 2 ≤ cs.length) (hk : cs[o]? = some k) : cs.set (o + 1) a = overV cs o [k, a] := by
  apply List.ext_getElem?
  intro i
  have hov : overV cs o [k, a] = cs.take o ++ ([k, a] ++ cs.drop (o + 2)) := rfl
  have htl : (cs.take o).length = o := by rw [List.length_take]; omega
  rw [hov]
  by_cases h1 : i < o
  · rw [List.getElem?_set_ne (by omega), List.getElem?_append_left (by omega), List.getElem?_take_of_lt h1]
  · rw [List.getElem?_append_right (by omega), htl]
    by_cases h2 : i = o
    · subst h2
      rw [List.getElem?_set_ne (by omega), hk, Nat.sub_self]; rfl
    · by_cases h3 : i = o + 1
      · subst h3
        rw [List.getElem?_set_self (by omega), show o + 1 - o = 1 by omega]; rfl
      · rw [List.getElem?_set_ne (by omega), List.getElem?_append_right (by simp; omega), List.getElem?_drop]
        congr 1
        simp
        omega
end Go.Proofs.YtcohbhimhacedaaGreatDoor

/-
  The document's own Do (layer 18), where the step is refused, or the disk is down. New memory alone is written. Conditions: files of at most 2^47 bytes and some.
-/
namespace Go.Proofs.YtcohbhimhacedaaGreatDoor
open Go.RowKit

/-- A file's two cells. -/
def fileC (cs : List Value) (i : Nat) : List Value := (cs.drop (i * 2)).take 2
theorem RDisk.co {R : Nat → Prop} {w : World} {cs : List Value} {D : DkV} (h : RDisk R w cs D) (i : Nat) (hi : i < 3) : (∀ j v, (fileC cs i)[j]? = some v → cs[i * 2 + j]? = some v) ∧ RFile R w (fileC cs i) (D.f i) := by
  obtain ⟨ka, kc, sa, sc, h1, h2, h3, h4⟩ := h.fl i hi
  have hl := h.ddc.l
  have he : fileC cs i = rfC ka (D.f i).K.length kc sa (D.f i).S.length sc := by
    have e0 := h1 0 _ rfl
    have e1 := h1 1 _ rfl
    apply List.ext_getElem?
    intro j
    unfold fileC
    match j with
    | 0 => rw [List.getElem?_take_of_lt (by omega), List.getElem?_drop]; exact e0
    | 1 => rw [List.getElem?_take_of_lt (by omega), List.getElem?_drop]; exact e1
    | j + 2 => rw [List.getElem?_eq_none (by rw [List.length_take]; omega), List.getElem?_eq_none (by show 2 ≤ j + 2; omega)]
  rw [he]
  exact ⟨h1, ka, kc, sa, sc, rfl, h2, h3, h4⟩

set_option maxRecDepth 100000 in
set_option maxHeartbeats 2000000 in
theorem fDo_no {w : World} {cs sc : List Value} {r f : Int} {d : Bool} (h : DdC cs r f d) (file : Int) (hf : noFile file) :
    Calls Tryz.prog 22 #[.agg cs.toArray, .int .i64 file, .agg sc.toArray] w fun q w' => q = .returned (.tuple #[.agg cs.toArray, .int .i64 1]) ∧ Below w.heap.size w w' := by
  have hl := h.l
  have ho := h.o
  have h6 := h.r
  have h8 := h.d
  have hrow : IsRow Tryz.prog 37 cs.length := by rw [hl]; exact rowDd
  clear h
  obtain ⟨zs, hzs⟩ : ∃ zs, ddZ = zs := ⟨_, rfl⟩
  have hz := zeroDd
  have hzl := ddZ_len
  rw [hzs] at hz hzl
  have hb1 := (Blk.new w 37 cs).alloc (.cells sc.toArray 75)
  have hb1 := hb1.alloc (.cells zs.toArray 37)
  have hb2 : Blk ((w.alloc (.cells cs.toArray 37)).alloc (.cells sc.toArray 75)) (w.heap.size + 1) 75 sc := Blk.new1 w _ _ sc
  have hb2 := hb2.alloc (.cells zs.toArray 37)
  have hb3 := Blk.new ((w.alloc (.cells cs.toArray 37)).alloc (.cells sc.toArray 75)) 37 zs
  rw [size2] at hb3
  have hB3 := below3 w (.cells cs.toArray 37) (.cells sc.toArray 75) (.cells zs.toArray 37)
  obtain ⟨W, hW⟩ : ∃ W, ((w.alloc (.cells cs.toArray 37)).alloc (.cells sc.toArray 75)).alloc (.cells zs.toArray 37) = W := ⟨_, rfl⟩
  rw [hW] at hb1 hb2 hb3 hB3
  obtain ⟨G, hG⟩ : ∃ G, w.heap.size = G := ⟨_, rfl⟩
  rw [hG] at hb1 hb2 hb3
  have hWH := Lib.hid hW
  have hGH := Lib.hid hG
  obtain ⟨V, hV⟩ : ∃ V, W.drew = V := ⟨_, rfl⟩
  have kb1 : Blk V G 37 cs := by rw [← hV]; exact hb1
  have kb2 : Blk V (G + 1) 75 sc := by rw [← hV]; exact hb2
  have kb3 : Blk V (G + 2) 37 zs := by rw [← hV]; exact hb3
  have kB : Below w.heap.size w V := by rw [← hV]; exact hB3.drew
  have hBH := Lib.hid kB
  have hVH := Lib.hid hV
  have bV : Below V.heap.size V V := Below.refl _ _
  clear hW hG hB3 hzs hV hb1 hb2 hb3
  by_cases h0 : file < 0
  · have d1 : decide (file < 0) = true := decide_eq_true h0
    clear hf
    go_enter Tryz.func22, Tryz.ntmps22
    go_wp2_with ((with_reducible refine box_row rfl 37 (.tmp 0) rfl cs rfl ?_); refine RowKit.Hid.out ?_)
    refine Lib.hid ?_
    refine box_row rfl 75 (.tmp 2) rfl sc rfl ?_
    refine wpList_alloc_blk rfl 37 rfl hz ?_
    rw [hWH.out, size2, size1, hGH.out]
    go_wp2_with fail
    refine region_seqS (fun w' => Below V.heap.size V w') (by kernel_rfl) (by rw [hVH.out]; exact bV) ?_
    simp only [pairs, Nat.reduceAdd]
    rw [hVH.out]
    repeat ((first
      | (refine SeqS.k0 (v := ?_) ?_ ?_; rotate_left; focus (intro w' hb'; go_simp; with_reducible rfl))
      | (refine SeqS.u0 ?_)
      | (refine SeqS.k1 (v := ?_) ?_ ?_; rotate_left; focus (intro w' hb'; go_simp; with_reducible rfl))
      | (refine SeqS.u1 ?_)
      | (refine SeqS.k2 (v := ?_) ?_ ?_; rotate_left; focus (intro w' hb'; go_simp; with_reducible rfl))
      | (refine SeqS.u2 ?_)); simp only [Act.put, List.setIfInBounds_toArray, List.set_cons_zero, List.set_cons_succ])
    refine SeqS.done (by decide +kernel) ?_
    obtain ⟨X, hX⟩ : ∃ X, V = X := ⟨_, rfl⟩
    have xb1 := kb1
    have xb2 := kb2
    have xb3 := kb3
    rw [hX] at xb1 xb2 xb3 ⊢
    have xB : RowKit.Hid (Below w.heap.size w X) := Lib.hid (by have := hBH.out; rw [hX] at this; exact this)
    clear kb1 kb2 kb3 hX bV
    go_wp2_with ((with_reducible refine wpList_load_blk rfl 37 (.tmp 3) rfl ?_ xb1 rowDd hl ?_); rfl; refine RowKit.Hid.out ?_)
    refine Lib.hid ?_
    refine store_row rfl 37 (.tmp 6) _ rfl rfl rfl xb3 rowDd hl hzl ho ?_
    intro w5 hb5 hg5
    have hB5 := xB.out.grown hg5 xB.out.size (fun q hq => by injection hq with hq; rw [← hq, ← hGH.out]; omega)
    clear xb1 xb2 xb3 hg5
    go_wp2
    refine bodyPost_ret (results_bt18 rfl rfl hb5 hrow) rfl ?_
    exact ⟨rfl, hB5⟩
  · have h2 : 2 < file := by rcases hf with h | h <;> omega
    have d1 : decide (file < 0) = false := decide_eq_false h0
    have d2 : decide (2 < file) = true := decide_eq_true h2
    clear hf
    go_enter Tryz.func22, Tryz.ntmps22
    go_wp2_with ((with_reducible refine box_row rfl 37 (.tmp 0) rfl cs rfl ?_); refine RowKit.Hid.out ?_)
    refine Lib.hid ?_
    refine box_row rfl 75 (.tmp 2) rfl sc rfl ?_
    refine wpList_alloc_blk rfl 37 rfl hz ?_
    rw [hWH.out, size2, size1, hGH.out]
    go_wp2_with fail
    refine region_seqS (fun w' => Below V.heap.size V w') (by kernel_rfl) (by rw [hVH.out]; exact bV) ?_
    simp only [pairs, Nat.reduceAdd]
    rw [hVH.out]
    repeat ((first
      | (refine SeqS.k0 (v := ?_) ?_ ?_; rotate_left; focus (intro w' hb'; go_simp; with_reducible rfl))
      | (refine SeqS.u0 ?_)
      | (refine SeqS.k1 (v := ?_) ?_ ?_; rotate_left; focus (intro w' hb'; go_simp; with_reducible rfl))
      | (refine SeqS.u1 ?_)
      | (refine SeqS.k2 (v := ?_) ?_ ?_; rotate_left; focus (intro w' hb'; go_simp; with_reducible rfl))
      | (refine SeqS.u2 ?_)); simp only [Act.put, List.setIfInBounds_toArray, List.set_cons_zero, List.set_cons_succ])
    refine SeqS.done (by decide +kernel) ?_
    obtain ⟨X, hX⟩ : ∃ X, V = X := ⟨_, rfl⟩
    have xb1 := kb1
    have xb2 := kb2
    have xb3 := kb3
    rw [hX] at xb1 xb2 xb3 ⊢
    have xB : RowKit.Hid (Below w.heap.size w X) := Lib.hid (by have := hBH.out; rw [hX] at this; exact this)
    clear kb1 kb2 kb3 hX bV
    go_wp2_with ((with_reducible refine wpList_load_blk rfl 37 (.tmp 3) rfl ?_ xb1 rowDd hl ?_); rfl; refine RowKit.Hid.out ?_)
    refine Lib.hid ?_
    refine store_row rfl 37 (.tmp 6) _ rfl rfl rfl xb3 rowDd hl hzl ho ?_
    intro w5 hb5 hg5
    have hB5 := xB.out.grown hg5 xB.out.size (fun q hq => by injection hq with hq; rw [← hq, ← hGH.out]; omega)
    clear xb1 xb2 xb3 hg5
    go_wp2
    refine bodyPost_ret (results_bt18 rfl rfl hb5 hrow) rfl ?_
    exact ⟨rfl, hB5⟩

set_option maxRecDepth 100000 in
set_option maxHeartbeats 2000000 in
theorem fDoPut_down {w : World} {cs sc : List Value} {r f : Int} {A : Option Addr} {n c i : Nat} (h : DdC cs r f true) (hi : i < 3) (hsc : [.bool false, .int .i64 0, .slice A n c] = sc) :
    Calls Tryz.prog 22 #[.agg cs.toArray, .int .i64 (i : Int), .agg sc.toArray] w fun q w' => q = .returned (.tuple #[.agg cs.toArray, .int .i64 18]) ∧ Below w.heap.size w w' := by
  have hl := h.l
  have ho := h.o
  have h6 := h.r
  have h8 := h.d
  have hrow : IsRow Tryz.prog 37 cs.length := by rw [hl]; exact rowDd
  clear h
  obtain ⟨zs, hzs⟩ : ∃ zs, ddZ = zs := ⟨_, rfl⟩
  have hz := zeroDd
  have hzl := ddZ_len
  rw [hzs] at hz hzl
  have hscl : sc.length = 3 := by rw [← hsc]; rfl
  have hscH := Lib.hid hsc
  clear hsc
  have hb1 := (Blk.new w 37 cs).alloc (.cells sc.toArray 75)
  have hb1 := hb1.alloc (.cells zs.toArray 37)
  have hb2 : Blk ((w.alloc (.cells cs.toArray 37)).alloc (.cells sc.toArray 75)) (w.heap.size + 1) 75 sc := Blk.new1 w _ _ sc
  have hb2 := hb2.alloc (.cells zs.toArray 37)
  have hb3 := Blk.new ((w.alloc (.cells cs.toArray 37)).alloc (.cells sc.toArray 75)) 37 zs
  rw [size2] at hb3
  have hB3 := below3 w (.cells cs.toArray 37) (.cells sc.toArray 75) (.cells zs.toArray 37)
  obtain ⟨W, hW⟩ : ∃ W, ((w.alloc (.cells cs.toArray 37)).alloc (.cells sc.toArray 75)).alloc (.cells zs.toArray 37) = W := ⟨_, rfl⟩
  rw [hW] at hb1 hb2 hb3 hB3
  obtain ⟨G, hG⟩ : ∃ G, w.heap.size = G := ⟨_, rfl⟩
  rw [hG] at hb1 hb2 hb3
  have hWH := Lib.hid hW
  have hGH := Lib.hid hG
  obtain ⟨V, hV⟩ : ∃ V, W.drew = V := ⟨_, rfl⟩
  have kb1 : Blk V G 37 cs := by rw [← hV]; exact hb1
  have kb2 : Blk V (G + 1) 75 sc := by rw [← hV]; exact hb2
  have kb3 : Blk V (G + 2) 37 zs := by rw [← hV]; exact hb3
  have kB : Below w.heap.size w V := by rw [← hV]; exact hB3.drew
  have hBH := Lib.hid kB
  have hVH := Lib.hid hV
  have bV : Below V.heap.size V V := Below.refl _ _
  clear hW hG hB3 hzs hV hb1 hb2 hb3
  have hs0 := Lib.hid (fun (w' : World) (q : Below V.heap.size V w') => (show w'.cell? ⟨G + 1, 0, none⟩ = some (.bool false) by rw [q.cell (p := ⟨G + 1, 0, none⟩) kb2.lt, kb2.cell 0, ← hscH.out]; rfl))
  have d1 : decide ((i : Int) < 0) = false := decide_eq_false (by omega)
  have d2 : decide ((2 : Int) < (i : Int)) = false := decide_eq_false (by omega)
  have hi3 : (i : Int) < 3 := by omega
  go_enter Tryz.func22, Tryz.ntmps22
  go_wp2_with ((with_reducible refine box_row rfl 37 (.tmp 0) rfl cs rfl ?_); refine RowKit.Hid.out ?_)
  refine Lib.hid ?_
  refine box_row rfl 75 (.tmp 2) rfl sc rfl ?_
  refine wpList_alloc_blk rfl 37 rfl hz ?_
  rw [hWH.out, size2, size1, hGH.out]
  go_wp2_with fail
  refine region_seqS (fun w' => Below V.heap.size V w') (by kernel_rfl) (by rw [hVH.out]; exact bV) ?_
  simp only [pairs, Nat.reduceAdd]
  rw [hVH.out]
  repeat ((first
    | (refine SeqS.k0 (v := ?_) ?_ ?_; rotate_left; focus (intro w' hb'; go_simp; with_reducible rfl))
    | (refine SeqS.k0 (v := ?_) ?_ ?_; rotate_left; focus (intro w' hb'; have d0 := hs0.out w' hb'; go_simp; with_reducible rfl))
    | (refine SeqS.u0 ?_)
    | (refine SeqS.k1 (v := ?_) ?_ ?_; rotate_left; focus (intro w' hb'; go_simp; with_reducible rfl))
    | (refine SeqS.k1 (v := ?_) ?_ ?_; rotate_left; focus (intro w' hb'; have d0 := hs0.out w' hb'; go_simp; with_reducible rfl))
    | (refine SeqS.u1 ?_)
    | (refine SeqS.k2 (v := ?_) ?_ ?_; rotate_left; focus (intro w' hb'; go_simp; with_reducible rfl))
    | (refine SeqS.k2 (v := ?_) ?_ ?_; rotate_left; focus (intro w' hb'; have d0 := hs0.out w' hb'; go_simp; with_reducible rfl))
    | (refine SeqS.u2 ?_)); simp only [Act.put, List.setIfInBounds_toArray, List.set_cons_zero, List.set_cons_succ])
  refine SeqS.done (by decide +kernel) ?_
  clear hs0 d1 d2
  obtain ⟨X, hX⟩ : ∃ X, V = X := ⟨_, rfl⟩
  have xb1 := kb1
  have xb2 := kb2
  have xb3 := kb3
  rw [hX] at xb1 xb2 xb3 ⊢
  have xB : RowKit.Hid (Below w.heap.size w X) := Lib.hid (by have := hBH.out; rw [hX] at this; exact this)
  clear kb1 kb2 kb3 hX bV
  have e8 := xb1.cell 8
  rw [h8] at e8
  go_wp2_with ((with_reducible refine wpList_load_blk rfl 37 (.tmp 3) rfl ?_ xb1 rowDd hl ?_); rfl; refine RowKit.Hid.out ?_)
  refine Lib.hid ?_
  refine store_row rfl 37 (.tmp 6) _ rfl rfl rfl xb3 rowDd hl hzl ho ?_
  intro w5 hb5 hg5
  have hB5 := xB.out.grown hg5 xB.out.size (fun q hq => by injection hq with hq; rw [← hq, ← hGH.out]; omega)
  clear xb1 xb2 xb3 hg5
  go_wp2
  refine bodyPost_ret (results_bt18 rfl rfl hb5 hrow) rfl ?_
  exact ⟨rfl, hB5⟩

set_option maxRecDepth 100000 in
set_option maxHeartbeats 2000000 in
theorem fDoCut_neg {w : World} {cs sc : List Value} {r f n : Int} {d : Bool} {i : Nat} (h : DdC cs r f d) (hi : i < 3) (hsc : [.bool true, .int .i64 n, .slice none 0 0] = sc) (hn : n < 0) :
    Calls Tryz.prog 22 #[.agg cs.toArray, .int .i64 (i : Int), .agg sc.toArray] w fun q w' => q = .returned (.tuple #[.agg cs.toArray, .int .i64 1]) ∧ Below w.heap.size w w' := by
  have hl := h.l
  have ho := h.o
  have h6 := h.r
  have h8 := h.d
  have hrow : IsRow Tryz.prog 37 cs.length := by rw [hl]; exact rowDd
  clear h
  obtain ⟨zs, hzs⟩ : ∃ zs, ddZ = zs := ⟨_, rfl⟩
  have hz := zeroDd
  have hzl := ddZ_len
  rw [hzs] at hz hzl
  have hscl : sc.length = 3 := by rw [← hsc]; rfl
  have hscH := Lib.hid hsc
  clear hsc
  have hb1 := (Blk.new w 37 cs).alloc (.cells sc.toArray 75)
  have hb1 := hb1.alloc (.cells zs.toArray 37)
  have hb2 : Blk ((w.alloc (.cells cs.toArray 37)).alloc (.cells sc.toArray 75)) (w.heap.size + 1) 75 sc := Blk.new1 w _ _ sc
  have hb2 := hb2.alloc (.cells zs.toArray 37)
  have hb3 := Blk.new ((w.alloc (.cells cs.toArray 37)).alloc (.cells sc.toArray 75)) 37 zs
  rw [size2] at hb3
  have hB3 := below3 w (.cells cs.toArray 37) (.cells sc.toArray 75) (.cells zs.toArray 37)
  obtain ⟨W, hW⟩ : ∃ W, ((w.alloc (.cells cs.toArray 37)).alloc (.cells sc.toArray 75)).alloc (.cells zs.toArray 37) = W := ⟨_, rfl⟩
  rw [hW] at hb1 hb2 hb3 hB3
  obtain ⟨G, hG⟩ : ∃ G, w.heap.size = G := ⟨_, rfl⟩
  rw [hG] at hb1 hb2 hb3
  have hWH := Lib.hid hW
  have hGH := Lib.hid hG
  obtain ⟨V, hV⟩ : ∃ V, W.drew = V := ⟨_, rfl⟩
  have kb1 : Blk V G 37 cs := by rw [← hV]; exact hb1
  have kb2 : Blk V (G + 1) 75 sc := by rw [← hV]; exact hb2
  have kb3 : Blk V (G + 2) 37 zs := by rw [← hV]; exact hb3
  have kB : Below w.heap.size w V := by rw [← hV]; exact hB3.drew
  have hBH := Lib.hid kB
  have hVH := Lib.hid hV
  have bV : Below V.heap.size V V := Below.refl _ _
  clear hW hG hB3 hzs hV hb1 hb2 hb3
  have hs0 := Lib.hid (fun (w' : World) (q : Below V.heap.size V w') => (show w'.cell? ⟨G + 1, 0, none⟩ = some (.bool true) by rw [q.cell (p := ⟨G + 1, 0, none⟩) kb2.lt, kb2.cell 0, ← hscH.out]; rfl))
  have hs1 := Lib.hid (fun (w' : World) (q : Below V.heap.size V w') => (show w'.cell? ⟨G + 1, 1, none⟩ = some (.int .i64 n) by rw [q.cell (p := ⟨G + 1, 1, none⟩) kb2.lt, kb2.cell 1, ← hscH.out]; rfl))
  have d1 : decide ((i : Int) < 0) = false := decide_eq_false (by omega)
  have d2 : decide ((2 : Int) < (i : Int)) = false := decide_eq_false (by omega)
  have hi3 : (i : Int) < 3 := by omega
  have d3 : decide (n < 0) = true := decide_eq_true hn
  go_enter Tryz.func22, Tryz.ntmps22
  go_wp2_with ((with_reducible refine box_row rfl 37 (.tmp 0) rfl cs rfl ?_); refine RowKit.Hid.out ?_)
  refine Lib.hid ?_
  refine box_row rfl 75 (.tmp 2) rfl sc rfl ?_
  refine wpList_alloc_blk rfl 37 rfl hz ?_
  rw [hWH.out, size2, size1, hGH.out]
  go_wp2_with fail
  refine region_seqS (fun w' => Below V.heap.size V w') (by kernel_rfl) (by rw [hVH.out]; exact bV) ?_
  simp only [pairs, Nat.reduceAdd]
  rw [hVH.out]
  repeat ((first
    | (refine SeqS.k0 (v := ?_) ?_ ?_; rotate_left; focus (intro w' hb'; go_simp; with_reducible rfl))
    | (refine SeqS.k0 (v := ?_) ?_ ?_; rotate_left; focus (intro w' hb'; have d0 := hs0.out w' hb'; go_simp; with_reducible rfl))
    | (refine SeqS.k0 (v := ?_) ?_ ?_; rotate_left; focus (intro w' hb'; have d0 := hs1.out w' hb'; go_simp; with_reducible rfl))
    | (refine SeqS.u0 ?_)
    | (refine SeqS.k1 (v := ?_) ?_ ?_; rotate_left; focus (intro w' hb'; go_simp; with_reducible rfl))
    | (refine SeqS.k1 (v := ?_) ?_ ?_; rotate_left; focus (intro w' hb'; have d0 := hs0.out w' hb'; go_simp; with_reducible rfl))
    | (refine SeqS.k1 (v := ?_) ?_ ?_; rotate_left; focus (intro w' hb'; have d0 := hs1.out w' hb'; go_simp; with_reducible rfl))
    | (refine SeqS.u1 ?_)
    | (refine SeqS.k2 (v := ?_) ?_ ?_; rotate_left; focus (intro w' hb'; go_simp; with_reducible rfl))
    | (refine SeqS.k2 (v := ?_) ?_ ?_; rotate_left; focus (intro w' hb'; have d0 := hs0.out w' hb'; go_simp; with_reducible rfl))
    | (refine SeqS.k2 (v := ?_) ?_ ?_; rotate_left; focus (intro w' hb'; have d0 := hs1.out w' hb'; go_simp; with_reducible rfl))
    | (refine SeqS.u2 ?_)); simp only [Act.put, List.setIfInBounds_toArray, List.set_cons_zero, List.set_cons_succ])
  refine SeqS.done (by decide +kernel) ?_
  clear hs0 hs1 d1 d2 d3
  obtain ⟨X, hX⟩ : ∃ X, V = X := ⟨_, rfl⟩
  have xb1 := kb1
  have xb2 := kb2
  have xb3 := kb3
  rw [hX] at xb1 xb2 xb3 ⊢
  have xB : RowKit.Hid (Below w.heap.size w X) := Lib.hid (by have := hBH.out; rw [hX] at this; exact this)
  clear kb1 kb2 kb3 hX bV
  go_wp2_with ((with_reducible refine wpList_load_blk rfl 37 (.tmp 3) rfl ?_ xb1 rowDd hl ?_); rfl; refine RowKit.Hid.out ?_)
  refine Lib.hid ?_
  refine store_row rfl 37 (.tmp 6) _ rfl rfl rfl xb3 rowDd hl hzl ho ?_
  intro w5 hb5 hg5
  have hB5 := xB.out.grown hg5 xB.out.size (fun q hq => by injection hq with hq; rw [← hq, ← hGH.out]; omega)
  clear xb1 xb2 xb3 hg5
  go_wp2
  refine bodyPost_ret (results_bt18 rfl rfl hb5 hrow) rfl ?_
  exact ⟨rfl, hB5⟩

set_option maxRecDepth 100000 in
set_option maxHeartbeats 2000000 in
theorem fDoCut_long {R : Nat → Prop} {w : World} {cs sc : List Value} {D : DkV} {n : Int} {i : Nat} (h2 : RDisk R w cs D) (hi : i < 3) (hfo : FOk (D.f i)) (hsc : [.bool true, .int .i64 n, .slice none 0 0] = sc) (hn : ¬ n < 0) (hlong : ((D.f i).held.length : Int) < n) :
    Calls Tryz.prog 22 #[.agg cs.toArray, .int .i64 (i : Int), .agg sc.toArray] w fun q w' => q = .returned (.tuple #[.agg cs.toArray, .int .i64 1]) ∧ Below w.heap.size w w' := by
  have h := h2.ddc
  have hl := h.l
  have ho := h.o
  have h6 := h.r
  have h8 := h.d
  have hrow : IsRow Tryz.prog 37 cs.length := by rw [hl]; exact rowDd
  clear h
  obtain ⟨zs, hzs⟩ : ∃ zs, ddZ = zs := ⟨_, rfl⟩
  have hz := zeroDd
  have hzl := ddZ_len
  rw [hzs] at hz hzl
  have hscl : sc.length = 3 := by rw [← hsc]; rfl
  have hscH := Lib.hid hsc
  clear hsc
  have hb1 := (Blk.new w 37 cs).alloc (.cells sc.toArray 75)
  have hb1 := hb1.alloc (.cells zs.toArray 37)
  have hb2 : Blk ((w.alloc (.cells cs.toArray 37)).alloc (.cells sc.toArray 75)) (w.heap.size + 1) 75 sc := Blk.new1 w _ _ sc
  have hb2 := hb2.alloc (.cells zs.toArray 37)
  have hb3 := Blk.new ((w.alloc (.cells cs.toArray 37)).alloc (.cells sc.toArray 75)) 37 zs
  rw [size2] at hb3
  have hB3 := below3 w (.cells cs.toArray 37) (.cells sc.toArray 75) (.cells zs.toArray 37)
  obtain ⟨W, hW⟩ : ∃ W, ((w.alloc (.cells cs.toArray 37)).alloc (.cells sc.toArray 75)).alloc (.cells zs.toArray 37) = W := ⟨_, rfl⟩
  rw [hW] at hb1 hb2 hb3 hB3
  obtain ⟨G, hG⟩ : ∃ G, w.heap.size = G := ⟨_, rfl⟩
  rw [hG] at hb1 hb2 hb3
  have hWH := Lib.hid hW
  have hGH := Lib.hid hG
  obtain ⟨V, hV⟩ : ∃ V, W.drew = V := ⟨_, rfl⟩
  have kb1 : Blk V G 37 cs := by rw [← hV]; exact hb1
  have kb2 : Blk V (G + 1) 75 sc := by rw [← hV]; exact hb2
  have kb3 : Blk V (G + 2) 37 zs := by rw [← hV]; exact hb3
  have kB : Below w.heap.size w V := by rw [← hV]; exact hB3.drew
  have hBH := Lib.hid kB
  have hVH := Lib.hid hV
  have bV : Below V.heap.size V V := Below.refl _ _
  clear hW hG hB3 hzs hV hb1 hb2 hb3
  have hs0 := Lib.hid (fun (w' : World) (q : Below V.heap.size V w') => (show w'.cell? ⟨G + 1, 0, none⟩ = some (.bool true) by rw [q.cell (p := ⟨G + 1, 0, none⟩) kb2.lt, kb2.cell 0, ← hscH.out]; rfl))
  have hs1 := Lib.hid (fun (w' : World) (q : Below V.heap.size V w') => (show w'.cell? ⟨G + 1, 1, none⟩ = some (.int .i64 n) by rw [q.cell (p := ⟨G + 1, 1, none⟩) kb2.lt, kb2.cell 1, ← hscH.out]; rfl))
  have d1 : decide ((i : Int) < 0) = false := decide_eq_false (by omega)
  have d2 : decide ((2 : Int) < (i : Int)) = false := decide_eq_false (by omega)
  have hi3 : (i : Int) < 3 := by omega
  have hco := h2.co i hi
  have hRV := fun (w' : World) (q : Below V.heap.size V w') => hco.2.keep (hBH.out.trans (q.mono hBH.out.size))
  have hcl := hco.2.len
  have hcr := hco.1
  obtain ⟨c2, hc2⟩ : ∃ c2, fileC cs i = c2 := ⟨_, rfl⟩
  rw [hc2] at hRV hcl hcr
  have hHo := Lib.hid (fun (w' : World) (q : Below V.heap.size V w') => fHolds_any (hRV w' q) hfo)
  have hra := Lib.hid (fun (w' : World) (q : Below V.heap.size V w') => (show w'.rangeAt G (i * 2) c2 from (kb1.keep q kb1.lt).range _ _ hcr))
  have hrow2 : IsRow Tryz.prog 34 c2.length := by rw [hcl]; exact rowRf
  have d3 : decide (n < 0) = false := decide_eq_false hn
  clear hRV hcr hcl hc2 hco
  have d4 : decide (((D.f i).held.length : Int) < n) = true := decide_eq_true hlong
  go_enter Tryz.func22, Tryz.ntmps22
  go_wp2_with ((with_reducible refine box_row rfl 37 (.tmp 0) rfl cs rfl ?_); refine RowKit.Hid.out ?_)
  refine Lib.hid ?_
  refine box_row rfl 75 (.tmp 2) rfl sc rfl ?_
  refine wpList_alloc_blk rfl 37 rfl hz ?_
  rw [hWH.out, size2, size1, hGH.out]
  go_wp2_with fail
  refine region_seqS (fun w' => Below V.heap.size V w') (by kernel_rfl) (by rw [hVH.out]; exact bV) ?_
  simp only [pairs, Nat.reduceAdd]
  rw [hVH.out]
  repeat ((first
    | (refine SeqS.y0 (v := .agg (c2).toArray) (yields_part (by rfl) 34 (.tmp 27) rfl rfl (fun w' h => hra.out w' h) (hrow2)) ?_)
    | (refine SeqS.k0 (v := ?_) ?_ ?_; rotate_left; focus (intro w' hb'; go_simp; with_reducible rfl))
    | (refine SeqS.k0 (v := ?_) ?_ ?_; rotate_left; focus (intro w' hb'; have d0 := hs0.out w' hb'; go_simp; with_reducible rfl))
    | (refine SeqS.k0 (v := ?_) ?_ ?_; rotate_left; focus (intro w' hb'; have d0 := hs1.out w' hb'; go_simp; with_reducible rfl))
    | (refine SeqS.u0 ?_)
    | (refine SeqS.y1 (v := .agg (c2).toArray) (yields_part (by rfl) 34 (.tmp 27) rfl rfl (fun w' h => hra.out w' h) (hrow2)) ?_)
    | (refine SeqS.k1 (v := ?_) ?_ ?_; rotate_left; focus (intro w' hb'; go_simp; with_reducible rfl))
    | (refine SeqS.k1 (v := ?_) ?_ ?_; rotate_left; focus (intro w' hb'; have d0 := hs0.out w' hb'; go_simp; with_reducible rfl))
    | (refine SeqS.k1 (v := ?_) ?_ ?_; rotate_left; focus (intro w' hb'; have d0 := hs1.out w' hb'; go_simp; with_reducible rfl))
    | (refine SeqS.u1 ?_)
    | (refine SeqS.y2 (v := .agg (c2).toArray) (yields_part (by rfl) 34 (.tmp 27) rfl rfl (fun w' h => hra.out w' h) (hrow2)) ?_)
    | (refine SeqS.k2 (v := ?_) ?_ ?_; rotate_left; focus (intro w' hb'; go_simp; with_reducible rfl))
    | (refine SeqS.k2 (v := ?_) ?_ ?_; rotate_left; focus (intro w' hb'; have d0 := hs0.out w' hb'; go_simp; with_reducible rfl))
    | (refine SeqS.k2 (v := ?_) ?_ ?_; rotate_left; focus (intro w' hb'; have d0 := hs1.out w' hb'; go_simp; with_reducible rfl))
    | (refine SeqS.u2 ?_)); simp only [Act.put, List.setIfInBounds_toArray, List.set_cons_zero, List.set_cons_succ])
  refine SeqS.alone (by decide +kernel) (by rfl) (fun K hK => ?_)
  go_simp
  go_at_call 30
  refine (hHo.out _ bV).mono ?_
  rintro e w4 ⟨b9, c9, rfl, o4, b4⟩
  go_simp
  have S4 : Below V.heap.size V w4 := bV.trans (b4.mono bV.size)
  refine hK _ _ S4 ?_
  clear hK K
  repeat ((first
    | (refine SeqS.k0 (v := ?_) ?_ ?_; rotate_left; focus (intro w' hb'; go_simp; with_reducible rfl))
    | (refine SeqS.k0 (v := ?_) ?_ ?_; rotate_left; focus (intro w' hb'; have d0 := d4; go_simp; with_reducible rfl))
    | (refine SeqS.u0 ?_)
    | (refine SeqS.k1 (v := ?_) ?_ ?_; rotate_left; focus (intro w' hb'; go_simp; with_reducible rfl))
    | (refine SeqS.k1 (v := ?_) ?_ ?_; rotate_left; focus (intro w' hb'; have d0 := d4; go_simp; with_reducible rfl))
    | (refine SeqS.u1 ?_)
    | (refine SeqS.k2 (v := ?_) ?_ ?_; rotate_left; focus (intro w' hb'; go_simp; with_reducible rfl))
    | (refine SeqS.k2 (v := ?_) ?_ ?_; rotate_left; focus (intro w' hb'; have d0 := d4; go_simp; with_reducible rfl))
    | (refine SeqS.u2 ?_)); simp only [Act.put, List.setIfInBounds_toArray, List.set_cons_zero, List.set_cons_succ])
  refine SeqS.done (by decide +kernel) ?_
  have xb1 := kb1.keep S4 kb1.lt
  have xb2 := kb2.keep S4 kb2.lt
  have xb3 := kb3.keep S4 kb3.lt
  have xB : RowKit.Hid (Below w.heap.size w w4) := Lib.hid (hBH.out.trans (S4.mono hBH.out.size))
  clear kb1 kb2 kb3 S4 b4 o4 hs0 hs1 hHo hra d1 d2 d3 d4 bV
  go_wp2_with ((with_reducible refine wpList_load_blk rfl 37 (.tmp 3) rfl ?_ xb1 rowDd hl ?_); rfl; refine RowKit.Hid.out ?_)
  refine Lib.hid ?_
  refine store_row rfl 37 (.tmp 6) _ rfl rfl rfl xb3 rowDd hl hzl ho ?_
  intro w5 hb5 hg5
  have hB5 := xB.out.grown hg5 xB.out.size (fun q hq => by injection hq with hq; rw [← hq, ← hGH.out]; omega)
  clear xb1 xb2 xb3 hg5
  go_wp2
  refine bodyPost_ret (results_bt18 rfl rfl hb5 hrow) rfl ?_
  exact ⟨rfl, hB5⟩

set_option maxRecDepth 100000 in
set_option maxHeartbeats 2000000 in
theorem fDoCut_down {R : Nat → Prop} {w : World} {cs sc : List Value} {D : DkV} {n : Int} {i : Nat} (h2 : RDisk R w cs D) (hi : i < 3) (hfo : FOk (D.f i)) (hd : D.down = true) (hsc : [.bool true, .int .i64 n, .slice none 0 0] = sc) (hn : ¬ n < 0) (hlong : ¬ ((D.f i).held.length : Int) < n) :
    Calls Tryz.prog 22 #[.agg cs.toArray, .int .i64 (i : Int), .agg sc.toArray] w fun q w' => q = .returned (.tuple #[.agg cs.toArray, .int .i64 18]) ∧ Below w.heap.size w w' := by
  have h := h2.ddc
  rw [hd] at h
  have hl := h.l
  have ho := h.o
  have h6 := h.r
  have h8 := h.d
  have hrow : IsRow Tryz.prog 37 cs.length := by rw [hl]; exact rowDd
  clear h
  obtain ⟨zs, hzs⟩ : ∃ zs, ddZ = zs := ⟨_, rfl⟩
  have hz := zeroDd
  have hzl := ddZ_len
  rw [hzs] at hz hzl
  have hscl : sc.length = 3 := by rw [← hsc]; rfl
  have hscH := Lib.hid hsc
  clear hsc
  have hb1 := (Blk.new w 37 cs).alloc (.cells sc.toArray 75)
  have hb1 := hb1.alloc (.cells zs.toArray 37)
  have hb2 : Blk ((w.alloc (.cells cs.toArray 37)).alloc (.cells sc.toArray 75)) (w.heap.size + 1) 75 sc := Blk.new1 w _ _ sc
  have hb2 := hb2.alloc (.cells zs.toArray 37)
  have hb3 := Blk.new ((w.alloc (.cells cs.toArray 37)).alloc (.cells sc.toArray 75)) 37 zs
  rw [size2] at hb3
  have hB3 := below3 w (.cells cs.toArray 37) (.cells sc.toArray 75) (.cells zs.toArray 37)
  obtain ⟨W, hW⟩ : ∃ W, ((w.alloc (.cells cs.toArray 37)).alloc (.cells sc.toArray 75)).alloc (.cells zs.toArray 37) = W := ⟨_, rfl⟩
  rw [hW] at hb1 hb2 hb3 hB3
  obtain ⟨G, hG⟩ : ∃ G, w.heap.size = G := ⟨_, rfl⟩
  rw [hG] at hb1 hb2 hb3
  have hWH := Lib.hid hW
  have hGH := Lib.hid hG
  obtain ⟨V, hV⟩ : ∃ V, W.drew = V := ⟨_, rfl⟩
  have kb1 : Blk V G 37 cs := by rw [← hV]; exact hb1
  have kb2 : Blk V (G + 1) 75 sc := by rw [← hV]; exact hb2
  have kb3 : Blk V (G + 2) 37 zs := by rw [← hV]; exact hb3
  have kB : Below w.heap.size w V := by rw [← hV]; exact hB3.drew
  have hBH := Lib.hid kB
  have hVH := Lib.hid hV
  have bV : Below V.heap.size V V := Below.refl _ _
  clear hW hG hB3 hzs hV hb1 hb2 hb3
  have hs0 := Lib.hid (fun (w' : World) (q : Below V.heap.size V w') => (show w'.cell? ⟨G + 1, 0, none⟩ = some (.bool true) by rw [q.cell (p := ⟨G + 1, 0, none⟩) kb2.lt, kb2.cell 0, ← hscH.out]; rfl))
  have hs1 := Lib.hid (fun (w' : World) (q : Below V.heap.size V w') => (show w'.cell? ⟨G + 1, 1, none⟩ = some (.int .i64 n) by rw [q.cell (p := ⟨G + 1, 1, none⟩) kb2.lt, kb2.cell 1, ← hscH.out]; rfl))
  have d1 : decide ((i : Int) < 0) = false := decide_eq_false (by omega)
  have d2 : decide ((2 : Int) < (i : Int)) = false := decide_eq_false (by omega)
  have hi3 : (i : Int) < 3 := by omega
  have hco := h2.co i hi
  have hRV := fun (w' : World) (q : Below V.heap.size V w') => hco.2.keep (hBH.out.trans (q.mono hBH.out.size))
  have hcl := hco.2.len
  have hcr := hco.1
  obtain ⟨c2, hc2⟩ : ∃ c2, fileC cs i = c2 := ⟨_, rfl⟩
  rw [hc2] at hRV hcl hcr
  have hHo := Lib.hid (fun (w' : World) (q : Below V.heap.size V w') => fHolds_any (hRV w' q) hfo)
  have hra := Lib.hid (fun (w' : World) (q : Below V.heap.size V w') => (show w'.rangeAt G (i * 2) c2 from (kb1.keep q kb1.lt).range _ _ hcr))
  have hrow2 : IsRow Tryz.prog 34 c2.length := by rw [hcl]; exact rowRf
  have d3 : decide (n < 0) = false := decide_eq_false hn
  clear hRV hcr hcl hc2 hco
  have d4 : decide (((D.f i).held.length : Int) < n) = false := decide_eq_false hlong
  go_enter Tryz.func22, Tryz.ntmps22
  go_wp2_with ((with_reducible refine box_row rfl 37 (.tmp 0) rfl cs rfl ?_); refine RowKit.Hid.out ?_)
  refine Lib.hid ?_
  refine box_row rfl 75 (.tmp 2) rfl sc rfl ?_
  refine wpList_alloc_blk rfl 37 rfl hz ?_
  rw [hWH.out, size2, size1, hGH.out]
  go_wp2_with fail
  refine region_seqS (fun w' => Below V.heap.size V w') (by kernel_rfl) (by rw [hVH.out]; exact bV) ?_
  simp only [pairs, Nat.reduceAdd]
  rw [hVH.out]
  repeat ((first
    | (refine SeqS.y0 (v := .agg (c2).toArray) (yields_part (by rfl) 34 (.tmp 27) rfl rfl (fun w' h => hra.out w' h) (hrow2)) ?_)
    | (refine SeqS.k0 (v := ?_) ?_ ?_; rotate_left; focus (intro w' hb'; go_simp; with_reducible rfl))
    | (refine SeqS.k0 (v := ?_) ?_ ?_; rotate_left; focus (intro w' hb'; have d0 := hs0.out w' hb'; go_simp; with_reducible rfl))
    | (refine SeqS.k0 (v := ?_) ?_ ?_; rotate_left; focus (intro w' hb'; have d0 := hs1.out w' hb'; go_simp; with_reducible rfl))
    | (refine SeqS.u0 ?_)
    | (refine SeqS.y1 (v := .agg (c2).toArray) (yields_part (by rfl) 34 (.tmp 27) rfl rfl (fun w' h => hra.out w' h) (hrow2)) ?_)
    | (refine SeqS.k1 (v := ?_) ?_ ?_; rotate_left; focus (intro w' hb'; go_simp; with_reducible rfl))
    | (refine SeqS.k1 (v := ?_) ?_ ?_; rotate_left; focus (intro w' hb'; have d0 := hs0.out w' hb'; go_simp; with_reducible rfl))
    | (refine SeqS.k1 (v := ?_) ?_ ?_; rotate_left; focus (intro w' hb'; have d0 := hs1.out w' hb'; go_simp; with_reducible rfl))
    | (refine SeqS.u1 ?_)
    | (refine SeqS.y2 (v := .agg (c2).toArray) (yields_part (by rfl) 34 (.tmp 27) rfl rfl (fun w' h => hra.out w' h) (hrow2)) ?_)
    | (refine SeqS.k2 (v := ?_) ?_ ?_; rotate_left; focus (intro w' hb'; go_simp; with_reducible rfl))
    | (refine SeqS.k2 (v := ?_) ?_ ?_; rotate_left; focus (intro w' hb'; have d0 := hs0.out w' hb'; go_simp; with_reducible rfl))
    | (refine SeqS.k2 (v := ?_) ?_ ?_; rotate_left; focus (intro w' hb'; have d0 := hs1.out w' hb'; go_simp; with_reducible rfl))
    | (refine SeqS.u2 ?_)); simp only [Act.put, List.setIfInBounds_toArray, List.set_cons_zero, List.set_cons_succ])
  refine SeqS.alone (by decide +kernel) (by rfl) (fun K hK => ?_)
  go_simp
  go_at_call 30
  refine (hHo.out _ bV).mono ?_
  rintro e w4 ⟨b9, c9, rfl, o4, b4⟩
  go_simp
  have S4 : Below V.heap.size V w4 := bV.trans (b4.mono bV.size)
  refine hK _ _ S4 ?_
  clear hK K
  repeat ((first
    | (refine SeqS.k0 (v := ?_) ?_ ?_; rotate_left; focus (intro w' hb'; go_simp; with_reducible rfl))
    | (refine SeqS.k0 (v := ?_) ?_ ?_; rotate_left; focus (intro w' hb'; have d0 := d4; go_simp; with_reducible rfl))
    | (refine SeqS.u0 ?_)
    | (refine SeqS.k1 (v := ?_) ?_ ?_; rotate_left; focus (intro w' hb'; go_simp; with_reducible rfl))
    | (refine SeqS.k1 (v := ?_) ?_ ?_; rotate_left; focus (intro w' hb'; have d0 := d4; go_simp; with_reducible rfl))
    | (refine SeqS.u1 ?_)
    | (refine SeqS.k2 (v := ?_) ?_ ?_; rotate_left; focus (intro w' hb'; go_simp; with_reducible rfl))
    | (refine SeqS.k2 (v := ?_) ?_ ?_; rotate_left; focus (intro w' hb'; have d0 := d4; go_simp; with_reducible rfl))
    | (refine SeqS.u2 ?_)); simp only [Act.put, List.setIfInBounds_toArray, List.set_cons_zero, List.set_cons_succ])
  refine SeqS.done (by decide +kernel) ?_
  have xb1 := kb1.keep S4 kb1.lt
  have xb2 := kb2.keep S4 kb2.lt
  have xb3 := kb3.keep S4 kb3.lt
  have xB : RowKit.Hid (Below w.heap.size w w4) := Lib.hid (hBH.out.trans (S4.mono hBH.out.size))
  clear kb1 kb2 kb3 S4 b4 o4 hs0 hs1 hHo hra d1 d2 d3 d4 bV
  have e8 := xb1.cell 8
  rw [h8] at e8
  go_wp2_with ((with_reducible refine wpList_load_blk rfl 37 (.tmp 3) rfl ?_ xb1 rowDd hl ?_); rfl; refine RowKit.Hid.out ?_)
  refine Lib.hid ?_
  refine store_row rfl 37 (.tmp 6) _ rfl rfl rfl xb3 rowDd hl hzl ho ?_
  intro w5 hb5 hg5
  have hB5 := xB.out.grown hg5 xB.out.size (fun q hq => by injection hq with hq; rw [← hq, ← hGH.out]; omega)
  clear xb1 xb2 xb3 hg5
  go_wp2
  refine bodyPost_ret (results_bt18 rfl rfl hb5 hrow) rfl ?_
  exact ⟨rfl, hB5⟩

end Go.Proofs.YtcohbhimhacedaaGreatDoor

/-
  The document's own Do of bytes (layer 18), where there is no room. New memory alone is written. Conditions: files of at most 2^47 bytes and some, 2^41 steps.
-/
namespace Go.Proofs.YtcohbhimhacedaaGreatDoor
open Go.RowKit

theorem own_sameN {w w' : World} {B : Nat} {e : TypeId} {size : Nat} {v : Value} {n : Nat} {vs : List Value} (h : w.ownsRow B e size v n vs) (hk : ∀ b, v.ownBlock = some b → w'.heap[b]? = w.heap[b]?) : w'.ownsRow B e size v n vs := by
  refine ⟨h.1, ?_⟩
  rcases h.2 with h0 | ⟨g, cap, cur, hv, hb, hg, hr⟩
  · exact .inl h0
  · exact .inr ⟨g, cap, cur, hv, hb, (hk g (by rw [hv]; rfl)).trans hg, hr⟩
theorem own_weakN {w : World} {B B' : Nat} {e : TypeId} {size : Nat} {v : Value} {n : Nat} {vs : List Value} (h : w.ownsRow B e size v n vs) (hb : B' ≤ B) : w.ownsRow B' e size v n vs := by
  refine ⟨h.1, h.2.imp id ?_⟩
  rintro ⟨g, cap, cur, hv, hg, hr⟩
  exact ⟨g, cap, cur, hv, Nat.le_trans hb hg, hr⟩
theorem own_stayN {w w' : World} {b : Nat} {e : TypeId} {size : Nat} {v : Value} {n : Nat} {xs : List Value} (h : w.ownsRow b e size v n xs) (hb : Below w.heap.size w w') : w'.ownsRow b e size v n xs := own_sameN h (fun q hq => hb.block q (h.lt q hq).2)
theorem own_sliceN {w : World} {base : Nat} {e : TypeId} {size : Nat} {v : Value} {n : Nat} {xs : List Value} (h : w.ownsRow base e size v n xs) : ∃ b c, v = .slice b n c := by
  rcases h.2 with ⟨rfl, rfl⟩ | ⟨g, cap, cur, rfl, _⟩
  · exact ⟨_, _, rfl⟩
  · exact ⟨_, _, rfl⟩
theorem fold_step {sc : List Value} (h : sc.length = 3) : List.foldl (fun cs x => cs.setIfInBounds x.snd x.fst) #[Value.bool false, Value.int IntKind.i64 0, Value.slice none 0 0] sc.zipIdx = sc.toArray := by
  match sc, h with
  | [_, _, _], _ => rfl
theorem cell_of_blk {w : World} {g : Nat} {t : TypeId} {cs : List Value} (h : Blk w g t cs) (j : Nat) (u : Value) (hu : cs[j]? = some u) : w.cell? ((⟨g, 0, none⟩ : Addr).add j) = some u := by
  have hadd : (⟨g, 0, none⟩ : Addr).add j = ⟨g, j, none⟩ := by
    unfold Addr.add
    simp
    omega
  rw [hadd, h.cell]
  exact hu
/-- A disk of which file i has a step more. -/
theorem do_make {R : Nat → Prop} {w w' : World} {cs sc : List Value} {D : DkV} {s : StV} {A : Option Addr} {C : Nat} (h2 : RDisk R w cs D) (i : Nat) (hi : i < 3) {a' : Option Addr} {c' N : Nat} {L : List Value}
    (hL : CellsOf R w L (D.f i).S) (hst : RStep R w (stC s A C) s) (hsc : stC s A C = sc) (hN : (D.f i).S.length = N) (hB : Below w.heap.size w w') {B : Nat} (ho : w'.ownsRow B 75 3 (.slice a' (N + 1) c') (N + 1) (L ++ sc)) :
    RDisk (fun b => R b ∨ B ≤ b) w' (cs.set (i * 2 + 1) (.slice a' (N + 1) c')) (D.set i ((D.f i).step s)) := by
  have hk : ∀ b, R b → b < w.heap.size → w'.heap[b]? = w.heap[b]? := fun b _ hl => hB.block b hl
  have hr : ∀ b, R b → R b ∨ B ≤ b := fun b h => .inl h
  obtain ⟨ka', kcc', sa', kc', hc', hKI, hKR, _⟩ := h2.fl i hi
  have e0 := hc' 0 _ rfl
  have hl := h2.ddc.l
  have hlen : ((D.f i).step s).S.length = N + 1 := by show ((D.f i).S ++ [s]).length = _; rw [List.length_append, hN]; rfl
  have hcells : CellsOf (fun b => R b ∨ B ≤ b) w' (L ++ sc) ((D.f i).step s).S := by
    rw [← hsc]
    exact (hL.same hk hr).snoc (hst.same hk hr)
  refine (h2.same hk hr).put i hi (v := (D.f i).step s) (c := rfC ka' (D.f i).K.length kcc' a' (N + 1) c') ⟨ka', kcc', a', c', by rw [hlen]; rfl, ints_inR hKI hKR hk, fun x hx hn => .inl (hKR x hx hn), ?_⟩ ?_
  · rw [← hlen] at ho
    exact RSteps.of_row ho hcells (fun x hx => .inr (ho.lt x.block (by rw [hx]; rfl)).1)
  · exact set_over2 cs (i * 2) _ _ (by omega) e0

set_option maxRecDepth 100000 in
set_option maxHeartbeats 2000000 in
theorem fDoPut_full {R : Nat → Prop} {w : World} {cs sc : List Value} {D : DkV} {A : Option Addr} {C i : Nat} {xs : List Int} (h2 : RDisk R w cs D) (hi : i < 3) (hd : D.down = false) (hsc : stC (.put xs) A C = sc) (hst : RStep R w (stC (.put xs) A C) (.put xs)) (hlS : (D.f i).S.length ≤ 3518437208882)
    (o0 : FOk (D.set i ((D.f i).step (.put xs))).f0) (o1 : FOk (D.set i ((D.f i).step (.put xs))).f1) (o2 : FOk (D.set i ((D.f i).step (.put xs))).f2) (hroom : D.room < ((D.set i ((D.f i).step (.put xs))).used : Int)) :
    Calls Tryz.prog 22 #[.agg cs.toArray, .int .i64 (i : Int), .agg sc.toArray] w fun q w' => q = .returned (.tuple #[.agg cs.toArray, .int .i64 17]) ∧ Below w.heap.size w w' := by
  obtain ⟨i9, hi9, hz0, hz1, hz2⟩ := info_rst
  have h := h2.ddc
  rw [hd] at h
  have hl := h.l
  have ho := h.o
  have h6 := h.r
  have h8 := h.d
  have hrow : IsRow Tryz.prog 37 cs.length := by rw [hl]; exact rowDd
  clear h
  obtain ⟨zs, hzs⟩ : ∃ zs, ddZ = zs := ⟨_, rfl⟩
  have hz := zeroDd
  have hzl := ddZ_len
  rw [hzs] at hz hzl
  have hscl : sc.length = 3 := by rw [← hsc]; exact stC_len _ _ _
  have hscH := Lib.hid hsc
  clear hsc
  have rowsc : IsRow Tryz.prog 75 sc.length := by rw [hscl]; exact rowRs
  have hsc1 : ∀ u ∈ sc, u.oneCell' = true := by rw [← hscH.out]; exact stC_one _ _ _
  have hfold := fold_step hscl
  obtain ⟨ka, kcc, sa, kc, hcell, hKI, hKR, hSt⟩ := h2.fl i hi
  have hsl0 := hcell 1 _ rfl
  obtain ⟨L, hL, hLa⟩ := hSt.cells
  obtain ⟨N, hN⟩ : ∃ N, (D.f i).S.length = N := ⟨_, rfl⟩
  rw [hN] at hlS
  have hLr : ∀ w', Below w.heap.size w w' → N = 0 ∨ ∃ ad, sa = some ad ∧ ∀ j u, L[j]? = some u → w'.cell? (ad.add j) = some u := fun w' q => by
    rcases hLa with h0 | ⟨b, off, ha, hr⟩
    · exact .inl (by omega)
    · refine .inr ⟨_, ha, fun j u hu => ?_⟩
      have h9 := hr j u hu
      have hadd : (⟨b, off, none⟩ : Addr).add j = ⟨b, off + j, none⟩ := by unfold Addr.add; simp
      rw [hadd, q.cell (World.block_lt_of_cell? w _ h9)]
      exact h9
  have hLl : L.length = N * 3 := by rw [hL.len, hN]
  have hL1 := hL.one
  have hsl : cs[i * 2 + 1]? = some (.slice sa N kc) := by rw [hsl0, hN]
  have hmake := fun w' a' c' hB B ho => do_make (w' := w') (a' := a') (c' := c') (B := B) h2 i hi hL hst hscH.out hN hB ho
  have hNH := Lib.hid hN
  obtain ⟨D1, hDe⟩ : ∃ D1, D.set i ((D.f i).step (.put xs)) = D1 := ⟨_, rfl⟩
  rw [hDe] at o0 o1 o2 hroom
  rw [hDe] at hmake
  clear hDe
  have d7 : decide (D.room < (D1.used : Int)) = true := decide_eq_true hroom
  clear hsl0 hN hLa hcell hKI hKR hSt hL hst
  have hb1 := (Blk.new w 37 cs).alloc (.cells sc.toArray 75)
  have hb1 := hb1.alloc (.cells zs.toArray 37)
  have hb2 : Blk ((w.alloc (.cells cs.toArray 37)).alloc (.cells sc.toArray 75)) (w.heap.size + 1) 75 sc := Blk.new1 w _ _ sc
  have hb2 := hb2.alloc (.cells zs.toArray 37)
  have hb3 := Blk.new ((w.alloc (.cells cs.toArray 37)).alloc (.cells sc.toArray 75)) 37 zs
  rw [size2] at hb3
  have hB3 := below3 w (.cells cs.toArray 37) (.cells sc.toArray 75) (.cells zs.toArray 37)
  obtain ⟨W, hW⟩ : ∃ W, ((w.alloc (.cells cs.toArray 37)).alloc (.cells sc.toArray 75)).alloc (.cells zs.toArray 37) = W := ⟨_, rfl⟩
  rw [hW] at hb1 hb2 hb3 hB3
  obtain ⟨G, hG⟩ : ∃ G, w.heap.size = G := ⟨_, rfl⟩
  rw [hG] at hb1 hb2 hb3
  have hWH := Lib.hid hW
  have hGH := Lib.hid hG
  obtain ⟨V, hV⟩ : ∃ V, W.drew = V := ⟨_, rfl⟩
  have kb1 : Blk V G 37 cs := by rw [← hV]; exact hb1
  have kb2 : Blk V (G + 1) 75 sc := by rw [← hV]; exact hb2
  have kb3 : Blk V (G + 2) 37 zs := by rw [← hV]; exact hb3
  have kB : Below w.heap.size w V := by rw [← hV]; exact hB3.drew
  have hBH := Lib.hid kB
  have hVH := Lib.hid hV
  have bV : Below V.heap.size V V := Below.refl _ _
  clear hW hG hB3 hzs hV hb1 hb2 hb3
  have hs0 := Lib.hid (fun (w' : World) (q : Below V.heap.size V w') => (show w'.cell? ⟨G + 1, 0, none⟩ = some (.bool false) by rw [q.cell (p := ⟨G + 1, 0, none⟩) kb2.lt, kb2.cell 0, ← hscH.out]; rfl))
  have d1 : decide ((i : Int) < 0) = false := decide_eq_false (by omega)
  have d2 : decide ((2 : Int) < (i : Int)) = false := decide_eq_false (by omega)
  have hi3 : (i : Int) < 3 := by omega
  go_enter Tryz.func22, Tryz.ntmps22
  go_wp2_with ((with_reducible refine box_row rfl 37 (.tmp 0) rfl cs rfl ?_); refine RowKit.Hid.out ?_)
  refine Lib.hid ?_
  refine box_row rfl 75 (.tmp 2) rfl sc rfl ?_
  refine wpList_alloc_blk rfl 37 rfl hz ?_
  rw [hWH.out, size2, size1, hGH.out]
  go_wp2_with fail
  refine region_seqS (fun w' => Below V.heap.size V w') (by kernel_rfl) (by rw [hVH.out]; exact bV) ?_
  simp only [pairs, Nat.reduceAdd]
  rw [hVH.out]
  repeat ((first
    | (refine SeqS.k0 (v := ?_) ?_ ?_; rotate_left; focus (intro w' hb'; go_simp; with_reducible rfl))
    | (refine SeqS.k0 (v := ?_) ?_ ?_; rotate_left; focus (intro w' hb'; have d0 := hs0.out w' hb'; go_simp; with_reducible rfl))
    | (refine SeqS.u0 ?_)
    | (refine SeqS.k1 (v := ?_) ?_ ?_; rotate_left; focus (intro w' hb'; go_simp; with_reducible rfl))
    | (refine SeqS.k1 (v := ?_) ?_ ?_; rotate_left; focus (intro w' hb'; have d0 := hs0.out w' hb'; go_simp; with_reducible rfl))
    | (refine SeqS.u1 ?_)
    | (refine SeqS.k2 (v := ?_) ?_ ?_; rotate_left; focus (intro w' hb'; go_simp; with_reducible rfl))
    | (refine SeqS.k2 (v := ?_) ?_ ?_; rotate_left; focus (intro w' hb'; have d0 := hs0.out w' hb'; go_simp; with_reducible rfl))
    | (refine SeqS.u2 ?_)); simp only [Act.put, List.setIfInBounds_toArray, List.set_cons_zero, List.set_cons_succ])
  refine SeqS.done (by decide +kernel) ?_
  clear hs0 d1 d2
  obtain ⟨X, hX⟩ : ∃ X, V = X := ⟨_, rfl⟩
  have xb1 := kb1
  have xb2 := kb2
  have xb3 := kb3
  rw [hX] at xb1 xb2 xb3 ⊢
  have xB : RowKit.Hid (Below w.heap.size w X) := Lib.hid (by have := hBH.out; rw [hX] at this; exact this)
  clear kb1 kb2 kb3 hX bV
  have e8 := xb1.cell 8
  rw [h8] at e8
  go_wp2_with ((with_reducible refine wpList_load_blk rfl 37 (.tmp 3) rfl ?_ xb1 rowDd hl ?_); rfl; refine RowKit.Hid.out ?_)
  refine Lib.hid ?_
  refine wpList_alloc_blk rfl 37 rfl hz ?_
  have yn := Blk.new X 37 zs
  have yBX := below1 X (.cells zs.toArray 37)
  have y1 := xb1.alloc (.cells zs.toArray 37)
  have y2 := xb2.alloc (.cells zs.toArray 37)
  have y3 := xb3.alloc (.cells zs.toArray 37)
  have l3 := xb3.lt
  obtain ⟨G8, hG8⟩ : ∃ G8, X.heap.size = G8 := ⟨_, rfl⟩
  obtain ⟨Y, hY⟩ : ∃ Y, X.alloc (.cells zs.toArray 37) = Y := ⟨_, rfl⟩
  rw [hY] at yn yBX y1 y2 y3 ⊢
  rw [hG8] at yn yBX l3 ⊢
  refine store_row rfl 37 (.tmp 8) (.tmp 39) rfl rfl rfl yn rowDd hl hzl ho ?_
  intro w5 yb8 yg8
  have yb1 := y1.grown yg8 (fun e => by injection e; omega)
  have yb2 := y2.grown yg8 (fun e => by injection e; omega)
  have yb3 := y3.grown yg8 (fun e => by injection e; omega)
  have yB0 : Below w.heap.size w w5 := (xB.out.trans ((hG8 ▸ yBX).mono xB.out.size)).grown yg8 (by have := xB.out.size; have := yBX.size; omega) (fun q hq => by injection hq with hq; rw [← hq, ← hG8]; exact xB.out.size)
  clear yn yBX y1 y2 y3 hY hG8 yg8 xb1 xb2 xb3 xB
  go_wp2_with fail
  obtain ⟨V6, hV6⟩ : ∃ V, w5.drew = V := ⟨_, rfl⟩
  have zb1 : Blk V6 G 37 cs := by rw [← hV6]; exact yb1
  have zb2 : Blk V6 (G + 1) 75 sc := by rw [← hV6]; exact yb2
  have zb3 : Blk V6 (G + 2) 37 zs := by rw [← hV6]; exact yb3
  have zb8 : Blk V6 G8 37 cs := by rw [← hV6]; exact yb8
  have zB : Below w.heap.size w V6 := by rw [← hV6]; exact yB0.drew
  have zg : G8 < V6.heap.size := zb8.lt
  have hst6 := Lib.hid (fun (w' : World) (q : Below G8 V6 w') => (show w'.cell? ⟨G, i * 2 + 1, none⟩ = some (.slice sa N kc) by rw [q.cell (p := ⟨G, i * 2 + 1, none⟩) (show G < G8 by omega), zb1.cell]; exact hsl))
  have hsd6 := Lib.hid (fun (w' : World) (q : Below G8 V6 w') => (show Blk w' (G + 1) 75 sc from zb2.keep q (by omega)))
  have hrL := fun (w' : World) (q : Below G8 V6 w') => hLr w' ((zB.trans (q.mono (by have := hGH.out; omega))))
  have hrLH := Lib.hid hrL
  have b6 : Below G8 V6 V6 := Below.refl _ _
  obtain ⟨M6, hM6⟩ : ∃ M6, V6.heap.size = M6 := ⟨_, rfl⟩
  have hM6H := Lib.hid hM6
  clear hM6
  refine region_seqS (fun w' => Below G8 V6 w') (by kernel_rfl) (by rw [hV6]; exact b6) ?_
  simp only [pairs, Nat.reduceAdd]
  rw [hV6]
  have zBH := Lib.hid zB
  clear hV6 yb1 yb2 yb3 yb8 yB0 hrL zB
  repeat ((first
    | (refine SeqS.y0 (v := .agg (sc).toArray) (yields_blk (by rfl) 75 (.tmp 5) rfl rfl (fun w' h => hsd6.out w' h) (rowsc)) ?_)
    | (refine SeqS.k0 (v := ?_) ?_ ?_; rotate_left; focus (intro w' hb'; go_simp; with_reducible rfl))
    | (refine SeqS.k0 (v := ?_) ?_ ?_; rotate_left; focus (intro w' hb'; have d0 := hst6.out w' hb'; go_simp; with_reducible rfl))
    | (refine SeqS.u0 ?_)
    | (refine SeqS.y1 (v := .agg (sc).toArray) (yields_blk (by rfl) 75 (.tmp 5) rfl rfl (fun w' h => hsd6.out w' h) (rowsc)) ?_)
    | (refine SeqS.k1 (v := ?_) ?_ ?_; rotate_left; focus (intro w' hb'; go_simp; with_reducible rfl))
    | (refine SeqS.k1 (v := ?_) ?_ ?_; rotate_left; focus (intro w' hb'; have d0 := hst6.out w' hb'; go_simp; with_reducible rfl))
    | (refine SeqS.u1 ?_)
    | (refine SeqS.y2 (v := .agg (sc).toArray) (yields_blk (by rfl) 75 (.tmp 5) rfl rfl (fun w' h => hsd6.out w' h) (rowsc)) ?_)
    | (refine SeqS.k2 (v := ?_) ?_ ?_; rotate_left; focus (intro w' hb'; go_simp; with_reducible rfl))
    | (refine SeqS.k2 (v := ?_) ?_ ?_; rotate_left; focus (intro w' hb'; have d0 := hst6.out w' hb'; go_simp; with_reducible rfl))
    | (refine SeqS.u2 ?_)
    | (refine SeqS.y3 (v := .agg (sc).toArray) (yields_blk (by rfl) 75 (.tmp 5) rfl rfl (fun w' h => hsd6.out w' h) (rowsc)) ?_)
    | (refine SeqS.k3 (v := ?_) ?_ ?_; rotate_left; focus (intro w' hb'; go_simp; with_reducible rfl))
    | (refine SeqS.k3 (v := ?_) ?_ ?_; rotate_left; focus (intro w' hb'; have d0 := hst6.out w' hb'; go_simp; with_reducible rfl))
    | (refine SeqS.u3 ?_)
    | (refine SeqS.take4 (v := .agg (sc).toArray) (by first | assumption | trivial) (by kernel_rfl) (by decide +kernel) (by decide +kernel) (yields_blk (by rfl) 75 (.tmp 5) rfl rfl (fun w' h => hsd6.out w' h) (rowsc)) ?_)
    | (refine SeqS.take4 (v := ?_) (by first | assumption | trivial) (by kernel_rfl) (by decide +kernel) (by decide +kernel) (Or.inl ⟨by rfl, ?_⟩) ?_; rotate_left; focus (intro w' hb'; go_simp; with_reducible rfl))
    | (refine SeqS.take4 (v := ?_) (by first | assumption | trivial) (by kernel_rfl) (by decide +kernel) (by decide +kernel) (Or.inl ⟨by rfl, ?_⟩) ?_; rotate_left; focus (intro w' hb'; have d0 := hst6.out w' hb'; go_simp; with_reducible rfl))
    | (refine SeqS.take4 (v := undef) (by first | assumption | trivial) (by kernel_rfl) (by decide +kernel) (by decide +kernel) (Or.inr ⟨by rfl, rfl⟩) ?_)); simp only [Act.put, List.setIfInBounds_toArray, List.set_cons_zero, List.set_cons_succ])
  have T0 : Below V6.heap.size V6 V6 := Below.refl _ _
  refine SeqS.either (rs := [1, 9]) (by decide +kernel) ?_
  intro o9 ho9
  simp only [List.mem_cons, List.not_mem_nil, or_false] at ho9
  rcases ho9 with rfl | rfl
  · refine ⟨[], _, [_, _, _, _, _, _], rfl, by rfl, fun K1 hK => ?_⟩
    go_simp
    have T1 : Below V6.heap.size V6 (V6.alloc (.cells #[] 75)) := T0.alloc T0.size _
    have own41 : (V6.alloc (.cells #[] 75)).ownsRow M6 75 3 (.slice (some ⟨V6.heap.size, 0, none⟩) 0 0) 0 [] := own_weakN (World.ownsRow_made V6 #[] 0 (Nat.le_refl _) (Nat.zero_le _) rfl) (by rw [← hM6H.out]; exact T0.size)
    refine hK _ _ (T1.mono (Nat.le_of_lt zg)) ?_
    clear hK K1
    obtain ⟨B41, hB41⟩ : ∃ B41, V6.heap.size = B41 := ⟨_, rfl⟩
    rw [hB41] at own41 ⊢
    obtain ⟨w1, hw1⟩ : ∃ w, V6.alloc (.cells #[] 75) = w := ⟨_, rfl⟩
    rw [hw1] at T1 own41 ⊢
    clear hw1
    have lA := (own41.lt B41 rfl).2
    (try simp only [Act.put, List.setIfInBounds_toArray, List.set_cons_zero, List.set_cons_succ])
    refine SeqS.either (rs := [7, 9]) (by decide +kernel) ?_
    intro o9 ho9
    simp only [List.mem_cons, List.not_mem_nil, or_false] at ho9
    rcases ho9 with rfl | rfl
    · refine ⟨[], _, [_, _, _, _, _], rfl, by rfl, fun K1 hK => ?_⟩
      refine wp_append_row (.tmp 41) (.tmp 46) 32 rfl M6 75 i9 _ 3 40 Tryz.underlying32 hi9 hz0 hz1 hz2 rfl (by decide) rfl own41 rfl hLl (hrLH.out w1 (T1.mono (Nat.le_of_lt zg))) hL1 ?_ ?_ (by rw [← hM6H.out]; exact T1.size) ?_
      · unfold maxLen; omega
      · omega
      intro v47 w2 own47 g47
      have T2 : Below V6.heap.size V6 w2 := T1.grown g47 T1.size (fun q hq => by rw [hM6H.out]; exact (own41.lt q hq).1)
      refine hK _ _ (T2.mono (Nat.le_of_lt zg)) ?_
      clear hK K1
      rw [Nat.zero_add, List.nil_append] at own47
      have hex : ∃ a47 c47, v47 = .slice a47 N c47 := own_sliceN own47
      obtain ⟨a47, c47, hv47⟩ := hex
      subst hv47
      clear g47 own41
      (try simp only [Act.put, List.setIfInBounds_toArray, List.set_cons_zero, List.set_cons_succ])
      refine SeqS.alone (by decide +kernel) (by rfl) (fun K1 hK => ?_)
      go_simp
      (try rw [hfold])
      have T3 : Below V6.heap.size V6 (w2.alloc (.cells sc.toArray 75)) := T2.alloc T2.size _
      have k49 := Blk.new w2 75 sc
      have own47 := own_stayN own47 (below1 w2 (.cells sc.toArray 75))
      refine hK _ _ (T3.mono (Nat.le_of_lt zg)) ?_
      clear hK K1
      obtain ⟨B49, hB49⟩ : ∃ B49, w2.heap.size = B49 := ⟨_, rfl⟩
      rw [hB49] at k49 ⊢
      obtain ⟨w3, hw3⟩ : ∃ w, w2.alloc (.cells sc.toArray 75) = w := ⟨_, rfl⟩
      rw [hw3] at T3 k49 own47 ⊢
      clear hw3
      have lC := k49.lt
      (try simp only [Act.put, List.setIfInBounds_toArray, List.set_cons_zero, List.set_cons_succ])
      refine SeqS.alone (by decide +kernel) (by rfl) (fun K1 hK => ?_)
      refine wp_append_row (.tmp 47) (.tmp 49) 32 rfl M6 75 i9 _ 3 40 Tryz.underlying32 hi9 hz0 hz1 hz2 rfl (by decide) rfl own47 rfl (m := 1) (news := sc) hscl (.inr ⟨_, rfl, fun j u hu => cell_of_blk k49 j u hu⟩) hsc1 ?_ ?_ (by rw [← hM6H.out]; exact T3.size) ?_
      · unfold maxLen; omega
      · omega
      intro v50 w10 own50 g50
      have T10 : Below V6.heap.size V6 w10 := T3.grown g50 T3.size (fun q hq => by rw [hM6H.out]; exact (own47.lt q hq).1)
      refine hK _ _ (T10.mono (Nat.le_of_lt zg)) ?_
      clear hK K1
      (try simp only [Act.put, List.setIfInBounds_toArray, List.set_cons_zero, List.set_cons_succ])
      have hex : ∃ a50 c50, v50 = .slice a50 (N + 1) c50 := own_sliceN own50
      obtain ⟨a50, c50, hv50⟩ := hex
      subst hv50
      have q8 := zb8.keep T10 zg
      have e81 := q8.cell (i * 2 + 1)
      rw [hsl] at e81
      have f81 := q8.frozen (i * 2 + 1)
      have q9 := q8.set (i * 2 + 1) (.slice a50 (N + 1) c50)
      have S11 : Below G8 V6 (w10.setCell ⟨G8, i * 2 + 1, none⟩ (.slice a50 (N + 1) c50)) := (T10.mono (Nat.le_of_lt zg)).setCell (p := ⟨G8, i * 2 + 1, none⟩) (Nat.le_refl _) _
      have own51 := own_sameN own50 (w' := w10.setCell ⟨G8, i * 2 + 1, none⟩ (.slice a50 (N + 1) c50)) (fun q hq => (grown_setCell w10 G8 (i * 2 + 1) (.slice a50 (N + 1) c50)).block q (own50.lt q hq).2 (fun e => by injection e with e; have := (own50.lt q hq).1; have := hM6H.out; omega))
      have S10 : Below G8 V6 w10 := T10.mono (Nat.le_of_lt zg)
      clear g50 own47 k49 T3 q8 own50 T10
      repeat ((first
        | (refine SeqS.k0 (v := ?_) ?_ ?_; rotate_left; focus (intro w' hb'; go_simp; with_reducible rfl))
        | (refine SeqS.u0 ?_)
        | (refine SeqS.k1 (v := ?_) ?_ ?_; rotate_left; focus (intro w' hb'; go_simp; with_reducible rfl))
        | (refine SeqS.u1 ?_)
        | (refine SeqS.k2 (v := ?_) ?_ ?_; rotate_left; focus (intro w' hb'; go_simp; with_reducible rfl))
        | (refine SeqS.u2 ?_)); simp only [Act.put, List.setIfInBounds_toArray, List.set_cons_zero, List.set_cons_succ])
      refine SeqS.alone (by decide +kernel) (by rfl) (fun K1 hK => ?_)
      go_simp
      refine hK _ _ S11 ?_
      clear hK K1
      refine SeqS.done (by decide +kernel) ?_
      clear e81 f81
      obtain ⟨w11, hw11⟩ : ∃ w, w10.setCell ⟨G8, i * 2 + 1, none⟩ (.slice a50 (N + 1) c50) = w := ⟨_, rfl⟩
      rw [hw11] at q9 S11 own51 ⊢
      clear hw11
      have p1 := zb1.keep S11 (by omega)
      have p3 := zb3.keep S11 (by omega)
      have pB := zBH.out.trans (S11.mono (show w.heap.size ≤ G8 by have := hGH.out; omega))
      have hD1 := hmake w11 a50 c50 pB M6 own51
      clear own51 S11
      obtain ⟨cs1, hcs1⟩ : ∃ c, cs.set (i * 2 + 1) (.slice a50 (N + 1) c50) = c := ⟨_, rfl⟩
      rw [hcs1] at q9 hD1
      have hl1 : cs1.length = 9 := by rw [← hcs1, List.length_set]; exact hl
      have row1 : IsRow Tryz.prog 37 cs1.length := by rw [hl1]; exact rowDd
      obtain ⟨V7, hV7⟩ : ∃ V, w11.drew = V := ⟨_, rfl⟩
      have p1 : Blk V7 G 37 cs := by rw [← hV7]; exact p1
      have p3 : Blk V7 (G + 2) 37 zs := by rw [← hV7]; exact p3
      have q9 : Blk V7 G8 37 cs1 := by rw [← hV7]; exact q9
      have pB : Below w.heap.size w V7 := by rw [← hV7]; exact pB.drew
      have hD1 : RDisk (fun b => R b ∨ M6 ≤ b) V7 cs1 D1 := by rw [← hV7]; exact hD1.keep (Below.drew (Below.refl _ _))
      have hU := Lib.hid (fun w' (q : Below V7.heap.size V7 w') => fUsed_any (hD1.keep q) o0 o1 o2)
      have h8c := Lib.hid (fun w' (q : Below V7.heap.size V7 w') => q9.keep q q9.lt)
      have h6r := Lib.hid (fun (w' : World) (q : Below V7.heap.size V7 w') => (show w'.cell? ⟨G, 6, none⟩ = some (.int .i64 D.room) by rw [q.cell (p := ⟨G, 6, none⟩) p1.lt, p1.cell 6]; exact h6))
      have k7b : Below V7.heap.size V7 V7 := Below.refl _ _
      clear hcs1
      go_wp2_with fail
      refine region_seqS (fun w' => Below V7.heap.size V7 w') (by kernel_rfl) (by rw [hV7]; exact k7b) ?_
      simp only [pairs, Nat.reduceAdd]
      rw [hV7]
      clear hV7
      repeat ((first
        | (refine SeqS.y0 (v := .agg (cs1).toArray) (yields_blk (by rfl) 37 (.tmp 8) rfl rfl (fun w' h => h8c.out w' h) (row1)) ?_)
        | (refine SeqS.k0 (v := ?_) ?_ ?_; rotate_left; focus (intro w' hb'; go_simp; with_reducible rfl))
        | (refine SeqS.k0 (v := ?_) ?_ ?_; rotate_left; focus (intro w' hb'; have d0 := h6r.out w' hb'; go_simp; with_reducible rfl))
        | (refine SeqS.u0 ?_)
        | (refine SeqS.y1 (v := .agg (cs1).toArray) (yields_blk (by rfl) 37 (.tmp 8) rfl rfl (fun w' h => h8c.out w' h) (row1)) ?_)
        | (refine SeqS.k1 (v := ?_) ?_ ?_; rotate_left; focus (intro w' hb'; go_simp; with_reducible rfl))
        | (refine SeqS.k1 (v := ?_) ?_ ?_; rotate_left; focus (intro w' hb'; have d0 := h6r.out w' hb'; go_simp; with_reducible rfl))
        | (refine SeqS.u1 ?_)
        | (refine SeqS.y2 (v := .agg (cs1).toArray) (yields_blk (by rfl) 37 (.tmp 8) rfl rfl (fun w' h => h8c.out w' h) (row1)) ?_)
        | (refine SeqS.k2 (v := ?_) ?_ ?_; rotate_left; focus (intro w' hb'; go_simp; with_reducible rfl))
        | (refine SeqS.k2 (v := ?_) ?_ ?_; rotate_left; focus (intro w' hb'; have d0 := h6r.out w' hb'; go_simp; with_reducible rfl))
        | (refine SeqS.u2 ?_)); simp only [Act.put, List.setIfInBounds_toArray, List.set_cons_zero, List.set_cons_succ])
      refine SeqS.alone (by decide +kernel) (by rfl) (fun K hK => ?_)
      go_simp
      go_at_call 47
      refine (hU.out _ k7b).mono ?_
      rintro e w7 ⟨rfl, b7⟩
      go_simp
      have S7 : Below V7.heap.size V7 w7 := k7b.trans (b7.mono k7b.size)
      refine hK _ _ S7 ?_
      clear hK K
      repeat ((first
        | (refine SeqS.k0 (v := ?_) ?_ ?_; rotate_left; focus (intro w' hb'; go_simp; with_reducible rfl))
        | (refine SeqS.k0 (v := ?_) ?_ ?_; rotate_left; focus (intro w' hb'; have d0 := d7; go_simp; with_reducible rfl))
        | (refine SeqS.u0 ?_)
        | (refine SeqS.k1 (v := ?_) ?_ ?_; rotate_left; focus (intro w' hb'; go_simp; with_reducible rfl))
        | (refine SeqS.k1 (v := ?_) ?_ ?_; rotate_left; focus (intro w' hb'; have d0 := d7; go_simp; with_reducible rfl))
        | (refine SeqS.u1 ?_)
        | (refine SeqS.k2 (v := ?_) ?_ ?_; rotate_left; focus (intro w' hb'; go_simp; with_reducible rfl))
        | (refine SeqS.k2 (v := ?_) ?_ ?_; rotate_left; focus (intro w' hb'; have d0 := d7; go_simp; with_reducible rfl))
        | (refine SeqS.u2 ?_)); simp only [Act.put, List.setIfInBounds_toArray, List.set_cons_zero, List.set_cons_succ])
      refine SeqS.done (by decide +kernel) ?_
      have xb1 := p1.keep S7 p1.lt
      have xb3 := p3.keep S7 p3.lt
      have xB := pB.trans (S7.mono pB.size)
      clear p1 p3 q9 hD1 hU h8c h6r k7b S7
      go_wp2_with ((with_reducible refine wpList_load_blk rfl 37 (.tmp 3) rfl ?_ xb1 rowDd hl ?_); rfl; refine RowKit.Hid.out ?_)
      refine Lib.hid ?_
      refine store_row rfl 37 (.tmp 6) _ rfl rfl rfl xb3 rowDd hl hzl ho ?_
      intro w15 hb15 hg15
      have hB15 := xB.grown hg15 xB.size (fun q hq => by injection hq with hq; rw [← hq, ← hGH.out]; omega)
      clear xb1 xb3 hg15
      go_wp2
      refine bodyPost_ret (results_bt18 rfl rfl hb15 hrow) rfl ?_
      exact ⟨rfl, hB15⟩

    · refine ⟨[_], _, [_, _, _, _], rfl, by rfl, fun K1 hK => ?_⟩
      go_simp
      (try rw [hfold])
      have T2 : Below V6.heap.size V6 (w1.alloc (.cells sc.toArray 75)) := T1.alloc T1.size _
      have k49 := Blk.new w1 75 sc
      have own41 := own_stayN own41 (below1 w1 (.cells sc.toArray 75))
      refine hK _ _ (T2.mono (Nat.le_of_lt zg)) ?_
      clear hK K1
      obtain ⟨B49, hB49⟩ : ∃ B49, w1.heap.size = B49 := ⟨_, rfl⟩
      rw [hB49] at k49 ⊢
      obtain ⟨w2, hw2⟩ : ∃ w, w1.alloc (.cells sc.toArray 75) = w := ⟨_, rfl⟩
      rw [hw2] at T2 k49 own41 ⊢
      clear hw2
      have lC := k49.lt
      (try simp only [Act.put, List.setIfInBounds_toArray, List.set_cons_zero, List.set_cons_succ])
      refine SeqS.alone (by decide +kernel) (by rfl) (fun K1 hK => ?_)
      refine wp_append_row (.tmp 41) (.tmp 46) 32 rfl M6 75 i9 _ 3 40 Tryz.underlying32 hi9 hz0 hz1 hz2 rfl (by decide) rfl own41 rfl hLl (hrLH.out w2 (T2.mono (Nat.le_of_lt zg))) hL1 ?_ ?_ (by rw [← hM6H.out]; exact T2.size) ?_
      · unfold maxLen; omega
      · omega
      intro v47 w3 own47 g47
      have T3 : Below V6.heap.size V6 w3 := T2.grown g47 T2.size (fun q hq => by rw [hM6H.out]; exact (own41.lt q hq).1)
      have k49 := k49.grown g47 (fun e => by injection e with e; have e9 : B49 = B41 := e; omega)
      refine hK _ _ (T3.mono (Nat.le_of_lt zg)) ?_
      clear hK K1
      rw [Nat.zero_add, List.nil_append] at own47
      have hex : ∃ a47 c47, v47 = .slice a47 N c47 := own_sliceN own47
      obtain ⟨a47, c47, hv47⟩ := hex
      subst hv47
      clear g47 own41
      (try simp only [Act.put, List.setIfInBounds_toArray, List.set_cons_zero, List.set_cons_succ])
      refine SeqS.alone (by decide +kernel) (by rfl) (fun K1 hK => ?_)
      refine wp_append_row (.tmp 47) (.tmp 49) 32 rfl M6 75 i9 _ 3 40 Tryz.underlying32 hi9 hz0 hz1 hz2 rfl (by decide) rfl own47 rfl (m := 1) (news := sc) hscl (.inr ⟨_, rfl, fun j u hu => cell_of_blk k49 j u hu⟩) hsc1 ?_ ?_ (by rw [← hM6H.out]; exact T3.size) ?_
      · unfold maxLen; omega
      · omega
      intro v50 w10 own50 g50
      have T10 : Below V6.heap.size V6 w10 := T3.grown g50 T3.size (fun q hq => by rw [hM6H.out]; exact (own47.lt q hq).1)
      refine hK _ _ (T10.mono (Nat.le_of_lt zg)) ?_
      clear hK K1
      (try simp only [Act.put, List.setIfInBounds_toArray, List.set_cons_zero, List.set_cons_succ])
      have hex : ∃ a50 c50, v50 = .slice a50 (N + 1) c50 := own_sliceN own50
      obtain ⟨a50, c50, hv50⟩ := hex
      subst hv50
      have q8 := zb8.keep T10 zg
      have e81 := q8.cell (i * 2 + 1)
      rw [hsl] at e81
      have f81 := q8.frozen (i * 2 + 1)
      have q9 := q8.set (i * 2 + 1) (.slice a50 (N + 1) c50)
      have S11 : Below G8 V6 (w10.setCell ⟨G8, i * 2 + 1, none⟩ (.slice a50 (N + 1) c50)) := (T10.mono (Nat.le_of_lt zg)).setCell (p := ⟨G8, i * 2 + 1, none⟩) (Nat.le_refl _) _
      have own51 := own_sameN own50 (w' := w10.setCell ⟨G8, i * 2 + 1, none⟩ (.slice a50 (N + 1) c50)) (fun q hq => (grown_setCell w10 G8 (i * 2 + 1) (.slice a50 (N + 1) c50)).block q (own50.lt q hq).2 (fun e => by injection e with e; have := (own50.lt q hq).1; have := hM6H.out; omega))
      have S10 : Below G8 V6 w10 := T10.mono (Nat.le_of_lt zg)
      clear g50 own47 k49 T3 q8 own50 T10
      repeat ((first
        | (refine SeqS.k0 (v := ?_) ?_ ?_; rotate_left; focus (intro w' hb'; go_simp; with_reducible rfl))
        | (refine SeqS.u0 ?_)
        | (refine SeqS.k1 (v := ?_) ?_ ?_; rotate_left; focus (intro w' hb'; go_simp; with_reducible rfl))
        | (refine SeqS.u1 ?_)
        | (refine SeqS.k2 (v := ?_) ?_ ?_; rotate_left; focus (intro w' hb'; go_simp; with_reducible rfl))
        | (refine SeqS.u2 ?_)); simp only [Act.put, List.setIfInBounds_toArray, List.set_cons_zero, List.set_cons_succ])
      refine SeqS.alone (by decide +kernel) (by rfl) (fun K1 hK => ?_)
      go_simp
      refine hK _ _ S11 ?_
      clear hK K1
      refine SeqS.done (by decide +kernel) ?_
      clear e81 f81
      obtain ⟨w11, hw11⟩ : ∃ w, w10.setCell ⟨G8, i * 2 + 1, none⟩ (.slice a50 (N + 1) c50) = w := ⟨_, rfl⟩
      rw [hw11] at q9 S11 own51 ⊢
      clear hw11
      have p1 := zb1.keep S11 (by omega)
      have p3 := zb3.keep S11 (by omega)
      have pB := zBH.out.trans (S11.mono (show w.heap.size ≤ G8 by have := hGH.out; omega))
      have hD1 := hmake w11 a50 c50 pB M6 own51
      clear own51 S11
      obtain ⟨cs1, hcs1⟩ : ∃ c, cs.set (i * 2 + 1) (.slice a50 (N + 1) c50) = c := ⟨_, rfl⟩
      rw [hcs1] at q9 hD1
      have hl1 : cs1.length = 9 := by rw [← hcs1, List.length_set]; exact hl
      have row1 : IsRow Tryz.prog 37 cs1.length := by rw [hl1]; exact rowDd
      obtain ⟨V7, hV7⟩ : ∃ V, w11.drew = V := ⟨_, rfl⟩
      have p1 : Blk V7 G 37 cs := by rw [← hV7]; exact p1
      have p3 : Blk V7 (G + 2) 37 zs := by rw [← hV7]; exact p3
      have q9 : Blk V7 G8 37 cs1 := by rw [← hV7]; exact q9
      have pB : Below w.heap.size w V7 := by rw [← hV7]; exact pB.drew
      have hD1 : RDisk (fun b => R b ∨ M6 ≤ b) V7 cs1 D1 := by rw [← hV7]; exact hD1.keep (Below.drew (Below.refl _ _))
      have hU := Lib.hid (fun w' (q : Below V7.heap.size V7 w') => fUsed_any (hD1.keep q) o0 o1 o2)
      have h8c := Lib.hid (fun w' (q : Below V7.heap.size V7 w') => q9.keep q q9.lt)
      have h6r := Lib.hid (fun (w' : World) (q : Below V7.heap.size V7 w') => (show w'.cell? ⟨G, 6, none⟩ = some (.int .i64 D.room) by rw [q.cell (p := ⟨G, 6, none⟩) p1.lt, p1.cell 6]; exact h6))
      have k7b : Below V7.heap.size V7 V7 := Below.refl _ _
      clear hcs1
      go_wp2_with fail
      refine region_seqS (fun w' => Below V7.heap.size V7 w') (by kernel_rfl) (by rw [hV7]; exact k7b) ?_
      simp only [pairs, Nat.reduceAdd]
      rw [hV7]
      clear hV7
      repeat ((first
        | (refine SeqS.y0 (v := .agg (cs1).toArray) (yields_blk (by rfl) 37 (.tmp 8) rfl rfl (fun w' h => h8c.out w' h) (row1)) ?_)
        | (refine SeqS.k0 (v := ?_) ?_ ?_; rotate_left; focus (intro w' hb'; go_simp; with_reducible rfl))
        | (refine SeqS.k0 (v := ?_) ?_ ?_; rotate_left; focus (intro w' hb'; have d0 := h6r.out w' hb'; go_simp; with_reducible rfl))
        | (refine SeqS.u0 ?_)
        | (refine SeqS.y1 (v := .agg (cs1).toArray) (yields_blk (by rfl) 37 (.tmp 8) rfl rfl (fun w' h => h8c.out w' h) (row1)) ?_)
        | (refine SeqS.k1 (v := ?_) ?_ ?_; rotate_left; focus (intro w' hb'; go_simp; with_reducible rfl))
        | (refine SeqS.k1 (v := ?_) ?_ ?_; rotate_left; focus (intro w' hb'; have d0 := h6r.out w' hb'; go_simp; with_reducible rfl))
        | (refine SeqS.u1 ?_)
        | (refine SeqS.y2 (v := .agg (cs1).toArray) (yields_blk (by rfl) 37 (.tmp 8) rfl rfl (fun w' h => h8c.out w' h) (row1)) ?_)
        | (refine SeqS.k2 (v := ?_) ?_ ?_; rotate_left; focus (intro w' hb'; go_simp; with_reducible rfl))
        | (refine SeqS.k2 (v := ?_) ?_ ?_; rotate_left; focus (intro w' hb'; have d0 := h6r.out w' hb'; go_simp; with_reducible rfl))
        | (refine SeqS.u2 ?_)); simp only [Act.put, List.setIfInBounds_toArray, List.set_cons_zero, List.set_cons_succ])
      refine SeqS.alone (by decide +kernel) (by rfl) (fun K hK => ?_)
      go_simp
      go_at_call 47
      refine (hU.out _ k7b).mono ?_
      rintro e w7 ⟨rfl, b7⟩
      go_simp
      have S7 : Below V7.heap.size V7 w7 := k7b.trans (b7.mono k7b.size)
      refine hK _ _ S7 ?_
      clear hK K
      repeat ((first
        | (refine SeqS.k0 (v := ?_) ?_ ?_; rotate_left; focus (intro w' hb'; go_simp; with_reducible rfl))
        | (refine SeqS.k0 (v := ?_) ?_ ?_; rotate_left; focus (intro w' hb'; have d0 := d7; go_simp; with_reducible rfl))
        | (refine SeqS.u0 ?_)
        | (refine SeqS.k1 (v := ?_) ?_ ?_; rotate_left; focus (intro w' hb'; go_simp; with_reducible rfl))
        | (refine SeqS.k1 (v := ?_) ?_ ?_; rotate_left; focus (intro w' hb'; have d0 := d7; go_simp; with_reducible rfl))
        | (refine SeqS.u1 ?_)
        | (refine SeqS.k2 (v := ?_) ?_ ?_; rotate_left; focus (intro w' hb'; go_simp; with_reducible rfl))
        | (refine SeqS.k2 (v := ?_) ?_ ?_; rotate_left; focus (intro w' hb'; have d0 := d7; go_simp; with_reducible rfl))
        | (refine SeqS.u2 ?_)); simp only [Act.put, List.setIfInBounds_toArray, List.set_cons_zero, List.set_cons_succ])
      refine SeqS.done (by decide +kernel) ?_
      have xb1 := p1.keep S7 p1.lt
      have xb3 := p3.keep S7 p3.lt
      have xB := pB.trans (S7.mono pB.size)
      clear p1 p3 q9 hD1 hU h8c h6r k7b S7
      go_wp2_with ((with_reducible refine wpList_load_blk rfl 37 (.tmp 3) rfl ?_ xb1 rowDd hl ?_); rfl; refine RowKit.Hid.out ?_)
      refine Lib.hid ?_
      refine store_row rfl 37 (.tmp 6) _ rfl rfl rfl xb3 rowDd hl hzl ho ?_
      intro w15 hb15 hg15
      have hB15 := xB.grown hg15 xB.size (fun q hq => by injection hq with hq; rw [← hq, ← hGH.out]; omega)
      clear xb1 xb3 hg15
      go_wp2
      refine bodyPost_ret (results_bt18 rfl rfl hb15 hrow) rfl ?_
      exact ⟨rfl, hB15⟩

  · refine ⟨[_, _], _, [_, _, _, _], rfl, by rfl, fun K1 hK => ?_⟩
    go_simp
    (try rw [hfold])
    have T1 : Below V6.heap.size V6 (V6.alloc (.cells sc.toArray 75)) := T0.alloc T0.size _
    have k49 := Blk.new V6 75 sc
    refine hK _ _ (T1.mono (Nat.le_of_lt zg)) ?_
    clear hK K1
    obtain ⟨B49, hB49⟩ : ∃ B49, V6.heap.size = B49 := ⟨_, rfl⟩
    rw [hB49] at k49 ⊢
    obtain ⟨w1, hw1⟩ : ∃ w, V6.alloc (.cells sc.toArray 75) = w := ⟨_, rfl⟩
    rw [hw1] at T1 k49 ⊢
    clear hw1
    have lC := k49.lt
    (try simp only [Act.put, List.setIfInBounds_toArray, List.set_cons_zero, List.set_cons_succ])
    refine SeqS.alone (by decide +kernel) (by rfl) (fun K1 hK => ?_)
    go_simp
    have T2 : Below V6.heap.size V6 (w1.alloc (.cells #[] 75)) := T1.alloc T1.size _
    have own41 : (w1.alloc (.cells #[] 75)).ownsRow M6 75 3 (.slice (some ⟨w1.heap.size, 0, none⟩) 0 0) 0 [] := own_weakN (World.ownsRow_made w1 #[] 0 (Nat.le_refl _) (Nat.zero_le _) rfl) (by rw [← hM6H.out]; exact T1.size)
    have k49 := k49.alloc (.cells #[] 75)
    refine hK _ _ (T2.mono (Nat.le_of_lt zg)) ?_
    clear hK K1
    obtain ⟨B41, hB41⟩ : ∃ B41, w1.heap.size = B41 := ⟨_, rfl⟩
    rw [hB41] at own41 ⊢
    obtain ⟨w2, hw2⟩ : ∃ w, w1.alloc (.cells #[] 75) = w := ⟨_, rfl⟩
    rw [hw2] at T2 own41 k49 ⊢
    clear hw2
    have lA := (own41.lt B41 rfl).2
    (try simp only [Act.put, List.setIfInBounds_toArray, List.set_cons_zero, List.set_cons_succ])
    refine SeqS.alone (by decide +kernel) (by rfl) (fun K1 hK => ?_)
    refine wp_append_row (.tmp 41) (.tmp 46) 32 rfl M6 75 i9 _ 3 40 Tryz.underlying32 hi9 hz0 hz1 hz2 rfl (by decide) rfl own41 rfl hLl (hrLH.out w2 (T2.mono (Nat.le_of_lt zg))) hL1 ?_ ?_ (by rw [← hM6H.out]; exact T2.size) ?_
    · unfold maxLen; omega
    · omega
    intro v47 w3 own47 g47
    have T3 : Below V6.heap.size V6 w3 := T2.grown g47 T2.size (fun q hq => by rw [hM6H.out]; exact (own41.lt q hq).1)
    have k49 := k49.grown g47 (fun e => by injection e with e; have e9 : B49 = B41 := e; omega)
    refine hK _ _ (T3.mono (Nat.le_of_lt zg)) ?_
    clear hK K1
    rw [Nat.zero_add, List.nil_append] at own47
    have hex : ∃ a47 c47, v47 = .slice a47 N c47 := own_sliceN own47
    obtain ⟨a47, c47, hv47⟩ := hex
    subst hv47
    clear g47 own41
    (try simp only [Act.put, List.setIfInBounds_toArray, List.set_cons_zero, List.set_cons_succ])
    refine SeqS.alone (by decide +kernel) (by rfl) (fun K1 hK => ?_)
    refine wp_append_row (.tmp 47) (.tmp 49) 32 rfl M6 75 i9 _ 3 40 Tryz.underlying32 hi9 hz0 hz1 hz2 rfl (by decide) rfl own47 rfl (m := 1) (news := sc) hscl (.inr ⟨_, rfl, fun j u hu => cell_of_blk k49 j u hu⟩) hsc1 ?_ ?_ (by rw [← hM6H.out]; exact T3.size) ?_
    · unfold maxLen; omega
    · omega
    intro v50 w10 own50 g50
    have T10 : Below V6.heap.size V6 w10 := T3.grown g50 T3.size (fun q hq => by rw [hM6H.out]; exact (own47.lt q hq).1)
    refine hK _ _ (T10.mono (Nat.le_of_lt zg)) ?_
    clear hK K1
    (try simp only [Act.put, List.setIfInBounds_toArray, List.set_cons_zero, List.set_cons_succ])
    have hex : ∃ a50 c50, v50 = .slice a50 (N + 1) c50 := own_sliceN own50
    obtain ⟨a50, c50, hv50⟩ := hex
    subst hv50
    have q8 := zb8.keep T10 zg
    have e81 := q8.cell (i * 2 + 1)
    rw [hsl] at e81
    have f81 := q8.frozen (i * 2 + 1)
    have q9 := q8.set (i * 2 + 1) (.slice a50 (N + 1) c50)
    have S11 : Below G8 V6 (w10.setCell ⟨G8, i * 2 + 1, none⟩ (.slice a50 (N + 1) c50)) := (T10.mono (Nat.le_of_lt zg)).setCell (p := ⟨G8, i * 2 + 1, none⟩) (Nat.le_refl _) _
    have own51 := own_sameN own50 (w' := w10.setCell ⟨G8, i * 2 + 1, none⟩ (.slice a50 (N + 1) c50)) (fun q hq => (grown_setCell w10 G8 (i * 2 + 1) (.slice a50 (N + 1) c50)).block q (own50.lt q hq).2 (fun e => by injection e with e; have := (own50.lt q hq).1; have := hM6H.out; omega))
    have S10 : Below G8 V6 w10 := T10.mono (Nat.le_of_lt zg)
    clear g50 own47 k49 T3 q8 own50 T10
    repeat ((first
      | (refine SeqS.k0 (v := ?_) ?_ ?_; rotate_left; focus (intro w' hb'; go_simp; with_reducible rfl))
      | (refine SeqS.u0 ?_)
      | (refine SeqS.k1 (v := ?_) ?_ ?_; rotate_left; focus (intro w' hb'; go_simp; with_reducible rfl))
      | (refine SeqS.u1 ?_)
      | (refine SeqS.k2 (v := ?_) ?_ ?_; rotate_left; focus (intro w' hb'; go_simp; with_reducible rfl))
      | (refine SeqS.u2 ?_)); simp only [Act.put, List.setIfInBounds_toArray, List.set_cons_zero, List.set_cons_succ])
    refine SeqS.alone (by decide +kernel) (by rfl) (fun K1 hK => ?_)
    go_simp
    refine hK _ _ S11 ?_
    clear hK K1
    refine SeqS.done (by decide +kernel) ?_
    clear e81 f81
    obtain ⟨w11, hw11⟩ : ∃ w, w10.setCell ⟨G8, i * 2 + 1, none⟩ (.slice a50 (N + 1) c50) = w := ⟨_, rfl⟩
    rw [hw11] at q9 S11 own51 ⊢
    clear hw11
    have p1 := zb1.keep S11 (by omega)
    have p3 := zb3.keep S11 (by omega)
    have pB := zBH.out.trans (S11.mono (show w.heap.size ≤ G8 by have := hGH.out; omega))
    have hD1 := hmake w11 a50 c50 pB M6 own51
    clear own51 S11
    obtain ⟨cs1, hcs1⟩ : ∃ c, cs.set (i * 2 + 1) (.slice a50 (N + 1) c50) = c := ⟨_, rfl⟩
    rw [hcs1] at q9 hD1
    have hl1 : cs1.length = 9 := by rw [← hcs1, List.length_set]; exact hl
    have row1 : IsRow Tryz.prog 37 cs1.length := by rw [hl1]; exact rowDd
    obtain ⟨V7, hV7⟩ : ∃ V, w11.drew = V := ⟨_, rfl⟩
    have p1 : Blk V7 G 37 cs := by rw [← hV7]; exact p1
    have p3 : Blk V7 (G + 2) 37 zs := by rw [← hV7]; exact p3
    have q9 : Blk V7 G8 37 cs1 := by rw [← hV7]; exact q9
    have pB : Below w.heap.size w V7 := by rw [← hV7]; exact pB.drew
    have hD1 : RDisk (fun b => R b ∨ M6 ≤ b) V7 cs1 D1 := by rw [← hV7]; exact hD1.keep (Below.drew (Below.refl _ _))
    have hU := Lib.hid (fun w' (q : Below V7.heap.size V7 w') => fUsed_any (hD1.keep q) o0 o1 o2)
    have h8c := Lib.hid (fun w' (q : Below V7.heap.size V7 w') => q9.keep q q9.lt)
    have h6r := Lib.hid (fun (w' : World) (q : Below V7.heap.size V7 w') => (show w'.cell? ⟨G, 6, none⟩ = some (.int .i64 D.room) by rw [q.cell (p := ⟨G, 6, none⟩) p1.lt, p1.cell 6]; exact h6))
    have k7b : Below V7.heap.size V7 V7 := Below.refl _ _
    clear hcs1
    go_wp2_with fail
    refine region_seqS (fun w' => Below V7.heap.size V7 w') (by kernel_rfl) (by rw [hV7]; exact k7b) ?_
    simp only [pairs, Nat.reduceAdd]
    rw [hV7]
    clear hV7
    repeat ((first
      | (refine SeqS.y0 (v := .agg (cs1).toArray) (yields_blk (by rfl) 37 (.tmp 8) rfl rfl (fun w' h => h8c.out w' h) (row1)) ?_)
      | (refine SeqS.k0 (v := ?_) ?_ ?_; rotate_left; focus (intro w' hb'; go_simp; with_reducible rfl))
      | (refine SeqS.k0 (v := ?_) ?_ ?_; rotate_left; focus (intro w' hb'; have d0 := h6r.out w' hb'; go_simp; with_reducible rfl))
      | (refine SeqS.u0 ?_)
      | (refine SeqS.y1 (v := .agg (cs1).toArray) (yields_blk (by rfl) 37 (.tmp 8) rfl rfl (fun w' h => h8c.out w' h) (row1)) ?_)
      | (refine SeqS.k1 (v := ?_) ?_ ?_; rotate_left; focus (intro w' hb'; go_simp; with_reducible rfl))
      | (refine SeqS.k1 (v := ?_) ?_ ?_; rotate_left; focus (intro w' hb'; have d0 := h6r.out w' hb'; go_simp; with_reducible rfl))
      | (refine SeqS.u1 ?_)
      | (refine SeqS.y2 (v := .agg (cs1).toArray) (yields_blk (by rfl) 37 (.tmp 8) rfl rfl (fun w' h => h8c.out w' h) (row1)) ?_)
      | (refine SeqS.k2 (v := ?_) ?_ ?_; rotate_left; focus (intro w' hb'; go_simp; with_reducible rfl))
      | (refine SeqS.k2 (v := ?_) ?_ ?_; rotate_left; focus (intro w' hb'; have d0 := h6r.out w' hb'; go_simp; with_reducible rfl))
      | (refine SeqS.u2 ?_)); simp only [Act.put, List.setIfInBounds_toArray, List.set_cons_zero, List.set_cons_succ])
    refine SeqS.alone (by decide +kernel) (by rfl) (fun K hK => ?_)
    go_simp
    go_at_call 47
    refine (hU.out _ k7b).mono ?_
    rintro e w7 ⟨rfl, b7⟩
    go_simp
    have S7 : Below V7.heap.size V7 w7 := k7b.trans (b7.mono k7b.size)
    refine hK _ _ S7 ?_
    clear hK K
    repeat ((first
      | (refine SeqS.k0 (v := ?_) ?_ ?_; rotate_left; focus (intro w' hb'; go_simp; with_reducible rfl))
      | (refine SeqS.k0 (v := ?_) ?_ ?_; rotate_left; focus (intro w' hb'; have d0 := d7; go_simp; with_reducible rfl))
      | (refine SeqS.u0 ?_)
      | (refine SeqS.k1 (v := ?_) ?_ ?_; rotate_left; focus (intro w' hb'; go_simp; with_reducible rfl))
      | (refine SeqS.k1 (v := ?_) ?_ ?_; rotate_left; focus (intro w' hb'; have d0 := d7; go_simp; with_reducible rfl))
      | (refine SeqS.u1 ?_)
      | (refine SeqS.k2 (v := ?_) ?_ ?_; rotate_left; focus (intro w' hb'; go_simp; with_reducible rfl))
      | (refine SeqS.k2 (v := ?_) ?_ ?_; rotate_left; focus (intro w' hb'; have d0 := d7; go_simp; with_reducible rfl))
      | (refine SeqS.u2 ?_)); simp only [Act.put, List.setIfInBounds_toArray, List.set_cons_zero, List.set_cons_succ])
    refine SeqS.done (by decide +kernel) ?_
    have xb1 := p1.keep S7 p1.lt
    have xb3 := p3.keep S7 p3.lt
    have xB := pB.trans (S7.mono pB.size)
    clear p1 p3 q9 hD1 hU h8c h6r k7b S7
    go_wp2_with ((with_reducible refine wpList_load_blk rfl 37 (.tmp 3) rfl ?_ xb1 rowDd hl ?_); rfl; refine RowKit.Hid.out ?_)
    refine Lib.hid ?_
    refine store_row rfl 37 (.tmp 6) _ rfl rfl rfl xb3 rowDd hl hzl ho ?_
    intro w15 hb15 hg15
    have hB15 := xB.grown hg15 xB.size (fun q hq => by injection hq with hq; rw [← hq, ← hGH.out]; omega)
    clear xb1 xb3 hg15
    go_wp2
    refine bodyPost_ret (results_bt18 rfl rfl hb15 hrow) rfl ?_
    exact ⟨rfl, hB15⟩

end Go.Proofs.YtcohbhimhacedaaGreatDoor

/-
  Texts of stages that were proved on their own, joined: DfDoC, DfDoD. Each begins with its own words.
-/
import Derived.Test.YtcohbhimhacedaaGreatDoorSeqK
import Derived.Test.YtcohbhimhacedaaGreatDoorJSzAll12
import Derived.Test.YtcohbhimhacedaaGreatDoorSteps

/-
  The document's own Do of bytes (layer 18), where it is done. New memory alone is written. Conditions: files of at most 2^47 bytes and some, 2^41 steps.
-/
namespace Go.Proofs.YtcohbhimhacedaaGreatDoor
open Go.RowKit

set_option maxRecDepth 100000 in
set_option maxHeartbeats 2000000 in
theorem fDoPut_ok {R : Nat → Prop} {w : World} {cs sc : List Value} {D : DkV} {A : Option Addr} {C i : Nat} {xs : List Int} (h2 : RDisk R w cs D) (hi : i < 3) (hd : D.down = false) (hsc : stC (.put xs) A C = sc) (hst : RStep R w (stC (.put xs) A C) (.put xs)) (hlS : (D.f i).S.length ≤ 3518437208882)
    (o0 : FOk (D.set i ((D.f i).step (.put xs))).f0) (o1 : FOk (D.set i ((D.f i).step (.put xs))).f1) (o2 : FOk (D.set i ((D.f i).step (.put xs))).f2) (hfu : 0 ≤ (D.set i ((D.f i).step (.put xs))).fuse ∧ (D.set i ((D.f i).step (.put xs))).fuse < 9223372036854775808) (hRl : ∀ b, R b → b < w.heap.size) (hroom : ¬ D.room < ((D.set i ((D.f i).step (.put xs))).used : Int)) :
    Calls Tryz.prog 22 #[.agg cs.toArray, .int .i64 (i : Int), .agg sc.toArray] w fun q w' => ∃ cs', q = .returned (.tuple #[.agg cs'.toArray, .int .i64 (D.set i ((D.f i).step (.put xs))).burn.ans]) ∧ RDisk (fun b => R b ∨ w.heap.size ≤ b) w' cs' (D.set i ((D.f i).step (.put xs))).burn ∧ Below w.heap.size w w' := by
  obtain ⟨i9, hi9, hz0, hz1, hz2⟩ := info_rst
  have h := h2.ddc
  rw [hd] at h
  have hl := h.l
  have ho := h.o
  have h6 := h.r
  have h8 := h.d
  have hrow : IsRow Tryz.prog 37 cs.length := by rw [hl]; exact rowDd
  clear h
  obtain ⟨zs, hzs⟩ : ∃ zs, ddZ = zs := ⟨_, rfl⟩
  have hz := zeroDd
  have hzl := ddZ_len
  rw [hzs] at hz hzl
  have hscl : sc.length = 3 := by rw [← hsc]; exact stC_len _ _ _
  have hscH := Lib.hid hsc
  clear hsc
  have rowsc : IsRow Tryz.prog 75 sc.length := by rw [hscl]; exact rowRs
  have hsc1 : ∀ u ∈ sc, u.oneCell' = true := by rw [← hscH.out]; exact stC_one _ _ _
  have hfold := fold_step hscl
  obtain ⟨ka, kcc, sa, kc, hcell, hKI, hKR, hSt⟩ := h2.fl i hi
  have hsl0 := hcell 1 _ rfl
  obtain ⟨L, hL, hLa⟩ := hSt.cells
  obtain ⟨N, hN⟩ : ∃ N, (D.f i).S.length = N := ⟨_, rfl⟩
  rw [hN] at hlS
  have hLr : ∀ w', Below w.heap.size w w' → N = 0 ∨ ∃ ad, sa = some ad ∧ ∀ j u, L[j]? = some u → w'.cell? (ad.add j) = some u := fun w' q => by
    rcases hLa with h0 | ⟨b, off, ha, hr⟩
    · exact .inl (by omega)
    · refine .inr ⟨_, ha, fun j u hu => ?_⟩
      have h9 := hr j u hu
      have hadd : (⟨b, off, none⟩ : Addr).add j = ⟨b, off + j, none⟩ := by unfold Addr.add; simp
      rw [hadd, q.cell (World.block_lt_of_cell? w _ h9)]
      exact h9
  have hLl : L.length = N * 3 := by rw [hL.len, hN]
  have hL1 := hL.one
  have hsl : cs[i * 2 + 1]? = some (.slice sa N kc) := by rw [hsl0, hN]
  have hmake := fun w' a' c' hB B ho => do_make (w' := w') (a' := a') (c' := c') (B := B) h2 i hi hL hst hscH.out hN hB ho
  have hNH := Lib.hid hN
  obtain ⟨D1, hDe⟩ : ∃ D1, D.set i ((D.f i).step (.put xs)) = D1 := ⟨_, rfl⟩
  rw [hDe] at o0 o1 o2 hroom hfu
  rw [hDe] at hmake ⊢
  clear hDe
  obtain ⟨E, hE⟩ : ∃ E, D1.burn.ans = E := ⟨_, rfl⟩
  rw [hE]
  have hEH := Lib.hid hE
  clear hE
  have d7 : decide (D.room < (D1.used : Int)) = false := decide_eq_false hroom
  clear hsl0 hN hLa hcell hKI hKR hSt hL hst
  have hb1 := (Blk.new w 37 cs).alloc (.cells sc.toArray 75)
  have hb1 := hb1.alloc (.cells zs.toArray 37)
  have hb2 : Blk ((w.alloc (.cells cs.toArray 37)).alloc (.cells sc.toArray 75)) (w.heap.size + 1) 75 sc := Blk.new1 w _ _ sc
  have hb2 := hb2.alloc (.cells zs.toArray 37)
  have hb3 := Blk.new ((w.alloc (.cells cs.toArray 37)).alloc (.cells sc.toArray 75)) 37 zs
  rw [size2] at hb3
  have hB3 := below3 w (.cells cs.toArray 37) (.cells sc.toArray 75) (.cells zs.toArray 37)
  obtain ⟨W, hW⟩ : ∃ W, ((w.alloc (.cells cs.toArray 37)).alloc (.cells sc.toArray 75)).alloc (.cells zs.toArray 37) = W := ⟨_, rfl⟩
  rw [hW] at hb1 hb2 hb3 hB3
  obtain ⟨G, hG⟩ : ∃ G, w.heap.size = G := ⟨_, rfl⟩
  rw [hG] at hb1 hb2 hb3
  have hWH := Lib.hid hW
  have hGH := Lib.hid hG
  obtain ⟨V, hV⟩ : ∃ V, W.drew = V := ⟨_, rfl⟩
  have kb1 : Blk V G 37 cs := by rw [← hV]; exact hb1
  have kb2 : Blk V (G + 1) 75 sc := by rw [← hV]; exact hb2
  have kb3 : Blk V (G + 2) 37 zs := by rw [← hV]; exact hb3
  have kB : Below w.heap.size w V := by rw [← hV]; exact hB3.drew
  have hBH := Lib.hid kB
  have hVH := Lib.hid hV
  have bV : Below V.heap.size V V := Below.refl _ _
  clear hW hG hB3 hzs hV hb1 hb2 hb3
  have hs0 := Lib.hid (fun (w' : World) (q : Below V.heap.size V w') => (show w'.cell? ⟨G + 1, 0, none⟩ = some (.bool false) by rw [q.cell (p := ⟨G + 1, 0, none⟩) kb2.lt, kb2.cell 0, ← hscH.out]; rfl))
  have d1 : decide ((i : Int) < 0) = false := decide_eq_false (by omega)
  have d2 : decide ((2 : Int) < (i : Int)) = false := decide_eq_false (by omega)
  have hi3 : (i : Int) < 3 := by omega
  go_enter Tryz.func22, Tryz.ntmps22
  go_wp2_with ((with_reducible refine box_row rfl 37 (.tmp 0) rfl cs rfl ?_); refine RowKit.Hid.out ?_)
  refine Lib.hid ?_
  refine box_row rfl 75 (.tmp 2) rfl sc rfl ?_
  refine wpList_alloc_blk rfl 37 rfl hz ?_
  rw [hWH.out, size2, size1, hGH.out]
  go_wp2_with fail
  refine region_seqS (fun w' => Below V.heap.size V w') (by kernel_rfl) (by rw [hVH.out]; exact bV) ?_
  simp only [pairs, Nat.reduceAdd]
  rw [hVH.out]
  repeat ((first
    | (refine SeqS.k0 (v := ?_) ?_ ?_; rotate_left; focus (intro w' hb'; go_simp; with_reducible rfl))
    | (refine SeqS.k0 (v := ?_) ?_ ?_; rotate_left; focus (intro w' hb'; have d0 := hs0.out w' hb'; go_simp; with_reducible rfl))
    | (refine SeqS.u0 ?_)
    | (refine SeqS.k1 (v := ?_) ?_ ?_; rotate_left; focus (intro w' hb'; go_simp; with_reducible rfl))
    | (refine SeqS.k1 (v := ?_) ?_ ?_; rotate_left; focus (intro w' hb'; have d0 := hs0.out w' hb'; go_simp; with_reducible rfl))
    | (refine SeqS.u1 ?_)
    | (refine SeqS.k2 (v := ?_) ?_ ?_; rotate_left; focus (intro w' hb'; go_simp; with_reducible rfl))
    | (refine SeqS.k2 (v := ?_) ?_ ?_; rotate_left; focus (intro w' hb'; have d0 := hs0.out w' hb'; go_simp; with_reducible rfl))
    | (refine SeqS.u2 ?_)); simp only [Act.put, List.setIfInBounds_toArray, List.set_cons_zero, List.set_cons_succ])
  refine SeqS.done (by decide +kernel) ?_
  clear hs0 d1 d2
  obtain ⟨X, hX⟩ : ∃ X, V = X := ⟨_, rfl⟩
  have xb1 := kb1
  have xb2 := kb2
  have xb3 := kb3
  rw [hX] at xb1 xb2 xb3 ⊢
  have xB : RowKit.Hid (Below w.heap.size w X) := Lib.hid (by have := hBH.out; rw [hX] at this; exact this)
  clear kb1 kb2 kb3 hX bV
  have e8 := xb1.cell 8
  rw [h8] at e8
  go_wp2_with ((with_reducible refine wpList_load_blk rfl 37 (.tmp 3) rfl ?_ xb1 rowDd hl ?_); rfl; refine RowKit.Hid.out ?_)
  refine Lib.hid ?_
  refine wpList_alloc_blk rfl 37 rfl hz ?_
  have yn := Blk.new X 37 zs
  have yBX := below1 X (.cells zs.toArray 37)
  have y1 := xb1.alloc (.cells zs.toArray 37)
  have y2 := xb2.alloc (.cells zs.toArray 37)
  have y3 := xb3.alloc (.cells zs.toArray 37)
  have l3 := xb3.lt
  obtain ⟨G8, hG8⟩ : ∃ G8, X.heap.size = G8 := ⟨_, rfl⟩
  obtain ⟨Y, hY⟩ : ∃ Y, X.alloc (.cells zs.toArray 37) = Y := ⟨_, rfl⟩
  rw [hY] at yn yBX y1 y2 y3 ⊢
  rw [hG8] at yn yBX l3 ⊢
  refine store_row rfl 37 (.tmp 8) (.tmp 39) rfl rfl rfl yn rowDd hl hzl ho ?_
  intro w5 yb8 yg8
  have yb1 := y1.grown yg8 (fun e => by injection e; omega)
  have yb2 := y2.grown yg8 (fun e => by injection e; omega)
  have yb3 := y3.grown yg8 (fun e => by injection e; omega)
  have yB0 : Below w.heap.size w w5 := (xB.out.trans ((hG8 ▸ yBX).mono xB.out.size)).grown yg8 (by have := xB.out.size; have := yBX.size; omega) (fun q hq => by injection hq with hq; rw [← hq, ← hG8]; exact xB.out.size)
  clear yn yBX y1 y2 y3 hY hG8 yg8 xb1 xb2 xb3 xB
  go_wp2_with fail
  obtain ⟨V6, hV6⟩ : ∃ V, w5.drew = V := ⟨_, rfl⟩
  have zb1 : Blk V6 G 37 cs := by rw [← hV6]; exact yb1
  have zb2 : Blk V6 (G + 1) 75 sc := by rw [← hV6]; exact yb2
  have zb3 : Blk V6 (G + 2) 37 zs := by rw [← hV6]; exact yb3
  have zb8 : Blk V6 G8 37 cs := by rw [← hV6]; exact yb8
  have zB : Below w.heap.size w V6 := by rw [← hV6]; exact yB0.drew
  have zg : G8 < V6.heap.size := zb8.lt
  have hst6 := Lib.hid (fun (w' : World) (q : Below G8 V6 w') => (show w'.cell? ⟨G, i * 2 + 1, none⟩ = some (.slice sa N kc) by rw [q.cell (p := ⟨G, i * 2 + 1, none⟩) (show G < G8 by omega), zb1.cell]; exact hsl))
  have hsd6 := Lib.hid (fun (w' : World) (q : Below G8 V6 w') => (show Blk w' (G + 1) 75 sc from zb2.keep q (by omega)))
  have hrL := fun (w' : World) (q : Below G8 V6 w') => hLr w' ((zB.trans (q.mono (by have := hGH.out; omega))))
  have hrLH := Lib.hid hrL
  have b6 : Below G8 V6 V6 := Below.refl _ _
  obtain ⟨M6, hM6⟩ : ∃ M6, V6.heap.size = M6 := ⟨_, rfl⟩
  have hM6H := Lib.hid hM6
  clear hM6
  refine region_seqS (fun w' => Below G8 V6 w') (by kernel_rfl) (by rw [hV6]; exact b6) ?_
  simp only [pairs, Nat.reduceAdd]
  rw [hV6]
  have zBH := Lib.hid zB
  clear hV6 yb1 yb2 yb3 yb8 yB0 hrL zB
  repeat ((first
    | (refine SeqS.y0 (v := .agg (sc).toArray) (yields_blk (by rfl) 75 (.tmp 5) rfl rfl (fun w' h => hsd6.out w' h) (rowsc)) ?_)
    | (refine SeqS.k0 (v := ?_) ?_ ?_; rotate_left; focus (intro w' hb'; go_simp; with_reducible rfl))
    | (refine SeqS.k0 (v := ?_) ?_ ?_; rotate_left; focus (intro w' hb'; have d0 := hst6.out w' hb'; go_simp; with_reducible rfl))
    | (refine SeqS.u0 ?_)
    | (refine SeqS.y1 (v := .agg (sc).toArray) (yields_blk (by rfl) 75 (.tmp 5) rfl rfl (fun w' h => hsd6.out w' h) (rowsc)) ?_)
    | (refine SeqS.k1 (v := ?_) ?_ ?_; rotate_left; focus (intro w' hb'; go_simp; with_reducible rfl))
    | (refine SeqS.k1 (v := ?_) ?_ ?_; rotate_left; focus (intro w' hb'; have d0 := hst6.out w' hb'; go_simp; with_reducible rfl))
    | (refine SeqS.u1 ?_)
    | (refine SeqS.y2 (v := .agg (sc).toArray) (yields_blk (by rfl) 75 (.tmp 5) rfl rfl (fun w' h => hsd6.out w' h) (rowsc)) ?_)
    | (refine SeqS.k2 (v := ?_) ?_ ?_; rotate_left; focus (intro w' hb'; go_simp; with_reducible rfl))
    | (refine SeqS.k2 (v := ?_) ?_ ?_; rotate_left; focus (intro w' hb'; have d0 := hst6.out w' hb'; go_simp; with_reducible rfl))
    | (refine SeqS.u2 ?_)
    | (refine SeqS.y3 (v := .agg (sc).toArray) (yields_blk (by rfl) 75 (.tmp 5) rfl rfl (fun w' h => hsd6.out w' h) (rowsc)) ?_)
    | (refine SeqS.k3 (v := ?_) ?_ ?_; rotate_left; focus (intro w' hb'; go_simp; with_reducible rfl))
    | (refine SeqS.k3 (v := ?_) ?_ ?_; rotate_left; focus (intro w' hb'; have d0 := hst6.out w' hb'; go_simp; with_reducible rfl))
    | (refine SeqS.u3 ?_)
    | (refine SeqS.take4 (v := .agg (sc).toArray) (by first | assumption | trivial) (by kernel_rfl) (by decide +kernel) (by decide +kernel) (yields_blk (by rfl) 75 (.tmp 5) rfl rfl (fun w' h => hsd6.out w' h) (rowsc)) ?_)
    | (refine SeqS.take4 (v := ?_) (by first | assumption | trivial) (by kernel_rfl) (by decide +kernel) (by decide +kernel) (Or.inl ⟨by rfl, ?_⟩) ?_; rotate_left; focus (intro w' hb'; go_simp; with_reducible rfl))
    | (refine SeqS.take4 (v := ?_) (by first | assumption | trivial) (by kernel_rfl) (by decide +kernel) (by decide +kernel) (Or.inl ⟨by rfl, ?_⟩) ?_; rotate_left; focus (intro w' hb'; have d0 := hst6.out w' hb'; go_simp; with_reducible rfl))
    | (refine SeqS.take4 (v := undef) (by first | assumption | trivial) (by kernel_rfl) (by decide +kernel) (by decide +kernel) (Or.inr ⟨by rfl, rfl⟩) ?_)); simp only [Act.put, List.setIfInBounds_toArray, List.set_cons_zero, List.set_cons_succ])
  have T0 : Below V6.heap.size V6 V6 := Below.refl _ _
  refine SeqS.either (rs := [1, 9]) (by decide +kernel) ?_
  intro o9 ho9
  simp only [List.mem_cons, List.not_mem_nil, or_false] at ho9
  rcases ho9 with rfl | rfl
  · refine ⟨[], _, [_, _, _, _, _, _], rfl, by rfl, fun K1 hK => ?_⟩
    go_simp
    have T1 : Below V6.heap.size V6 (V6.alloc (.cells #[] 75)) := T0.alloc T0.size _
    have own41 : (V6.alloc (.cells #[] 75)).ownsRow M6 75 3 (.slice (some ⟨V6.heap.size, 0, none⟩) 0 0) 0 [] := own_weakN (World.ownsRow_made V6 #[] 0 (Nat.le_refl _) (Nat.zero_le _) rfl) (by rw [← hM6H.out]; exact T0.size)
    refine hK _ _ (T1.mono (Nat.le_of_lt zg)) ?_
    clear hK K1
    obtain ⟨B41, hB41⟩ : ∃ B41, V6.heap.size = B41 := ⟨_, rfl⟩
    rw [hB41] at own41 ⊢
    obtain ⟨w1, hw1⟩ : ∃ w, V6.alloc (.cells #[] 75) = w := ⟨_, rfl⟩
    rw [hw1] at T1 own41 ⊢
    clear hw1
    have lA := (own41.lt B41 rfl).2
    (try simp only [Act.put, List.setIfInBounds_toArray, List.set_cons_zero, List.set_cons_succ])
    refine SeqS.either (rs := [7, 9]) (by decide +kernel) ?_
    intro o9 ho9
    simp only [List.mem_cons, List.not_mem_nil, or_false] at ho9
    rcases ho9 with rfl | rfl
    · refine ⟨[], _, [_, _, _, _, _], rfl, by rfl, fun K1 hK => ?_⟩
      refine wp_append_row (.tmp 41) (.tmp 46) 32 rfl M6 75 i9 _ 3 40 Tryz.underlying32 hi9 hz0 hz1 hz2 rfl (by decide) rfl own41 rfl hLl (hrLH.out w1 (T1.mono (Nat.le_of_lt zg))) hL1 ?_ ?_ (by rw [← hM6H.out]; exact T1.size) ?_
      · unfold maxLen; omega
      · omega
      intro v47 w2 own47 g47
      have T2 : Below V6.heap.size V6 w2 := T1.grown g47 T1.size (fun q hq => by rw [hM6H.out]; exact (own41.lt q hq).1)
      refine hK _ _ (T2.mono (Nat.le_of_lt zg)) ?_
      clear hK K1
      rw [Nat.zero_add, List.nil_append] at own47
      have hex : ∃ a47 c47, v47 = .slice a47 N c47 := own_sliceN own47
      obtain ⟨a47, c47, hv47⟩ := hex
      subst hv47
      clear g47 own41
      (try simp only [Act.put, List.setIfInBounds_toArray, List.set_cons_zero, List.set_cons_succ])
      refine SeqS.alone (by decide +kernel) (by rfl) (fun K1 hK => ?_)
      go_simp
      (try rw [hfold])
      have T3 : Below V6.heap.size V6 (w2.alloc (.cells sc.toArray 75)) := T2.alloc T2.size _
      have k49 := Blk.new w2 75 sc
      have own47 := own_stayN own47 (below1 w2 (.cells sc.toArray 75))
      refine hK _ _ (T3.mono (Nat.le_of_lt zg)) ?_
      clear hK K1
      obtain ⟨B49, hB49⟩ : ∃ B49, w2.heap.size = B49 := ⟨_, rfl⟩
      rw [hB49] at k49 ⊢
      obtain ⟨w3, hw3⟩ : ∃ w, w2.alloc (.cells sc.toArray 75) = w := ⟨_, rfl⟩
      rw [hw3] at T3 k49 own47 ⊢
      clear hw3
      have lC := k49.lt
      (try simp only [Act.put, List.setIfInBounds_toArray, List.set_cons_zero, List.set_cons_succ])
      refine SeqS.alone (by decide +kernel) (by rfl) (fun K1 hK => ?_)
      refine wp_append_row (.tmp 47) (.tmp 49) 32 rfl M6 75 i9 _ 3 40 Tryz.underlying32 hi9 hz0 hz1 hz2 rfl (by decide) rfl own47 rfl (m := 1) (news := sc) hscl (.inr ⟨_, rfl, fun j u hu => cell_of_blk k49 j u hu⟩) hsc1 ?_ ?_ (by rw [← hM6H.out]; exact T3.size) ?_
      · unfold maxLen; omega
      · omega
      intro v50 w10 own50 g50
      have T10 : Below V6.heap.size V6 w10 := T3.grown g50 T3.size (fun q hq => by rw [hM6H.out]; exact (own47.lt q hq).1)
      refine hK _ _ (T10.mono (Nat.le_of_lt zg)) ?_
      clear hK K1
      (try simp only [Act.put, List.setIfInBounds_toArray, List.set_cons_zero, List.set_cons_succ])
      have hex : ∃ a50 c50, v50 = .slice a50 (N + 1) c50 := own_sliceN own50
      obtain ⟨a50, c50, hv50⟩ := hex
      subst hv50
      have q8 := zb8.keep T10 zg
      have e81 := q8.cell (i * 2 + 1)
      rw [hsl] at e81
      have f81 := q8.frozen (i * 2 + 1)
      have q9 := q8.set (i * 2 + 1) (.slice a50 (N + 1) c50)
      have S11 : Below G8 V6 (w10.setCell ⟨G8, i * 2 + 1, none⟩ (.slice a50 (N + 1) c50)) := (T10.mono (Nat.le_of_lt zg)).setCell (p := ⟨G8, i * 2 + 1, none⟩) (Nat.le_refl _) _
      have own51 := own_sameN own50 (w' := w10.setCell ⟨G8, i * 2 + 1, none⟩ (.slice a50 (N + 1) c50)) (fun q hq => (grown_setCell w10 G8 (i * 2 + 1) (.slice a50 (N + 1) c50)).block q (own50.lt q hq).2 (fun e => by injection e with e; have := (own50.lt q hq).1; have := hM6H.out; omega))
      have S10 : Below G8 V6 w10 := T10.mono (Nat.le_of_lt zg)
      clear g50 own47 k49 T3 q8 own50 T10
      repeat ((first
        | (refine SeqS.k0 (v := ?_) ?_ ?_; rotate_left; focus (intro w' hb'; go_simp; with_reducible rfl))
        | (refine SeqS.u0 ?_)
        | (refine SeqS.k1 (v := ?_) ?_ ?_; rotate_left; focus (intro w' hb'; go_simp; with_reducible rfl))
        | (refine SeqS.u1 ?_)
        | (refine SeqS.k2 (v := ?_) ?_ ?_; rotate_left; focus (intro w' hb'; go_simp; with_reducible rfl))
        | (refine SeqS.u2 ?_)); simp only [Act.put, List.setIfInBounds_toArray, List.set_cons_zero, List.set_cons_succ])
      refine SeqS.alone (by decide +kernel) (by rfl) (fun K1 hK => ?_)
      go_simp
      refine hK _ _ S11 ?_
      clear hK K1
      refine SeqS.done (by decide +kernel) ?_
      clear e81 f81
      obtain ⟨w11, hw11⟩ : ∃ w, w10.setCell ⟨G8, i * 2 + 1, none⟩ (.slice a50 (N + 1) c50) = w := ⟨_, rfl⟩
      rw [hw11] at q9 S11 own51 ⊢
      clear hw11
      have p1 := zb1.keep S11 (by omega)
      have p3 := zb3.keep S11 (by omega)
      have pB := zBH.out.trans (S11.mono (show w.heap.size ≤ G8 by have := hGH.out; omega))
      have hD1 := hmake w11 a50 c50 pB M6 own51
      clear own51 S11
      obtain ⟨cs1, hcs1⟩ : ∃ c, cs.set (i * 2 + 1) (.slice a50 (N + 1) c50) = c := ⟨_, rfl⟩
      rw [hcs1] at q9 hD1
      have hl1 : cs1.length = 9 := by rw [← hcs1, List.length_set]; exact hl
      have row1 : IsRow Tryz.prog 37 cs1.length := by rw [hl1]; exact rowDd
      obtain ⟨V7, hV7⟩ : ∃ V, w11.drew = V := ⟨_, rfl⟩
      have p1 : Blk V7 G 37 cs := by rw [← hV7]; exact p1
      have p3 : Blk V7 (G + 2) 37 zs := by rw [← hV7]; exact p3
      have q9 : Blk V7 G8 37 cs1 := by rw [← hV7]; exact q9
      have pB : Below w.heap.size w V7 := by rw [← hV7]; exact pB.drew
      have hD1 : RDisk (fun b => R b ∨ M6 ≤ b) V7 cs1 D1 := by rw [← hV7]; exact hD1.keep (Below.drew (Below.refl _ _))
      have hU := Lib.hid (fun w' (q : Below V7.heap.size V7 w') => fUsed_any (hD1.keep q) o0 o1 o2)
      have h8c := Lib.hid (fun w' (q : Below V7.heap.size V7 w') => q9.keep q q9.lt)
      have h6r := Lib.hid (fun (w' : World) (q : Below V7.heap.size V7 w') => (show w'.cell? ⟨G, 6, none⟩ = some (.int .i64 D.room) by rw [q.cell (p := ⟨G, 6, none⟩) p1.lt, p1.cell 6]; exact h6))
      have k7b : Below V7.heap.size V7 V7 := Below.refl _ _
      clear hcs1
      go_wp2_with fail
      refine region_seqS (fun w' => Below V7.heap.size V7 w') (by kernel_rfl) (by rw [hV7]; exact k7b) ?_
      simp only [pairs, Nat.reduceAdd]
      rw [hV7]
      clear hV7
      repeat ((first
        | (refine SeqS.y0 (v := .agg (cs1).toArray) (yields_blk (by rfl) 37 (.tmp 8) rfl rfl (fun w' h => h8c.out w' h) (row1)) ?_)
        | (refine SeqS.k0 (v := ?_) ?_ ?_; rotate_left; focus (intro w' hb'; go_simp; with_reducible rfl))
        | (refine SeqS.k0 (v := ?_) ?_ ?_; rotate_left; focus (intro w' hb'; have d0 := h6r.out w' hb'; go_simp; with_reducible rfl))
        | (refine SeqS.u0 ?_)
        | (refine SeqS.y1 (v := .agg (cs1).toArray) (yields_blk (by rfl) 37 (.tmp 8) rfl rfl (fun w' h => h8c.out w' h) (row1)) ?_)
        | (refine SeqS.k1 (v := ?_) ?_ ?_; rotate_left; focus (intro w' hb'; go_simp; with_reducible rfl))
        | (refine SeqS.k1 (v := ?_) ?_ ?_; rotate_left; focus (intro w' hb'; have d0 := h6r.out w' hb'; go_simp; with_reducible rfl))
        | (refine SeqS.u1 ?_)
        | (refine SeqS.y2 (v := .agg (cs1).toArray) (yields_blk (by rfl) 37 (.tmp 8) rfl rfl (fun w' h => h8c.out w' h) (row1)) ?_)
        | (refine SeqS.k2 (v := ?_) ?_ ?_; rotate_left; focus (intro w' hb'; go_simp; with_reducible rfl))
        | (refine SeqS.k2 (v := ?_) ?_ ?_; rotate_left; focus (intro w' hb'; have d0 := h6r.out w' hb'; go_simp; with_reducible rfl))
        | (refine SeqS.u2 ?_)); simp only [Act.put, List.setIfInBounds_toArray, List.set_cons_zero, List.set_cons_succ])
      refine SeqS.alone (by decide +kernel) (by rfl) (fun K hK => ?_)
      go_simp
      go_at_call 47
      refine (hU.out _ k7b).mono ?_
      rintro e w7 ⟨rfl, b7⟩
      go_simp
      have S7 : Below V7.heap.size V7 w7 := k7b.trans (b7.mono k7b.size)
      refine hK _ _ S7 ?_
      clear hK K
      repeat ((first
        | (refine SeqS.k0 (v := ?_) ?_ ?_; rotate_left; focus (intro w' hb'; go_simp; with_reducible rfl))
        | (refine SeqS.k0 (v := ?_) ?_ ?_; rotate_left; focus (intro w' hb'; have d0 := d7; go_simp; with_reducible rfl))
        | (refine SeqS.u0 ?_)
        | (refine SeqS.k1 (v := ?_) ?_ ?_; rotate_left; focus (intro w' hb'; go_simp; with_reducible rfl))
        | (refine SeqS.k1 (v := ?_) ?_ ?_; rotate_left; focus (intro w' hb'; have d0 := d7; go_simp; with_reducible rfl))
        | (refine SeqS.u1 ?_)
        | (refine SeqS.k2 (v := ?_) ?_ ?_; rotate_left; focus (intro w' hb'; go_simp; with_reducible rfl))
        | (refine SeqS.k2 (v := ?_) ?_ ?_; rotate_left; focus (intro w' hb'; have d0 := d7; go_simp; with_reducible rfl))
        | (refine SeqS.u2 ?_)); simp only [Act.put, List.setIfInBounds_toArray, List.set_cons_zero, List.set_cons_succ])
      refine SeqS.done (by decide +kernel) ?_
      have x8 := q9.keep S7 q9.lt
      have x3 := p3.keep S7 p3.lt
      have xB := pB.trans (S7.mono pB.size)
      have xD := hD1.keep S7
      have l38 : G + 2 < G8 := l3
      clear p1 p3 q9 hD1 hU h8c h6r k7b S7
      have hBu := fBurn_any (w := w7) xD.ddc hfu.2
      have xDb := xD.burn hfu.1
      obtain ⟨cs2, hcs2⟩ : ∃ c, burnC cs1 D1.fuse = c := ⟨_, rfl⟩
      rw [hcs2] at hBu xDb
      have hl2 := xDb.ddc.l
      have ho2 := xDb.ddc.o
      have row2 : IsRow Tryz.prog 37 cs2.length := by rw [hl2]; exact rowDd
      clear hcs2
      go_wp2_with ((with_reducible refine wpList_load_blk rfl 37 (.tmp 8) rfl ?_ x8 rowDd hl1 ?_); rfl)
      refine hBu.mono ?_
      rintro q w13 ⟨rfl, b13⟩
      have x8 := x8.keep b13 x8.lt
      have x3 := x3.keep b13 x3.lt
      have xB := xB.trans (b13.mono xB.size)
      have xDb := xDb.keep b13
      refine RowKit.Hid.out ?_
      refine Lib.hid ?_
      clear b13 hBu
      go_wp2_with ((with_reducible refine store_row rfl 37 (.tmp 8) _ rfl ?_ ?_ x8 rowDd hl2 hl1 ho2 ?_); rfl; rfl; intro w14 b8 g8)
      have x3 := x3.grown g8 (fun e => by injection e; omega)
      have yB := xB.grown g8 xB.size (fun q hq => by injection hq with hq; rw [← hq]; have := hGH.out; omega)
      have hM6s : w.heap.size ≤ M6 := by have := zBH.out.size; have := hM6H.out; omega
      have hGM : G8 < M6 := by have := hM6H.out; omega
      have xDb := xDb.same (R' := fun b => R b ∨ M6 ≤ b) (w' := w14) (fun b hb hl => g8.block b hl (fun e => by
        injection e with e
        rcases hb with hb | hb
        · have := hRl b hb; have := hGH.out; omega
        · omega)) (fun b hb => hb)
      clear x8 g8 xB
      go_wp2_with fail
      obtain ⟨V10, hV10⟩ : ∃ V, w14.drew = V := ⟨_, rfl⟩
      have b8 : Blk V10 G8 37 cs2 := by rw [← hV10]; exact b8
      have x3 : Blk V10 (G + 2) 37 zs := by rw [← hV10]; exact x3
      have yB : Below w.heap.size w V10 := by rw [← hV10]; exact yB.drew
      have xDb : RDisk (fun b => R b ∨ M6 ≤ b) V10 cs2 D1.burn := by rw [← hV10]; exact xDb.keep (Below.drew (Below.refl _ _))
      have hAn := fAnswer_any (w := V10) xDb.ddc
      rw [show (if D1.burn.down = true then (18 : Int) else 0) = E from hEH.out] at hAn
      refine region_seqS (fun w' => Blk w' G8 37 cs2) (by kernel_rfl) (by rw [hV10]; exact b8) ?_
      simp only [pairs, Nat.reduceAdd]
      rw [hV10]
      clear hV10
      repeat ((first
        | (refine SeqS.y0 (v := .agg (cs2).toArray) (yields_blk (by rfl) 37 (.tmp 8) rfl rfl (fun w' h => h) (row2)) ?_)
        | (refine SeqS.k0 (v := ?_) ?_ ?_; rotate_left; focus (intro w' hb'; go_simp; with_reducible rfl))
        | (refine SeqS.u0 ?_)
        | (refine SeqS.y1 (v := .agg (cs2).toArray) (yields_blk (by rfl) 37 (.tmp 8) rfl rfl (fun w' h => h) (row2)) ?_)
        | (refine SeqS.k1 (v := ?_) ?_ ?_; rotate_left; focus (intro w' hb'; go_simp; with_reducible rfl))
        | (refine SeqS.u1 ?_)
        | (refine SeqS.y2 (v := .agg (cs2).toArray) (yields_blk (by rfl) 37 (.tmp 8) rfl rfl (fun w' h => h) (row2)) ?_)
        | (refine SeqS.k2 (v := ?_) ?_ ?_; rotate_left; focus (intro w' hb'; go_simp; with_reducible rfl))
        | (refine SeqS.u2 ?_)); simp only [Act.put, List.setIfInBounds_toArray, List.set_cons_zero, List.set_cons_succ])
      refine SeqS.alone (by decide +kernel) (by rfl) (fun K5 hK5 => ?_)
      go_simp
      go_at_call 49
      refine hAn.mono ?_
      rintro q w16 ⟨rfl, b16⟩
      go_simp
      have S16 := b8.keep b16 b8.lt
      have x3 := x3.keep b16 x3.lt
      have yB := yB.trans (b16.mono yB.size)
      have xDb := xDb.keep b16
      refine hK5 _ _ S16 ?_
      clear hK5 K5 b8 b16 hAn
      (try simp only [Act.put, List.setIfInBounds_toArray, List.set_cons_zero, List.set_cons_succ])
      refine SeqS.alone (by decide +kernel) (by rfl) (fun K5 hK5 => ?_)
      refine wp_store_part 37 (.tmp 6) (.tmp 62) rfl rfl rfl x3 row2 (by rw [hl2, hzl]; decide) ho2 (fun w17 hb17 hg17 => ?_)
      rw [overV_all _ _ (by rw [hl2, hzl])] at hb17
      have S17 := S16.grown hg17 (fun e => by injection e; omega)
      have yB := yB.grown hg17 yB.size (fun q hq => by injection hq with hq; rw [← hq, ← hGH.out]; omega)
      have xDb := xDb.same (R' := fun b => R b ∨ w.heap.size ≤ b) (w' := w17) (fun b hb hl => hg17.block b hl (fun e => by
        injection e with e
        rcases hb with hb | hb
        · have := hRl b hb; have := hGH.out; omega
        · omega)) (fun b hb => hb.imp id (fun h => Nat.le_trans hM6s h))
      refine hK5 _ _ S17 ?_
      clear hK5 K5 S16 x3 hg17
      repeat ((first
        | (refine SeqS.k0 (v := ?_) ?_ ?_; rotate_left; focus (intro w' hb'; go_simp; with_reducible rfl))
        | (refine SeqS.u0 ?_)
        | (refine SeqS.k1 (v := ?_) ?_ ?_; rotate_left; focus (intro w' hb'; go_simp; with_reducible rfl))
        | (refine SeqS.u1 ?_)
        | (refine SeqS.k2 (v := ?_) ?_ ?_; rotate_left; focus (intro w' hb'; go_simp; with_reducible rfl))
        | (refine SeqS.u2 ?_)); simp only [Act.put, List.setIfInBounds_toArray, List.set_cons_zero, List.set_cons_succ])
      refine SeqS.done (by decide +kernel) ?_
      go_wp2
      refine bodyPost_ret (results_bt18 rfl rfl hb17 row2) rfl ?_
      exact ⟨cs2, rfl, xDb, yB⟩

    · refine ⟨[_], _, [_, _, _, _], rfl, by rfl, fun K1 hK => ?_⟩
      go_simp
      (try rw [hfold])
      have T2 : Below V6.heap.size V6 (w1.alloc (.cells sc.toArray 75)) := T1.alloc T1.size _
      have k49 := Blk.new w1 75 sc
      have own41 := own_stayN own41 (below1 w1 (.cells sc.toArray 75))
      refine hK _ _ (T2.mono (Nat.le_of_lt zg)) ?_
      clear hK K1
      obtain ⟨B49, hB49⟩ : ∃ B49, w1.heap.size = B49 := ⟨_, rfl⟩
      rw [hB49] at k49 ⊢
      obtain ⟨w2, hw2⟩ : ∃ w, w1.alloc (.cells sc.toArray 75) = w := ⟨_, rfl⟩
      rw [hw2] at T2 k49 own41 ⊢
      clear hw2
      have lC := k49.lt
      (try simp only [Act.put, List.setIfInBounds_toArray, List.set_cons_zero, List.set_cons_succ])
      refine SeqS.alone (by decide +kernel) (by rfl) (fun K1 hK => ?_)
      refine wp_append_row (.tmp 41) (.tmp 46) 32 rfl M6 75 i9 _ 3 40 Tryz.underlying32 hi9 hz0 hz1 hz2 rfl (by decide) rfl own41 rfl hLl (hrLH.out w2 (T2.mono (Nat.le_of_lt zg))) hL1 ?_ ?_ (by rw [← hM6H.out]; exact T2.size) ?_
      · unfold maxLen; omega
      · omega
      intro v47 w3 own47 g47
      have T3 : Below V6.heap.size V6 w3 := T2.grown g47 T2.size (fun q hq => by rw [hM6H.out]; exact (own41.lt q hq).1)
      have k49 := k49.grown g47 (fun e => by injection e with e; have e9 : B49 = B41 := e; omega)
      refine hK _ _ (T3.mono (Nat.le_of_lt zg)) ?_
      clear hK K1
      rw [Nat.zero_add, List.nil_append] at own47
      have hex : ∃ a47 c47, v47 = .slice a47 N c47 := own_sliceN own47
      obtain ⟨a47, c47, hv47⟩ := hex
      subst hv47
      clear g47 own41
      (try simp only [Act.put, List.setIfInBounds_toArray, List.set_cons_zero, List.set_cons_succ])
      refine SeqS.alone (by decide +kernel) (by rfl) (fun K1 hK => ?_)
      refine wp_append_row (.tmp 47) (.tmp 49) 32 rfl M6 75 i9 _ 3 40 Tryz.underlying32 hi9 hz0 hz1 hz2 rfl (by decide) rfl own47 rfl (m := 1) (news := sc) hscl (.inr ⟨_, rfl, fun j u hu => cell_of_blk k49 j u hu⟩) hsc1 ?_ ?_ (by rw [← hM6H.out]; exact T3.size) ?_
      · unfold maxLen; omega
      · omega
      intro v50 w10 own50 g50
      have T10 : Below V6.heap.size V6 w10 := T3.grown g50 T3.size (fun q hq => by rw [hM6H.out]; exact (own47.lt q hq).1)
      refine hK _ _ (T10.mono (Nat.le_of_lt zg)) ?_
      clear hK K1
      (try simp only [Act.put, List.setIfInBounds_toArray, List.set_cons_zero, List.set_cons_succ])
      have hex : ∃ a50 c50, v50 = .slice a50 (N + 1) c50 := own_sliceN own50
      obtain ⟨a50, c50, hv50⟩ := hex
      subst hv50
      have q8 := zb8.keep T10 zg
      have e81 := q8.cell (i * 2 + 1)
      rw [hsl] at e81
      have f81 := q8.frozen (i * 2 + 1)
      have q9 := q8.set (i * 2 + 1) (.slice a50 (N + 1) c50)
      have S11 : Below G8 V6 (w10.setCell ⟨G8, i * 2 + 1, none⟩ (.slice a50 (N + 1) c50)) := (T10.mono (Nat.le_of_lt zg)).setCell (p := ⟨G8, i * 2 + 1, none⟩) (Nat.le_refl _) _
      have own51 := own_sameN own50 (w' := w10.setCell ⟨G8, i * 2 + 1, none⟩ (.slice a50 (N + 1) c50)) (fun q hq => (grown_setCell w10 G8 (i * 2 + 1) (.slice a50 (N + 1) c50)).block q (own50.lt q hq).2 (fun e => by injection e with e; have := (own50.lt q hq).1; have := hM6H.out; omega))
      have S10 : Below G8 V6 w10 := T10.mono (Nat.le_of_lt zg)
      clear g50 own47 k49 T3 q8 own50 T10
      repeat ((first
        | (refine SeqS.k0 (v := ?_) ?_ ?_; rotate_left; focus (intro w' hb'; go_simp; with_reducible rfl))
        | (refine SeqS.u0 ?_)
        | (refine SeqS.k1 (v := ?_) ?_ ?_; rotate_left; focus (intro w' hb'; go_simp; with_reducible rfl))
        | (refine SeqS.u1 ?_)
        | (refine SeqS.k2 (v := ?_) ?_ ?_; rotate_left; focus (intro w' hb'; go_simp; with_reducible rfl))
        | (refine SeqS.u2 ?_)); simp only [Act.put, List.setIfInBounds_toArray, List.set_cons_zero, List.set_cons_succ])
      refine SeqS.alone (by decide +kernel) (by rfl) (fun K1 hK => ?_)
      go_simp
      refine hK _ _ S11 ?_
      clear hK K1
      refine SeqS.done (by decide +kernel) ?_
      clear e81 f81
      obtain ⟨w11, hw11⟩ : ∃ w, w10.setCell ⟨G8, i * 2 + 1, none⟩ (.slice a50 (N + 1) c50) = w := ⟨_, rfl⟩
      rw [hw11] at q9 S11 own51 ⊢
      clear hw11
      have p1 := zb1.keep S11 (by omega)
      have p3 := zb3.keep S11 (by omega)
      have pB := zBH.out.trans (S11.mono (show w.heap.size ≤ G8 by have := hGH.out; omega))
      have hD1 := hmake w11 a50 c50 pB M6 own51
      clear own51 S11
      obtain ⟨cs1, hcs1⟩ : ∃ c, cs.set (i * 2 + 1) (.slice a50 (N + 1) c50) = c := ⟨_, rfl⟩
      rw [hcs1] at q9 hD1
      have hl1 : cs1.length = 9 := by rw [← hcs1, List.length_set]; exact hl
      have row1 : IsRow Tryz.prog 37 cs1.length := by rw [hl1]; exact rowDd
      obtain ⟨V7, hV7⟩ : ∃ V, w11.drew = V := ⟨_, rfl⟩
      have p1 : Blk V7 G 37 cs := by rw [← hV7]; exact p1
      have p3 : Blk V7 (G + 2) 37 zs := by rw [← hV7]; exact p3
      have q9 : Blk V7 G8 37 cs1 := by rw [← hV7]; exact q9
      have pB : Below w.heap.size w V7 := by rw [← hV7]; exact pB.drew
      have hD1 : RDisk (fun b => R b ∨ M6 ≤ b) V7 cs1 D1 := by rw [← hV7]; exact hD1.keep (Below.drew (Below.refl _ _))
      have hU := Lib.hid (fun w' (q : Below V7.heap.size V7 w') => fUsed_any (hD1.keep q) o0 o1 o2)
      have h8c := Lib.hid (fun w' (q : Below V7.heap.size V7 w') => q9.keep q q9.lt)
      have h6r := Lib.hid (fun (w' : World) (q : Below V7.heap.size V7 w') => (show w'.cell? ⟨G, 6, none⟩ = some (.int .i64 D.room) by rw [q.cell (p := ⟨G, 6, none⟩) p1.lt, p1.cell 6]; exact h6))
      have k7b : Below V7.heap.size V7 V7 := Below.refl _ _
      clear hcs1
      go_wp2_with fail
      refine region_seqS (fun w' => Below V7.heap.size V7 w') (by kernel_rfl) (by rw [hV7]; exact k7b) ?_
      simp only [pairs, Nat.reduceAdd]
      rw [hV7]
      clear hV7
      repeat ((first
        | (refine SeqS.y0 (v := .agg (cs1).toArray) (yields_blk (by rfl) 37 (.tmp 8) rfl rfl (fun w' h => h8c.out w' h) (row1)) ?_)
        | (refine SeqS.k0 (v := ?_) ?_ ?_; rotate_left; focus (intro w' hb'; go_simp; with_reducible rfl))
        | (refine SeqS.k0 (v := ?_) ?_ ?_; rotate_left; focus (intro w' hb'; have d0 := h6r.out w' hb'; go_simp; with_reducible rfl))
        | (refine SeqS.u0 ?_)
        | (refine SeqS.y1 (v := .agg (cs1).toArray) (yields_blk (by rfl) 37 (.tmp 8) rfl rfl (fun w' h => h8c.out w' h) (row1)) ?_)
        | (refine SeqS.k1 (v := ?_) ?_ ?_; rotate_left; focus (intro w' hb'; go_simp; with_reducible rfl))
        | (refine SeqS.k1 (v := ?_) ?_ ?_; rotate_left; focus (intro w' hb'; have d0 := h6r.out w' hb'; go_simp; with_reducible rfl))
        | (refine SeqS.u1 ?_)
        | (refine SeqS.y2 (v := .agg (cs1).toArray) (yields_blk (by rfl) 37 (.tmp 8) rfl rfl (fun w' h => h8c.out w' h) (row1)) ?_)
        | (refine SeqS.k2 (v := ?_) ?_ ?_; rotate_left; focus (intro w' hb'; go_simp; with_reducible rfl))
        | (refine SeqS.k2 (v := ?_) ?_ ?_; rotate_left; focus (intro w' hb'; have d0 := h6r.out w' hb'; go_simp; with_reducible rfl))
        | (refine SeqS.u2 ?_)); simp only [Act.put, List.setIfInBounds_toArray, List.set_cons_zero, List.set_cons_succ])
      refine SeqS.alone (by decide +kernel) (by rfl) (fun K hK => ?_)
      go_simp
      go_at_call 47
      refine (hU.out _ k7b).mono ?_
      rintro e w7 ⟨rfl, b7⟩
      go_simp
      have S7 : Below V7.heap.size V7 w7 := k7b.trans (b7.mono k7b.size)
      refine hK _ _ S7 ?_
      clear hK K
      repeat ((first
        | (refine SeqS.k0 (v := ?_) ?_ ?_; rotate_left; focus (intro w' hb'; go_simp; with_reducible rfl))
        | (refine SeqS.k0 (v := ?_) ?_ ?_; rotate_left; focus (intro w' hb'; have d0 := d7; go_simp; with_reducible rfl))
        | (refine SeqS.u0 ?_)
        | (refine SeqS.k1 (v := ?_) ?_ ?_; rotate_left; focus (intro w' hb'; go_simp; with_reducible rfl))
        | (refine SeqS.k1 (v := ?_) ?_ ?_; rotate_left; focus (intro w' hb'; have d0 := d7; go_simp; with_reducible rfl))
        | (refine SeqS.u1 ?_)
        | (refine SeqS.k2 (v := ?_) ?_ ?_; rotate_left; focus (intro w' hb'; go_simp; with_reducible rfl))
        | (refine SeqS.k2 (v := ?_) ?_ ?_; rotate_left; focus (intro w' hb'; have d0 := d7; go_simp; with_reducible rfl))
        | (refine SeqS.u2 ?_)); simp only [Act.put, List.setIfInBounds_toArray, List.set_cons_zero, List.set_cons_succ])
      refine SeqS.done (by decide +kernel) ?_
      have x8 := q9.keep S7 q9.lt
      have x3 := p3.keep S7 p3.lt
      have xB := pB.trans (S7.mono pB.size)
      have xD := hD1.keep S7
      have l38 : G + 2 < G8 := l3
      clear p1 p3 q9 hD1 hU h8c h6r k7b S7
      have hBu := fBurn_any (w := w7) xD.ddc hfu.2
      have xDb := xD.burn hfu.1
      obtain ⟨cs2, hcs2⟩ : ∃ c, burnC cs1 D1.fuse = c := ⟨_, rfl⟩
      rw [hcs2] at hBu xDb
      have hl2 := xDb.ddc.l
      have ho2 := xDb.ddc.o
      have row2 : IsRow Tryz.prog 37 cs2.length := by rw [hl2]; exact rowDd
      clear hcs2
      go_wp2_with ((with_reducible refine wpList_load_blk rfl 37 (.tmp 8) rfl ?_ x8 rowDd hl1 ?_); rfl)
      refine hBu.mono ?_
      rintro q w13 ⟨rfl, b13⟩
      have x8 := x8.keep b13 x8.lt
      have x3 := x3.keep b13 x3.lt
      have xB := xB.trans (b13.mono xB.size)
      have xDb := xDb.keep b13
      refine RowKit.Hid.out ?_
      refine Lib.hid ?_
      clear b13 hBu
      go_wp2_with ((with_reducible refine store_row rfl 37 (.tmp 8) _ rfl ?_ ?_ x8 rowDd hl2 hl1 ho2 ?_); rfl; rfl; intro w14 b8 g8)
      have x3 := x3.grown g8 (fun e => by injection e; omega)
      have yB := xB.grown g8 xB.size (fun q hq => by injection hq with hq; rw [← hq]; have := hGH.out; omega)
      have hM6s : w.heap.size ≤ M6 := by have := zBH.out.size; have := hM6H.out; omega
      have hGM : G8 < M6 := by have := hM6H.out; omega
      have xDb := xDb.same (R' := fun b => R b ∨ M6 ≤ b) (w' := w14) (fun b hb hl => g8.block b hl (fun e => by
        injection e with e
        rcases hb with hb | hb
        · have := hRl b hb; have := hGH.out; omega
        · omega)) (fun b hb => hb)
      clear x8 g8 xB
      go_wp2_with fail
      obtain ⟨V10, hV10⟩ : ∃ V, w14.drew = V := ⟨_, rfl⟩
      have b8 : Blk V10 G8 37 cs2 := by rw [← hV10]; exact b8
      have x3 : Blk V10 (G + 2) 37 zs := by rw [← hV10]; exact x3
      have yB : Below w.heap.size w V10 := by rw [← hV10]; exact yB.drew
      have xDb : RDisk (fun b => R b ∨ M6 ≤ b) V10 cs2 D1.burn := by rw [← hV10]; exact xDb.keep (Below.drew (Below.refl _ _))
      have hAn := fAnswer_any (w := V10) xDb.ddc
      rw [show (if D1.burn.down = true then (18 : Int) else 0) = E from hEH.out] at hAn
      refine region_seqS (fun w' => Blk w' G8 37 cs2) (by kernel_rfl) (by rw [hV10]; exact b8) ?_
      simp only [pairs, Nat.reduceAdd]
      rw [hV10]
      clear hV10
      repeat ((first
        | (refine SeqS.y0 (v := .agg (cs2).toArray) (yields_blk (by rfl) 37 (.tmp 8) rfl rfl (fun w' h => h) (row2)) ?_)
        | (refine SeqS.k0 (v := ?_) ?_ ?_; rotate_left; focus (intro w' hb'; go_simp; with_reducible rfl))
        | (refine SeqS.u0 ?_)
        | (refine SeqS.y1 (v := .agg (cs2).toArray) (yields_blk (by rfl) 37 (.tmp 8) rfl rfl (fun w' h => h) (row2)) ?_)
        | (refine SeqS.k1 (v := ?_) ?_ ?_; rotate_left; focus (intro w' hb'; go_simp; with_reducible rfl))
        | (refine SeqS.u1 ?_)
        | (refine SeqS.y2 (v := .agg (cs2).toArray) (yields_blk (by rfl) 37 (.tmp 8) rfl rfl (fun w' h => h) (row2)) ?_)
        | (refine SeqS.k2 (v := ?_) ?_ ?_; rotate_left; focus (intro w' hb'; go_simp; with_reducible rfl))
        | (refine SeqS.u2 ?_)); simp only [Act.put, List.setIfInBounds_toArray, List.set_cons_zero, List.set_cons_succ])
      refine SeqS.alone (by decide +kernel) (by rfl) (fun K5 hK5 => ?_)
      go_simp
      go_at_call 49
      refine hAn.mono ?_
      rintro q w16 ⟨rfl, b16⟩
      go_simp
      have S16 := b8.keep b16 b8.lt
      have x3 := x3.keep b16 x3.lt
      have yB := yB.trans (b16.mono yB.size)
      have xDb := xDb.keep b16
      refine hK5 _ _ S16 ?_
      clear hK5 K5 b8 b16 hAn
      (try simp only [Act.put, List.setIfInBounds_toArray, List.set_cons_zero, List.set_cons_succ])
      refine SeqS.alone (by decide +kernel) (by rfl) (fun K5 hK5 => ?_)
      refine wp_store_part 37 (.tmp 6) (.tmp 62) rfl rfl rfl x3 row2 (by rw [hl2, hzl]; decide) ho2 (fun w17 hb17 hg17 => ?_)
      rw [overV_all _ _ (by rw [hl2, hzl])] at hb17
      have S17 := S16.grown hg17 (fun e => by injection e; omega)
      have yB := yB.grown hg17 yB.size (fun q hq => by injection hq with hq; rw [← hq, ← hGH.out]; omega)
      have xDb := xDb.same (R' := fun b => R b ∨ w.heap.size ≤ b) (w' := w17) (fun b hb hl => hg17.block b hl (fun e => by
        injection e with e
        rcases hb with hb | hb
        · have := hRl b hb; have := hGH.out; omega
        · omega)) (fun b hb => hb.imp id (fun h => Nat.le_trans hM6s h))
      refine hK5 _ _ S17 ?_
      clear hK5 K5 S16 x3 hg17
      repeat ((first
        | (refine SeqS.k0 (v := ?_) ?_ ?_; rotate_left; focus (intro w' hb'; go_simp; with_reducible rfl))
        | (refine SeqS.u0 ?_)
        | (refine SeqS.k1 (v := ?_) ?_ ?_; rotate_left; focus (intro w' hb'; go_simp; with_reducible rfl))
        | (refine SeqS.u1 ?_)
        | (refine SeqS.k2 (v := ?_) ?_ ?_; rotate_left; focus (intro w' hb'; go_simp; with_reducible rfl))
        | (refine SeqS.u2 ?_)); simp only [Act.put, List.setIfInBounds_toArray, List.set_cons_zero, List.set_cons_succ])
      refine SeqS.done (by decide +kernel) ?_
      go_wp2
      refine bodyPost_ret (results_bt18 rfl rfl hb17 row2) rfl ?_
      exact ⟨cs2, rfl, xDb, yB⟩

  · refine ⟨[_, _], _, [_, _, _, _], rfl, by rfl, fun K1 hK => ?_⟩
    go_simp
    (try rw [hfold])
    have T1 : Below V6.heap.size V6 (V6.alloc (.cells sc.toArray 75)) := T0.alloc T0.size _
    have k49 := Blk.new V6 75 sc
    refine hK _ _ (T1.mono (Nat.le_of_lt zg)) ?_
    clear hK K1
    obtain ⟨B49, hB49⟩ : ∃ B49, V6.heap.size = B49 := ⟨_, rfl⟩
    rw [hB49] at k49 ⊢
    obtain ⟨w1, hw1⟩ : ∃ w, V6.alloc (.cells sc.toArray 75) = w := ⟨_, rfl⟩
    rw [hw1] at T1 k49 ⊢
    clear hw1
    have lC := k49.lt
    (try simp only [Act.put, List.setIfInBounds_toArray, List.set_cons_zero, List.set_cons_succ])
    refine SeqS.alone (by decide +kernel) (by rfl) (fun K1 hK => ?_)
    go_simp
    have T2 : Below V6.heap.size V6 (w1.alloc (.cells #[] 75)) := T1.alloc T1.size _
    have own41 : (w1.alloc (.cells #[] 75)).ownsRow M6 75 3 (.slice (some ⟨w1.heap.size, 0, none⟩) 0 0) 0 [] := own_weakN (World.ownsRow_made w1 #[] 0 (Nat.le_refl _) (Nat.zero_le _) rfl) (by rw [← hM6H.out]; exact T1.size)
    have k49 := k49.alloc (.cells #[] 75)
    refine hK _ _ (T2.mono (Nat.le_of_lt zg)) ?_
    clear hK K1
    obtain ⟨B41, hB41⟩ : ∃ B41, w1.heap.size = B41 := ⟨_, rfl⟩
    rw [hB41] at own41 ⊢
    obtain ⟨w2, hw2⟩ : ∃ w, w1.alloc (.cells #[] 75) = w := ⟨_, rfl⟩
    rw [hw2] at T2 own41 k49 ⊢
    clear hw2
    have lA := (own41.lt B41 rfl).2
    (try simp only [Act.put, List.setIfInBounds_toArray, List.set_cons_zero, List.set_cons_succ])
    refine SeqS.alone (by decide +kernel) (by rfl) (fun K1 hK => ?_)
    refine wp_append_row (.tmp 41) (.tmp 46) 32 rfl M6 75 i9 _ 3 40 Tryz.underlying32 hi9 hz0 hz1 hz2 rfl (by decide) rfl own41 rfl hLl (hrLH.out w2 (T2.mono (Nat.le_of_lt zg))) hL1 ?_ ?_ (by rw [← hM6H.out]; exact T2.size) ?_
    · unfold maxLen; omega
    · omega
    intro v47 w3 own47 g47
    have T3 : Below V6.heap.size V6 w3 := T2.grown g47 T2.size (fun q hq => by rw [hM6H.out]; exact (own41.lt q hq).1)
    have k49 := k49.grown g47 (fun e => by injection e with e; have e9 : B49 = B41 := e; omega)
    refine hK _ _ (T3.mono (Nat.le_of_lt zg)) ?_
    clear hK K1
    rw [Nat.zero_add, List.nil_append] at own47
    have hex : ∃ a47 c47, v47 = .slice a47 N c47 := own_sliceN own47
    obtain ⟨a47, c47, hv47⟩ := hex
    subst hv47
    clear g47 own41
    (try simp only [Act.put, List.setIfInBounds_toArray, List.set_cons_zero, List.set_cons_succ])
    refine SeqS.alone (by decide +kernel) (by rfl) (fun K1 hK => ?_)
    refine wp_append_row (.tmp 47) (.tmp 49) 32 rfl M6 75 i9 _ 3 40 Tryz.underlying32 hi9 hz0 hz1 hz2 rfl (by decide) rfl own47 rfl (m := 1) (news := sc) hscl (.inr ⟨_, rfl, fun j u hu => cell_of_blk k49 j u hu⟩) hsc1 ?_ ?_ (by rw [← hM6H.out]; exact T3.size) ?_
    · unfold maxLen; omega
    · omega
    intro v50 w10 own50 g50
    have T10 : Below V6.heap.size V6 w10 := T3.grown g50 T3.size (fun q hq => by rw [hM6H.out]; exact (own47.lt q hq).1)
    refine hK _ _ (T10.mono (Nat.le_of_lt zg)) ?_
    clear hK K1
    (try simp only [Act.put, List.setIfInBounds_toArray, List.set_cons_zero, List.set_cons_succ])
    have hex : ∃ a50 c50, v50 = .slice a50 (N + 1) c50 := own_sliceN own50
    obtain ⟨a50, c50, hv50⟩ := hex
    subst hv50
    have q8 := zb8.keep T10 zg
    have e81 := q8.cell (i * 2 + 1)
    rw [hsl] at e81
    have f81 := q8.frozen (i * 2 + 1)
    have q9 := q8.set (i * 2 + 1) (.slice a50 (N + 1) c50)
    have S11 : Below G8 V6 (w10.setCell ⟨G8, i * 2 + 1, none⟩ (.slice a50 (N + 1) c50)) := (T10.mono (Nat.le_of_lt zg)).setCell (p := ⟨G8, i * 2 + 1, none⟩) (Nat.le_refl _) _
    have own51 := own_sameN own50 (w' := w10.setCell ⟨G8, i * 2 + 1, none⟩ (.slice a50 (N + 1) c50)) (fun q hq => (grown_setCell w10 G8 (i * 2 + 1) (.slice a50 (N + 1) c50)).block q (own50.lt q hq).2 (fun e => by injection e with e; have := (own50.lt q hq).1; have := hM6H.out; omega))
    have S10 : Below G8 V6 w10 := T10.mono (Nat.le_of_lt zg)
    clear g50 own47 k49 T3 q8 own50 T10
    repeat ((first
      | (refine SeqS.k0 (v := ?_) ?_ ?_; rotate_left; focus (intro w' hb'; go_simp; with_reducible rfl))
      | (refine SeqS.u0 ?_)
      | (refine SeqS.k1 (v := ?_) ?_ ?_; rotate_left; focus (intro w' hb'; go_simp; with_reducible rfl))
      | (refine SeqS.u1 ?_)
      | (refine SeqS.k2 (v := ?_) ?_ ?_; rotate_left; focus (intro w' hb'; go_simp; with_reducible rfl))
      | (refine SeqS.u2 ?_)); simp only [Act.put, List.setIfInBounds_toArray, List.set_cons_zero, List.set_cons_succ])
    refine SeqS.alone (by decide +kernel) (by rfl) (fun K1 hK => ?_)
    go_simp
    refine hK _ _ S11 ?_
    clear hK K1
    refine SeqS.done (by decide +kernel) ?_
    clear e81 f81
    obtain ⟨w11, hw11⟩ : ∃ w, w10.setCell ⟨G8, i * 2 + 1, none⟩ (.slice a50 (N + 1) c50) = w := ⟨_, rfl⟩
    rw [hw11] at q9 S11 own51 ⊢
    clear hw11
    have p1 := zb1.keep S11 (by omega)
    have p3 := zb3.keep S11 (by omega)
    have pB := zBH.out.trans (S11.mono (show w.heap.size ≤ G8 by have := hGH.out; omega))
    have hD1 := hmake w11 a50 c50 pB M6 own51
    clear own51 S11
    obtain ⟨cs1, hcs1⟩ : ∃ c, cs.set (i * 2 + 1) (.slice a50 (N + 1) c50) = c := ⟨_, rfl⟩
    rw [hcs1] at q9 hD1
    have hl1 : cs1.length = 9 := by rw [← hcs1, List.length_set]; exact hl
    have row1 : IsRow Tryz.prog 37 cs1.length := by rw [hl1]; exact rowDd
    obtain ⟨V7, hV7⟩ : ∃ V, w11.drew = V := ⟨_, rfl⟩
    have p1 : Blk V7 G 37 cs := by rw [← hV7]; exact p1
    have p3 : Blk V7 (G + 2) 37 zs := by rw [← hV7]; exact p3
    have q9 : Blk V7 G8 37 cs1 := by rw [← hV7]; exact q9
    have pB : Below w.heap.size w V7 := by rw [← hV7]; exact pB.drew
    have hD1 : RDisk (fun b => R b ∨ M6 ≤ b) V7 cs1 D1 := by rw [← hV7]; exact hD1.keep (Below.drew (Below.refl _ _))
    have hU := Lib.hid (fun w' (q : Below V7.heap.size V7 w') => fUsed_any (hD1.keep q) o0 o1 o2)
    have h8c := Lib.hid (fun w' (q : Below V7.heap.size V7 w') => q9.keep q q9.lt)
    have h6r := Lib.hid (fun (w' : World) (q : Below V7.heap.size V7 w') => (show w'.cell? ⟨G, 6, none⟩ = some (.int .i64 D.room) by rw [q.cell (p := ⟨G, 6, none⟩) p1.lt, p1.cell 6]; exact h6))
    have k7b : Below V7.heap.size V7 V7 := Below.refl _ _
    clear hcs1
    go_wp2_with fail
    refine region_seqS (fun w' => Below V7.heap.size V7 w') (by kernel_rfl) (by rw [hV7]; exact k7b) ?_
    simp only [pairs, Nat.reduceAdd]
    rw [hV7]
    clear hV7
    repeat ((first
      | (refine SeqS.y0 (v := .agg (cs1).toArray) (yields_blk (by rfl) 37 (.tmp 8) rfl rfl (fun w' h => h8c.out w' h) (row1)) ?_)
      | (refine SeqS.k0 (v := ?_) ?_ ?_; rotate_left; focus (intro w' hb'; go_simp; with_reducible rfl))
      | (refine SeqS.k0 (v := ?_) ?_ ?_; rotate_left; focus (intro w' hb'; have d0 := h6r.out w' hb'; go_simp; with_reducible rfl))
      | (refine SeqS.u0 ?_)
      | (refine SeqS.y1 (v := .agg (cs1).toArray) (yields_blk (by rfl) 37 (.tmp 8) rfl rfl (fun w' h => h8c.out w' h) (row1)) ?_)
      | (refine SeqS.k1 (v := ?_) ?_ ?_; rotate_left; focus (intro w' hb'; go_simp; with_reducible rfl))
      | (refine SeqS.k1 (v := ?_) ?_ ?_; rotate_left; focus (intro w' hb'; have d0 := h6r.out w' hb'; go_simp; with_reducible rfl))
      | (refine SeqS.u1 ?_)
      | (refine SeqS.y2 (v := .agg (cs1).toArray) (yields_blk (by rfl) 37 (.tmp 8) rfl rfl (fun w' h => h8c.out w' h) (row1)) ?_)
      | (refine SeqS.k2 (v := ?_) ?_ ?_; rotate_left; focus (intro w' hb'; go_simp; with_reducible rfl))
      | (refine SeqS.k2 (v := ?_) ?_ ?_; rotate_left; focus (intro w' hb'; have d0 := h6r.out w' hb'; go_simp; with_reducible rfl))
      | (refine SeqS.u2 ?_)); simp only [Act.put, List.setIfInBounds_toArray, List.set_cons_zero, List.set_cons_succ])
    refine SeqS.alone (by decide +kernel) (by rfl) (fun K hK => ?_)
    go_simp
    go_at_call 47
    refine (hU.out _ k7b).mono ?_
    rintro e w7 ⟨rfl, b7⟩
    go_simp
    have S7 : Below V7.heap.size V7 w7 := k7b.trans (b7.mono k7b.size)
    refine hK _ _ S7 ?_
    clear hK K
    repeat ((first
      | (refine SeqS.k0 (v := ?_) ?_ ?_; rotate_left; focus (intro w' hb'; go_simp; with_reducible rfl))
      | (refine SeqS.k0 (v := ?_) ?_ ?_; rotate_left; focus (intro w' hb'; have d0 := d7; go_simp; with_reducible rfl))
      | (refine SeqS.u0 ?_)
      | (refine SeqS.k1 (v := ?_) ?_ ?_; rotate_left; focus (intro w' hb'; go_simp; with_reducible rfl))
      | (refine SeqS.k1 (v := ?_) ?_ ?_; rotate_left; focus (intro w' hb'; have d0 := d7; go_simp; with_reducible rfl))
      | (refine SeqS.u1 ?_)
      | (refine SeqS.k2 (v := ?_) ?_ ?_; rotate_left; focus (intro w' hb'; go_simp; with_reducible rfl))
      | (refine SeqS.k2 (v := ?_) ?_ ?_; rotate_left; focus (intro w' hb'; have d0 := d7; go_simp; with_reducible rfl))
      | (refine SeqS.u2 ?_)); simp only [Act.put, List.setIfInBounds_toArray, List.set_cons_zero, List.set_cons_succ])
    refine SeqS.done (by decide +kernel) ?_
    have x8 := q9.keep S7 q9.lt
    have x3 := p3.keep S7 p3.lt
    have xB := pB.trans (S7.mono pB.size)
    have xD := hD1.keep S7
    have l38 : G + 2 < G8 := l3
    clear p1 p3 q9 hD1 hU h8c h6r k7b S7
    have hBu := fBurn_any (w := w7) xD.ddc hfu.2
    have xDb := xD.burn hfu.1
    obtain ⟨cs2, hcs2⟩ : ∃ c, burnC cs1 D1.fuse = c := ⟨_, rfl⟩
    rw [hcs2] at hBu xDb
    have hl2 := xDb.ddc.l
    have ho2 := xDb.ddc.o
    have row2 : IsRow Tryz.prog 37 cs2.length := by rw [hl2]; exact rowDd
    clear hcs2
    go_wp2_with ((with_reducible refine wpList_load_blk rfl 37 (.tmp 8) rfl ?_ x8 rowDd hl1 ?_); rfl)
    refine hBu.mono ?_
    rintro q w13 ⟨rfl, b13⟩
    have x8 := x8.keep b13 x8.lt
    have x3 := x3.keep b13 x3.lt
    have xB := xB.trans (b13.mono xB.size)
    have xDb := xDb.keep b13
    refine RowKit.Hid.out ?_
    refine Lib.hid ?_
    clear b13 hBu
    go_wp2_with ((with_reducible refine store_row rfl 37 (.tmp 8) _ rfl ?_ ?_ x8 rowDd hl2 hl1 ho2 ?_); rfl; rfl; intro w14 b8 g8)
    have x3 := x3.grown g8 (fun e => by injection e; omega)
    have yB := xB.grown g8 xB.size (fun q hq => by injection hq with hq; rw [← hq]; have := hGH.out; omega)
    have hM6s : w.heap.size ≤ M6 := by have := zBH.out.size; have := hM6H.out; omega
    have hGM : G8 < M6 := by have := hM6H.out; omega
    have xDb := xDb.same (R' := fun b => R b ∨ M6 ≤ b) (w' := w14) (fun b hb hl => g8.block b hl (fun e => by
      injection e with e
      rcases hb with hb | hb
      · have := hRl b hb; have := hGH.out; omega
      · omega)) (fun b hb => hb)
    clear x8 g8 xB
    go_wp2_with fail
    obtain ⟨V10, hV10⟩ : ∃ V, w14.drew = V := ⟨_, rfl⟩
    have b8 : Blk V10 G8 37 cs2 := by rw [← hV10]; exact b8
    have x3 : Blk V10 (G + 2) 37 zs := by rw [← hV10]; exact x3
    have yB : Below w.heap.size w V10 := by rw [← hV10]; exact yB.drew
    have xDb : RDisk (fun b => R b ∨ M6 ≤ b) V10 cs2 D1.burn := by rw [← hV10]; exact xDb.keep (Below.drew (Below.refl _ _))
    have hAn := fAnswer_any (w := V10) xDb.ddc
    rw [show (if D1.burn.down = true then (18 : Int) else 0) = E from hEH.out] at hAn
    refine region_seqS (fun w' => Blk w' G8 37 cs2) (by kernel_rfl) (by rw [hV10]; exact b8) ?_
    simp only [pairs, Nat.reduceAdd]
    rw [hV10]
    clear hV10
    repeat ((first
      | (refine SeqS.y0 (v := .agg (cs2).toArray) (yields_blk (by rfl) 37 (.tmp 8) rfl rfl (fun w' h => h) (row2)) ?_)
      | (refine SeqS.k0 (v := ?_) ?_ ?_; rotate_left; focus (intro w' hb'; go_simp; with_reducible rfl))
      | (refine SeqS.u0 ?_)
      | (refine SeqS.y1 (v := .agg (cs2).toArray) (yields_blk (by rfl) 37 (.tmp 8) rfl rfl (fun w' h => h) (row2)) ?_)
      | (refine SeqS.k1 (v := ?_) ?_ ?_; rotate_left; focus (intro w' hb'; go_simp; with_reducible rfl))
      | (refine SeqS.u1 ?_)
      | (refine SeqS.y2 (v := .agg (cs2).toArray) (yields_blk (by rfl) 37 (.tmp 8) rfl rfl (fun w' h => h) (row2)) ?_)
      | (refine SeqS.k2 (v := ?_) ?_ ?_; rotate_left; focus (intro w' hb'; go_simp; with_reducible rfl))
      | (refine SeqS.u2 ?_)); simp only [Act.put, List.setIfInBounds_toArray, List.set_cons_zero, List.set_cons_succ])
    refine SeqS.alone (by decide +kernel) (by rfl) (fun K5 hK5 => ?_)
    go_simp
    go_at_call 49
    refine hAn.mono ?_
    rintro q w16 ⟨rfl, b16⟩
    go_simp
    have S16 := b8.keep b16 b8.lt
    have x3 := x3.keep b16 x3.lt
    have yB := yB.trans (b16.mono yB.size)
    have xDb := xDb.keep b16
    refine hK5 _ _ S16 ?_
    clear hK5 K5 b8 b16 hAn
    (try simp only [Act.put, List.setIfInBounds_toArray, List.set_cons_zero, List.set_cons_succ])
    refine SeqS.alone (by decide +kernel) (by rfl) (fun K5 hK5 => ?_)
    refine wp_store_part 37 (.tmp 6) (.tmp 62) rfl rfl rfl x3 row2 (by rw [hl2, hzl]; decide) ho2 (fun w17 hb17 hg17 => ?_)
    rw [overV_all _ _ (by rw [hl2, hzl])] at hb17
    have S17 := S16.grown hg17 (fun e => by injection e; omega)
    have yB := yB.grown hg17 yB.size (fun q hq => by injection hq with hq; rw [← hq, ← hGH.out]; omega)
    have xDb := xDb.same (R' := fun b => R b ∨ w.heap.size ≤ b) (w' := w17) (fun b hb hl => hg17.block b hl (fun e => by
      injection e with e
      rcases hb with hb | hb
      · have := hRl b hb; have := hGH.out; omega
      · omega)) (fun b hb => hb.imp id (fun h => Nat.le_trans hM6s h))
    refine hK5 _ _ S17 ?_
    clear hK5 K5 S16 x3 hg17
    repeat ((first
      | (refine SeqS.k0 (v := ?_) ?_ ?_; rotate_left; focus (intro w' hb'; go_simp; with_reducible rfl))
      | (refine SeqS.u0 ?_)
      | (refine SeqS.k1 (v := ?_) ?_ ?_; rotate_left; focus (intro w' hb'; go_simp; with_reducible rfl))
      | (refine SeqS.u1 ?_)
      | (refine SeqS.k2 (v := ?_) ?_ ?_; rotate_left; focus (intro w' hb'; go_simp; with_reducible rfl))
      | (refine SeqS.u2 ?_)); simp only [Act.put, List.setIfInBounds_toArray, List.set_cons_zero, List.set_cons_succ])
    refine SeqS.done (by decide +kernel) ?_
    go_wp2
    refine bodyPost_ret (results_bt18 rfl rfl hb17 row2) rfl ?_
    exact ⟨cs2, rfl, xDb, yB⟩

end Go.Proofs.YtcohbhimhacedaaGreatDoor

/-
  The document's own Do of a cut (layer 18), where it is done. New memory alone is written. Conditions: files of at most 2^47 bytes and some, 2^41 steps.
-/
namespace Go.Proofs.YtcohbhimhacedaaGreatDoor
open Go.RowKit

set_option maxRecDepth 100000 in
set_option maxHeartbeats 2000000 in
theorem fDoCut_ok {R : Nat → Prop} {w : World} {cs sc : List Value} {D : DkV} {A : Option Addr} {C i : Nat} {k : Nat} (h2 : RDisk R w cs D) (hi : i < 3) (hd : D.down = false) (hsc : stC (.cut k) A C = sc) (hst : RStep R w (stC (.cut k) A C) (.cut k)) (hlS : (D.f i).S.length ≤ 3518437208882)
    (o0 : FOk (D.set i ((D.f i).step (.cut k))).f0) (o1 : FOk (D.set i ((D.f i).step (.cut k))).f1) (o2 : FOk (D.set i ((D.f i).step (.cut k))).f2) (hfu : 0 ≤ (D.set i ((D.f i).step (.cut k))).fuse ∧ (D.set i ((D.f i).step (.cut k))).fuse < 9223372036854775808) (hRl : ∀ b, R b → b < w.heap.size) (hroom : ¬ D.room < ((D.set i ((D.f i).step (.cut k))).used : Int)) (hfo : FOk (D.f i)) (hlong : ¬ ((D.f i).held.length : Int) < (k : Int)) :
    Calls Tryz.prog 22 #[.agg cs.toArray, .int .i64 (i : Int), .agg sc.toArray] w fun q w' => ∃ cs', q = .returned (.tuple #[.agg cs'.toArray, .int .i64 (D.set i ((D.f i).step (.cut k))).burn.ans]) ∧ RDisk (fun b => R b ∨ w.heap.size ≤ b) w' cs' (D.set i ((D.f i).step (.cut k))).burn ∧ Below w.heap.size w w' := by
  obtain ⟨n, hnk⟩ : ∃ n : Int, (k : Int) = n := ⟨_, rfl⟩
  rw [hnk] at hlong
  have hn : ¬ n < 0 := by omega
  have hnkH := Lib.hid hnk
  clear hnk
  obtain ⟨i9, hi9, hz0, hz1, hz2⟩ := info_rst
  have h := h2.ddc
  rw [hd] at h
  have hl := h.l
  have ho := h.o
  have h6 := h.r
  have h8 := h.d
  have hrow : IsRow Tryz.prog 37 cs.length := by rw [hl]; exact rowDd
  clear h
  obtain ⟨zs, hzs⟩ : ∃ zs, ddZ = zs := ⟨_, rfl⟩
  have hz := zeroDd
  have hzl := ddZ_len
  rw [hzs] at hz hzl
  have hscl : sc.length = 3 := by rw [← hsc]; exact stC_len _ _ _
  have hscH := Lib.hid hsc
  clear hsc
  have rowsc : IsRow Tryz.prog 75 sc.length := by rw [hscl]; exact rowRs
  have hsc1 : ∀ u ∈ sc, u.oneCell' = true := by rw [← hscH.out]; exact stC_one _ _ _
  have hfold := fold_step hscl
  obtain ⟨ka, kcc, sa, kc, hcell, hKI, hKR, hSt⟩ := h2.fl i hi
  have hsl0 := hcell 1 _ rfl
  obtain ⟨L, hL, hLa⟩ := hSt.cells
  obtain ⟨N, hN⟩ : ∃ N, (D.f i).S.length = N := ⟨_, rfl⟩
  rw [hN] at hlS
  have hLr : ∀ w', Below w.heap.size w w' → N = 0 ∨ ∃ ad, sa = some ad ∧ ∀ j u, L[j]? = some u → w'.cell? (ad.add j) = some u := fun w' q => by
    rcases hLa with h0 | ⟨b, off, ha, hr⟩
    · exact .inl (by omega)
    · refine .inr ⟨_, ha, fun j u hu => ?_⟩
      have h9 := hr j u hu
      have hadd : (⟨b, off, none⟩ : Addr).add j = ⟨b, off + j, none⟩ := by unfold Addr.add; simp
      rw [hadd, q.cell (World.block_lt_of_cell? w _ h9)]
      exact h9
  have hLl : L.length = N * 3 := by rw [hL.len, hN]
  have hL1 := hL.one
  have hsl : cs[i * 2 + 1]? = some (.slice sa N kc) := by rw [hsl0, hN]
  have hmake := fun w' a' c' hB B ho => do_make (w' := w') (a' := a') (c' := c') (B := B) h2 i hi hL hst hscH.out hN hB ho
  have hNH := Lib.hid hN
  obtain ⟨D1, hDe⟩ : ∃ D1, D.set i ((D.f i).step (.cut k)) = D1 := ⟨_, rfl⟩
  rw [hDe] at o0 o1 o2 hroom hfu
  rw [hDe] at hmake ⊢
  clear hDe
  obtain ⟨E, hE⟩ : ∃ E, D1.burn.ans = E := ⟨_, rfl⟩
  rw [hE]
  have hEH := Lib.hid hE
  clear hE
  have d7 : decide (D.room < (D1.used : Int)) = false := decide_eq_false hroom
  clear hsl0 hN hLa hcell hKI hKR hSt hL hst
  have hb1 := (Blk.new w 37 cs).alloc (.cells sc.toArray 75)
  have hb1 := hb1.alloc (.cells zs.toArray 37)
  have hb2 : Blk ((w.alloc (.cells cs.toArray 37)).alloc (.cells sc.toArray 75)) (w.heap.size + 1) 75 sc := Blk.new1 w _ _ sc
  have hb2 := hb2.alloc (.cells zs.toArray 37)
  have hb3 := Blk.new ((w.alloc (.cells cs.toArray 37)).alloc (.cells sc.toArray 75)) 37 zs
  rw [size2] at hb3
  have hB3 := below3 w (.cells cs.toArray 37) (.cells sc.toArray 75) (.cells zs.toArray 37)
  obtain ⟨W, hW⟩ : ∃ W, ((w.alloc (.cells cs.toArray 37)).alloc (.cells sc.toArray 75)).alloc (.cells zs.toArray 37) = W := ⟨_, rfl⟩
  rw [hW] at hb1 hb2 hb3 hB3
  obtain ⟨G, hG⟩ : ∃ G, w.heap.size = G := ⟨_, rfl⟩
  rw [hG] at hb1 hb2 hb3
  have hWH := Lib.hid hW
  have hGH := Lib.hid hG
  obtain ⟨V, hV⟩ : ∃ V, W.drew = V := ⟨_, rfl⟩
  have kb1 : Blk V G 37 cs := by rw [← hV]; exact hb1
  have kb2 : Blk V (G + 1) 75 sc := by rw [← hV]; exact hb2
  have kb3 : Blk V (G + 2) 37 zs := by rw [← hV]; exact hb3
  have kB : Below w.heap.size w V := by rw [← hV]; exact hB3.drew
  have hBH := Lib.hid kB
  have hVH := Lib.hid hV
  have bV : Below V.heap.size V V := Below.refl _ _
  clear hW hG hB3 hzs hV hb1 hb2 hb3
  have hs0 := Lib.hid (fun (w' : World) (q : Below V.heap.size V w') => (show w'.cell? ⟨G + 1, 0, none⟩ = some (.bool true) by rw [q.cell (p := ⟨G + 1, 0, none⟩) kb2.lt, kb2.cell 0, ← hscH.out]; rfl))
  have hs1 := Lib.hid (fun (w' : World) (q : Below V.heap.size V w') => (show w'.cell? ⟨G + 1, 1, none⟩ = some (.int .i64 n) by rw [q.cell (p := ⟨G + 1, 1, none⟩) kb2.lt, kb2.cell 1, ← hscH.out]; exact congrArg some (congrArg (Value.int .i64) hnkH.out)))
  have d1 : decide ((i : Int) < 0) = false := decide_eq_false (by omega)
  have d2 : decide ((2 : Int) < (i : Int)) = false := decide_eq_false (by omega)
  have hi3 : (i : Int) < 3 := by omega
  have hco := h2.co i hi
  have hRV := fun (w' : World) (q : Below V.heap.size V w') => hco.2.keep (hBH.out.trans (q.mono hBH.out.size))
  have hcl := hco.2.len
  have hcr := hco.1
  obtain ⟨c2, hc2⟩ : ∃ c2, fileC cs i = c2 := ⟨_, rfl⟩
  rw [hc2] at hRV hcl hcr
  have hHo := Lib.hid (fun (w' : World) (q : Below V.heap.size V w') => fHolds_any (hRV w' q) hfo)
  have hra := Lib.hid (fun (w' : World) (q : Below V.heap.size V w') => (show w'.rangeAt G (i * 2) c2 from (kb1.keep q kb1.lt).range _ _ hcr))
  have hrow2 : IsRow Tryz.prog 34 c2.length := by rw [hcl]; exact rowRf
  have d3 : decide (n < 0) = false := decide_eq_false hn
  clear hRV hcr hcl hc2 hco
  have d4 : decide (((D.f i).held.length : Int) < n) = false := decide_eq_false hlong
  clear hn hlong
  go_enter Tryz.func22, Tryz.ntmps22
  go_wp2_with ((with_reducible refine box_row rfl 37 (.tmp 0) rfl cs rfl ?_); refine RowKit.Hid.out ?_)
  refine Lib.hid ?_
  refine box_row rfl 75 (.tmp 2) rfl sc rfl ?_
  refine wpList_alloc_blk rfl 37 rfl hz ?_
  rw [hWH.out, size2, size1, hGH.out]
  go_wp2_with fail
  refine region_seqS (fun w' => Below V.heap.size V w') (by kernel_rfl) (by rw [hVH.out]; exact bV) ?_
  simp only [pairs, Nat.reduceAdd]
  rw [hVH.out]
  repeat ((first
    | (refine SeqS.y0 (v := .agg (c2).toArray) (yields_part (by rfl) 34 (.tmp 27) rfl rfl (fun w' h => hra.out w' h) (hrow2)) ?_)
    | (refine SeqS.k0 (v := ?_) ?_ ?_; rotate_left; focus (intro w' hb'; go_simp; with_reducible rfl))
    | (refine SeqS.k0 (v := ?_) ?_ ?_; rotate_left; focus (intro w' hb'; have d0 := hs0.out w' hb'; go_simp; with_reducible rfl))
    | (refine SeqS.k0 (v := ?_) ?_ ?_; rotate_left; focus (intro w' hb'; have d0 := hs1.out w' hb'; go_simp; with_reducible rfl))
    | (refine SeqS.u0 ?_)
    | (refine SeqS.y1 (v := .agg (c2).toArray) (yields_part (by rfl) 34 (.tmp 27) rfl rfl (fun w' h => hra.out w' h) (hrow2)) ?_)
    | (refine SeqS.k1 (v := ?_) ?_ ?_; rotate_left; focus (intro w' hb'; go_simp; with_reducible rfl))
    | (refine SeqS.k1 (v := ?_) ?_ ?_; rotate_left; focus (intro w' hb'; have d0 := hs0.out w' hb'; go_simp; with_reducible rfl))
    | (refine SeqS.k1 (v := ?_) ?_ ?_; rotate_left; focus (intro w' hb'; have d0 := hs1.out w' hb'; go_simp; with_reducible rfl))
    | (refine SeqS.u1 ?_)
    | (refine SeqS.y2 (v := .agg (c2).toArray) (yields_part (by rfl) 34 (.tmp 27) rfl rfl (fun w' h => hra.out w' h) (hrow2)) ?_)
    | (refine SeqS.k2 (v := ?_) ?_ ?_; rotate_left; focus (intro w' hb'; go_simp; with_reducible rfl))
    | (refine SeqS.k2 (v := ?_) ?_ ?_; rotate_left; focus (intro w' hb'; have d0 := hs0.out w' hb'; go_simp; with_reducible rfl))
    | (refine SeqS.k2 (v := ?_) ?_ ?_; rotate_left; focus (intro w' hb'; have d0 := hs1.out w' hb'; go_simp; with_reducible rfl))
    | (refine SeqS.u2 ?_)); simp only [Act.put, List.setIfInBounds_toArray, List.set_cons_zero, List.set_cons_succ])
  refine SeqS.alone (by decide +kernel) (by rfl) (fun K hK => ?_)
  go_simp
  go_at_call 30
  refine (hHo.out _ bV).mono ?_
  rintro e w4 ⟨b9, c9, rfl, o4, b4⟩
  go_simp
  have S4 : Below V.heap.size V w4 := bV.trans (b4.mono bV.size)
  refine hK _ _ S4 ?_
  clear hK K
  repeat ((first
    | (refine SeqS.k0 (v := ?_) ?_ ?_; rotate_left; focus (intro w' hb'; go_simp; with_reducible rfl))
    | (refine SeqS.k0 (v := ?_) ?_ ?_; rotate_left; focus (intro w' hb'; have d0 := d4; go_simp; with_reducible rfl))
    | (refine SeqS.u0 ?_)
    | (refine SeqS.k1 (v := ?_) ?_ ?_; rotate_left; focus (intro w' hb'; go_simp; with_reducible rfl))
    | (refine SeqS.k1 (v := ?_) ?_ ?_; rotate_left; focus (intro w' hb'; have d0 := d4; go_simp; with_reducible rfl))
    | (refine SeqS.u1 ?_)
    | (refine SeqS.k2 (v := ?_) ?_ ?_; rotate_left; focus (intro w' hb'; go_simp; with_reducible rfl))
    | (refine SeqS.k2 (v := ?_) ?_ ?_; rotate_left; focus (intro w' hb'; have d0 := d4; go_simp; with_reducible rfl))
    | (refine SeqS.u2 ?_)); simp only [Act.put, List.setIfInBounds_toArray, List.set_cons_zero, List.set_cons_succ])
  refine SeqS.done (by decide +kernel) ?_
  have xb1 := kb1.keep S4 kb1.lt
  have xb2 := kb2.keep S4 kb2.lt
  have xb3 := kb3.keep S4 kb3.lt
  have xB : RowKit.Hid (Below w.heap.size w w4) := Lib.hid (hBH.out.trans (S4.mono hBH.out.size))
  clear kb1 kb2 kb3 S4 b4 o4 hs0 hs1 hHo hra d1 d2 d3 d4 bV
  obtain ⟨X, hX⟩ : ∃ X, w4 = X := ⟨_, rfl⟩
  rw [hX] at xb1 xb2 xb3 xB ⊢
  clear hX
  have e8 := xb1.cell 8
  rw [h8] at e8
  go_wp2_with ((with_reducible refine wpList_load_blk rfl 37 (.tmp 3) rfl ?_ xb1 rowDd hl ?_); rfl; refine RowKit.Hid.out ?_)
  refine Lib.hid ?_
  refine wpList_alloc_blk rfl 37 rfl hz ?_
  have yn := Blk.new X 37 zs
  have yBX := below1 X (.cells zs.toArray 37)
  have y1 := xb1.alloc (.cells zs.toArray 37)
  have y2 := xb2.alloc (.cells zs.toArray 37)
  have y3 := xb3.alloc (.cells zs.toArray 37)
  have l3 := xb3.lt
  obtain ⟨G8, hG8⟩ : ∃ G8, X.heap.size = G8 := ⟨_, rfl⟩
  obtain ⟨Y, hY⟩ : ∃ Y, X.alloc (.cells zs.toArray 37) = Y := ⟨_, rfl⟩
  rw [hY] at yn yBX y1 y2 y3 ⊢
  rw [hG8] at yn yBX l3 ⊢
  refine store_row rfl 37 (.tmp 8) (.tmp 39) rfl rfl rfl yn rowDd hl hzl ho ?_
  intro w5 yb8 yg8
  have yb1 := y1.grown yg8 (fun e => by injection e; omega)
  have yb2 := y2.grown yg8 (fun e => by injection e; omega)
  have yb3 := y3.grown yg8 (fun e => by injection e; omega)
  have yB0 : Below w.heap.size w w5 := (xB.out.trans ((hG8 ▸ yBX).mono xB.out.size)).grown yg8 (by have := xB.out.size; have := yBX.size; omega) (fun q hq => by injection hq with hq; rw [← hq, ← hG8]; exact xB.out.size)
  clear yn yBX y1 y2 y3 hY hG8 yg8 xb1 xb2 xb3 xB
  go_wp2_with fail
  obtain ⟨V6, hV6⟩ : ∃ V, w5.drew = V := ⟨_, rfl⟩
  have zb1 : Blk V6 G 37 cs := by rw [← hV6]; exact yb1
  have zb2 : Blk V6 (G + 1) 75 sc := by rw [← hV6]; exact yb2
  have zb3 : Blk V6 (G + 2) 37 zs := by rw [← hV6]; exact yb3
  have zb8 : Blk V6 G8 37 cs := by rw [← hV6]; exact yb8
  have zB : Below w.heap.size w V6 := by rw [← hV6]; exact yB0.drew
  have zg : G8 < V6.heap.size := zb8.lt
  have hst6 := Lib.hid (fun (w' : World) (q : Below G8 V6 w') => (show w'.cell? ⟨G, i * 2 + 1, none⟩ = some (.slice sa N kc) by rw [q.cell (p := ⟨G, i * 2 + 1, none⟩) (show G < G8 by omega), zb1.cell]; exact hsl))
  have hsd6 := Lib.hid (fun (w' : World) (q : Below G8 V6 w') => (show Blk w' (G + 1) 75 sc from zb2.keep q (by omega)))
  have hrL := fun (w' : World) (q : Below G8 V6 w') => hLr w' ((zB.trans (q.mono (by have := hGH.out; omega))))
  have hrLH := Lib.hid hrL
  have b6 : Below G8 V6 V6 := Below.refl _ _
  obtain ⟨M6, hM6⟩ : ∃ M6, V6.heap.size = M6 := ⟨_, rfl⟩
  have hM6H := Lib.hid hM6
  clear hM6
  refine region_seqS (fun w' => Below G8 V6 w') (by kernel_rfl) (by rw [hV6]; exact b6) ?_
  simp only [pairs, Nat.reduceAdd]
  rw [hV6]
  have zBH := Lib.hid zB
  clear hV6 yb1 yb2 yb3 yb8 yB0 hrL zB
  repeat ((first
    | (refine SeqS.y0 (v := .agg (sc).toArray) (yields_blk (by rfl) 75 (.tmp 5) rfl rfl (fun w' h => hsd6.out w' h) (rowsc)) ?_)
    | (refine SeqS.k0 (v := ?_) ?_ ?_; rotate_left; focus (intro w' hb'; go_simp; with_reducible rfl))
    | (refine SeqS.k0 (v := ?_) ?_ ?_; rotate_left; focus (intro w' hb'; have d0 := hst6.out w' hb'; go_simp; with_reducible rfl))
    | (refine SeqS.u0 ?_)
    | (refine SeqS.y1 (v := .agg (sc).toArray) (yields_blk (by rfl) 75 (.tmp 5) rfl rfl (fun w' h => hsd6.out w' h) (rowsc)) ?_)
    | (refine SeqS.k1 (v := ?_) ?_ ?_; rotate_left; focus (intro w' hb'; go_simp; with_reducible rfl))
    | (refine SeqS.k1 (v := ?_) ?_ ?_; rotate_left; focus (intro w' hb'; have d0 := hst6.out w' hb'; go_simp; with_reducible rfl))
    | (refine SeqS.u1 ?_)
    | (refine SeqS.y2 (v := .agg (sc).toArray) (yields_blk (by rfl) 75 (.tmp 5) rfl rfl (fun w' h => hsd6.out w' h) (rowsc)) ?_)
    | (refine SeqS.k2 (v := ?_) ?_ ?_; rotate_left; focus (intro w' hb'; go_simp; with_reducible rfl))
    | (refine SeqS.k2 (v := ?_) ?_ ?_; rotate_left; focus (intro w' hb'; have d0 := hst6.out w' hb'; go_simp; with_reducible rfl))
    | (refine SeqS.u2 ?_)
    | (refine SeqS.y3 (v := .agg (sc).toArray) (yields_blk (by rfl) 75 (.tmp 5) rfl rfl (fun w' h => hsd6.out w' h) (rowsc)) ?_)
    | (refine SeqS.k3 (v := ?_) ?_ ?_; rotate_left; focus (intro w' hb'; go_simp; with_reducible rfl))
    | (refine SeqS.k3 (v := ?_) ?_ ?_; rotate_left; focus (intro w' hb'; have d0 := hst6.out w' hb'; go_simp; with_reducible rfl))
    | (refine SeqS.u3 ?_)
    | (refine SeqS.take4 (v := .agg (sc).toArray) (by first | assumption | trivial) (by kernel_rfl) (by decide +kernel) (by decide +kernel) (yields_blk (by rfl) 75 (.tmp 5) rfl rfl (fun w' h => hsd6.out w' h) (rowsc)) ?_)
    | (refine SeqS.take4 (v := ?_) (by first | assumption | trivial) (by kernel_rfl) (by decide +kernel) (by decide +kernel) (Or.inl ⟨by rfl, ?_⟩) ?_; rotate_left; focus (intro w' hb'; go_simp; with_reducible rfl))
    | (refine SeqS.take4 (v := ?_) (by first | assumption | trivial) (by kernel_rfl) (by decide +kernel) (by decide +kernel) (Or.inl ⟨by rfl, ?_⟩) ?_; rotate_left; focus (intro w' hb'; have d0 := hst6.out w' hb'; go_simp; with_reducible rfl))
    | (refine SeqS.take4 (v := undef) (by first | assumption | trivial) (by kernel_rfl) (by decide +kernel) (by decide +kernel) (Or.inr ⟨by rfl, rfl⟩) ?_)); simp only [Act.put, List.setIfInBounds_toArray, List.set_cons_zero, List.set_cons_succ])
  have T0 : Below V6.heap.size V6 V6 := Below.refl _ _
  refine SeqS.either (rs := [1, 9]) (by decide +kernel) ?_
  intro o9 ho9
  simp only [List.mem_cons, List.not_mem_nil, or_false] at ho9
  rcases ho9 with rfl | rfl
  · refine ⟨[], _, [_, _, _, _, _, _], rfl, by rfl, fun K1 hK => ?_⟩
    go_simp
    have T1 : Below V6.heap.size V6 (V6.alloc (.cells #[] 75)) := T0.alloc T0.size _
    have own41 : (V6.alloc (.cells #[] 75)).ownsRow M6 75 3 (.slice (some ⟨V6.heap.size, 0, none⟩) 0 0) 0 [] := own_weakN (World.ownsRow_made V6 #[] 0 (Nat.le_refl _) (Nat.zero_le _) rfl) (by rw [← hM6H.out]; exact T0.size)
    refine hK _ _ (T1.mono (Nat.le_of_lt zg)) ?_
    clear hK K1
    obtain ⟨B41, hB41⟩ : ∃ B41, V6.heap.size = B41 := ⟨_, rfl⟩
    rw [hB41] at own41 ⊢
    obtain ⟨w1, hw1⟩ : ∃ w, V6.alloc (.cells #[] 75) = w := ⟨_, rfl⟩
    rw [hw1] at T1 own41 ⊢
    clear hw1
    have lA := (own41.lt B41 rfl).2
    (try simp only [Act.put, List.setIfInBounds_toArray, List.set_cons_zero, List.set_cons_succ])
    refine SeqS.either (rs := [7, 9]) (by decide +kernel) ?_
    intro o9 ho9
    simp only [List.mem_cons, List.not_mem_nil, or_false] at ho9
    rcases ho9 with rfl | rfl
    · refine ⟨[], _, [_, _, _, _, _], rfl, by rfl, fun K1 hK => ?_⟩
      refine wp_append_row (.tmp 41) (.tmp 46) 32 rfl M6 75 i9 _ 3 40 Tryz.underlying32 hi9 hz0 hz1 hz2 rfl (by decide) rfl own41 rfl hLl (hrLH.out w1 (T1.mono (Nat.le_of_lt zg))) hL1 ?_ ?_ (by rw [← hM6H.out]; exact T1.size) ?_
      · unfold maxLen; omega
      · omega
      intro v47 w2 own47 g47
      have T2 : Below V6.heap.size V6 w2 := T1.grown g47 T1.size (fun q hq => by rw [hM6H.out]; exact (own41.lt q hq).1)
      refine hK _ _ (T2.mono (Nat.le_of_lt zg)) ?_
      clear hK K1
      rw [Nat.zero_add, List.nil_append] at own47
      have hex : ∃ a47 c47, v47 = .slice a47 N c47 := own_sliceN own47
      obtain ⟨a47, c47, hv47⟩ := hex
      subst hv47
      clear g47 own41
      (try simp only [Act.put, List.setIfInBounds_toArray, List.set_cons_zero, List.set_cons_succ])
      refine SeqS.alone (by decide +kernel) (by rfl) (fun K1 hK => ?_)
      go_simp
      (try rw [hfold])
      have T3 : Below V6.heap.size V6 (w2.alloc (.cells sc.toArray 75)) := T2.alloc T2.size _
      have k49 := Blk.new w2 75 sc
      have own47 := own_stayN own47 (below1 w2 (.cells sc.toArray 75))
      refine hK _ _ (T3.mono (Nat.le_of_lt zg)) ?_
      clear hK K1
      obtain ⟨B49, hB49⟩ : ∃ B49, w2.heap.size = B49 := ⟨_, rfl⟩
      rw [hB49] at k49 ⊢
      obtain ⟨w3, hw3⟩ : ∃ w, w2.alloc (.cells sc.toArray 75) = w := ⟨_, rfl⟩
      rw [hw3] at T3 k49 own47 ⊢
      clear hw3
      have lC := k49.lt
      (try simp only [Act.put, List.setIfInBounds_toArray, List.set_cons_zero, List.set_cons_succ])
      refine SeqS.alone (by decide +kernel) (by rfl) (fun K1 hK => ?_)
      refine wp_append_row (.tmp 47) (.tmp 49) 32 rfl M6 75 i9 _ 3 40 Tryz.underlying32 hi9 hz0 hz1 hz2 rfl (by decide) rfl own47 rfl (m := 1) (news := sc) hscl (.inr ⟨_, rfl, fun j u hu => cell_of_blk k49 j u hu⟩) hsc1 ?_ ?_ (by rw [← hM6H.out]; exact T3.size) ?_
      · unfold maxLen; omega
      · omega
      intro v50 w10 own50 g50
      have T10 : Below V6.heap.size V6 w10 := T3.grown g50 T3.size (fun q hq => by rw [hM6H.out]; exact (own47.lt q hq).1)
      refine hK _ _ (T10.mono (Nat.le_of_lt zg)) ?_
      clear hK K1
      (try simp only [Act.put, List.setIfInBounds_toArray, List.set_cons_zero, List.set_cons_succ])
      have hex : ∃ a50 c50, v50 = .slice a50 (N + 1) c50 := own_sliceN own50
      obtain ⟨a50, c50, hv50⟩ := hex
      subst hv50
      have q8 := zb8.keep T10 zg
      have e81 := q8.cell (i * 2 + 1)
      rw [hsl] at e81
      have f81 := q8.frozen (i * 2 + 1)
      have q9 := q8.set (i * 2 + 1) (.slice a50 (N + 1) c50)
      have S11 : Below G8 V6 (w10.setCell ⟨G8, i * 2 + 1, none⟩ (.slice a50 (N + 1) c50)) := (T10.mono (Nat.le_of_lt zg)).setCell (p := ⟨G8, i * 2 + 1, none⟩) (Nat.le_refl _) _
      have own51 := own_sameN own50 (w' := w10.setCell ⟨G8, i * 2 + 1, none⟩ (.slice a50 (N + 1) c50)) (fun q hq => (grown_setCell w10 G8 (i * 2 + 1) (.slice a50 (N + 1) c50)).block q (own50.lt q hq).2 (fun e => by injection e with e; have := (own50.lt q hq).1; have := hM6H.out; omega))
      have S10 : Below G8 V6 w10 := T10.mono (Nat.le_of_lt zg)
      clear g50 own47 k49 T3 q8 own50 T10
      repeat ((first
        | (refine SeqS.k0 (v := ?_) ?_ ?_; rotate_left; focus (intro w' hb'; go_simp; with_reducible rfl))
        | (refine SeqS.u0 ?_)
        | (refine SeqS.k1 (v := ?_) ?_ ?_; rotate_left; focus (intro w' hb'; go_simp; with_reducible rfl))
        | (refine SeqS.u1 ?_)
        | (refine SeqS.k2 (v := ?_) ?_ ?_; rotate_left; focus (intro w' hb'; go_simp; with_reducible rfl))
        | (refine SeqS.u2 ?_)); simp only [Act.put, List.setIfInBounds_toArray, List.set_cons_zero, List.set_cons_succ])
      refine SeqS.alone (by decide +kernel) (by rfl) (fun K1 hK => ?_)
      go_simp
      refine hK _ _ S11 ?_
      clear hK K1
      refine SeqS.done (by decide +kernel) ?_
      clear e81 f81
      obtain ⟨w11, hw11⟩ : ∃ w, w10.setCell ⟨G8, i * 2 + 1, none⟩ (.slice a50 (N + 1) c50) = w := ⟨_, rfl⟩
      rw [hw11] at q9 S11 own51 ⊢
      clear hw11
      have p1 := zb1.keep S11 (by omega)
      have p3 := zb3.keep S11 (by omega)
      have pB := zBH.out.trans (S11.mono (show w.heap.size ≤ G8 by have := hGH.out; omega))
      have hD1 := hmake w11 a50 c50 pB M6 own51
      clear own51 S11
      obtain ⟨cs1, hcs1⟩ : ∃ c, cs.set (i * 2 + 1) (.slice a50 (N + 1) c50) = c := ⟨_, rfl⟩
      rw [hcs1] at q9 hD1
      have hl1 : cs1.length = 9 := by rw [← hcs1, List.length_set]; exact hl
      have row1 : IsRow Tryz.prog 37 cs1.length := by rw [hl1]; exact rowDd
      obtain ⟨V7, hV7⟩ : ∃ V, w11.drew = V := ⟨_, rfl⟩
      have p1 : Blk V7 G 37 cs := by rw [← hV7]; exact p1
      have p3 : Blk V7 (G + 2) 37 zs := by rw [← hV7]; exact p3
      have q9 : Blk V7 G8 37 cs1 := by rw [← hV7]; exact q9
      have pB : Below w.heap.size w V7 := by rw [← hV7]; exact pB.drew
      have hD1 : RDisk (fun b => R b ∨ M6 ≤ b) V7 cs1 D1 := by rw [← hV7]; exact hD1.keep (Below.drew (Below.refl _ _))
      have hU := Lib.hid (fun w' (q : Below V7.heap.size V7 w') => fUsed_any (hD1.keep q) o0 o1 o2)
      have h8c := Lib.hid (fun w' (q : Below V7.heap.size V7 w') => q9.keep q q9.lt)
      have h6r := Lib.hid (fun (w' : World) (q : Below V7.heap.size V7 w') => (show w'.cell? ⟨G, 6, none⟩ = some (.int .i64 D.room) by rw [q.cell (p := ⟨G, 6, none⟩) p1.lt, p1.cell 6]; exact h6))
      have k7b : Below V7.heap.size V7 V7 := Below.refl _ _
      clear hcs1
      go_wp2_with fail
      refine region_seqS (fun w' => Below V7.heap.size V7 w') (by kernel_rfl) (by rw [hV7]; exact k7b) ?_
      simp only [pairs, Nat.reduceAdd]
      rw [hV7]
      clear hV7
      repeat ((first
        | (refine SeqS.y0 (v := .agg (cs1).toArray) (yields_blk (by rfl) 37 (.tmp 8) rfl rfl (fun w' h => h8c.out w' h) (row1)) ?_)
        | (refine SeqS.k0 (v := ?_) ?_ ?_; rotate_left; focus (intro w' hb'; go_simp; with_reducible rfl))
        | (refine SeqS.k0 (v := ?_) ?_ ?_; rotate_left; focus (intro w' hb'; have d0 := h6r.out w' hb'; go_simp; with_reducible rfl))
        | (refine SeqS.u0 ?_)
        | (refine SeqS.y1 (v := .agg (cs1).toArray) (yields_blk (by rfl) 37 (.tmp 8) rfl rfl (fun w' h => h8c.out w' h) (row1)) ?_)
        | (refine SeqS.k1 (v := ?_) ?_ ?_; rotate_left; focus (intro w' hb'; go_simp; with_reducible rfl))
        | (refine SeqS.k1 (v := ?_) ?_ ?_; rotate_left; focus (intro w' hb'; have d0 := h6r.out w' hb'; go_simp; with_reducible rfl))
        | (refine SeqS.u1 ?_)
        | (refine SeqS.y2 (v := .agg (cs1).toArray) (yields_blk (by rfl) 37 (.tmp 8) rfl rfl (fun w' h => h8c.out w' h) (row1)) ?_)
        | (refine SeqS.k2 (v := ?_) ?_ ?_; rotate_left; focus (intro w' hb'; go_simp; with_reducible rfl))
        | (refine SeqS.k2 (v := ?_) ?_ ?_; rotate_left; focus (intro w' hb'; have d0 := h6r.out w' hb'; go_simp; with_reducible rfl))
        | (refine SeqS.u2 ?_)); simp only [Act.put, List.setIfInBounds_toArray, List.set_cons_zero, List.set_cons_succ])
      refine SeqS.alone (by decide +kernel) (by rfl) (fun K hK => ?_)
      go_simp
      go_at_call 47
      refine (hU.out _ k7b).mono ?_
      rintro e w7 ⟨rfl, b7⟩
      go_simp
      have S7 : Below V7.heap.size V7 w7 := k7b.trans (b7.mono k7b.size)
      refine hK _ _ S7 ?_
      clear hK K
      repeat ((first
        | (refine SeqS.k0 (v := ?_) ?_ ?_; rotate_left; focus (intro w' hb'; go_simp; with_reducible rfl))
        | (refine SeqS.k0 (v := ?_) ?_ ?_; rotate_left; focus (intro w' hb'; have d0 := d7; go_simp; with_reducible rfl))
        | (refine SeqS.u0 ?_)
        | (refine SeqS.k1 (v := ?_) ?_ ?_; rotate_left; focus (intro w' hb'; go_simp; with_reducible rfl))
        | (refine SeqS.k1 (v := ?_) ?_ ?_; rotate_left; focus (intro w' hb'; have d0 := d7; go_simp; with_reducible rfl))
        | (refine SeqS.u1 ?_)
        | (refine SeqS.k2 (v := ?_) ?_ ?_; rotate_left; focus (intro w' hb'; go_simp; with_reducible rfl))
        | (refine SeqS.k2 (v := ?_) ?_ ?_; rotate_left; focus (intro w' hb'; have d0 := d7; go_simp; with_reducible rfl))
        | (refine SeqS.u2 ?_)); simp only [Act.put, List.setIfInBounds_toArray, List.set_cons_zero, List.set_cons_succ])
      refine SeqS.done (by decide +kernel) ?_
      have x8 := q9.keep S7 q9.lt
      have x3 := p3.keep S7 p3.lt
      have xB := pB.trans (S7.mono pB.size)
      have xD := hD1.keep S7
      have l38 : G + 2 < G8 := l3
      clear p1 p3 q9 hD1 hU h8c h6r k7b S7
      have hBu := fBurn_any (w := w7) xD.ddc hfu.2
      have xDb := xD.burn hfu.1
      obtain ⟨cs2, hcs2⟩ : ∃ c, burnC cs1 D1.fuse = c := ⟨_, rfl⟩
      rw [hcs2] at hBu xDb
      have hl2 := xDb.ddc.l
      have ho2 := xDb.ddc.o
      have row2 : IsRow Tryz.prog 37 cs2.length := by rw [hl2]; exact rowDd
      clear hcs2
      go_wp2_with ((with_reducible refine wpList_load_blk rfl 37 (.tmp 8) rfl ?_ x8 rowDd hl1 ?_); rfl)
      refine hBu.mono ?_
      rintro q w13 ⟨rfl, b13⟩
      have x8 := x8.keep b13 x8.lt
      have x3 := x3.keep b13 x3.lt
      have xB := xB.trans (b13.mono xB.size)
      have xDb := xDb.keep b13
      refine RowKit.Hid.out ?_
      refine Lib.hid ?_
      clear b13 hBu
      go_wp2_with ((with_reducible refine store_row rfl 37 (.tmp 8) _ rfl ?_ ?_ x8 rowDd hl2 hl1 ho2 ?_); rfl; rfl; intro w14 b8 g8)
      have x3 := x3.grown g8 (fun e => by injection e; omega)
      have yB := xB.grown g8 xB.size (fun q hq => by injection hq with hq; rw [← hq]; have := hGH.out; omega)
      have hM6s : w.heap.size ≤ M6 := by have := zBH.out.size; have := hM6H.out; omega
      have hGM : G8 < M6 := by have := hM6H.out; omega
      have xDb := xDb.same (R' := fun b => R b ∨ M6 ≤ b) (w' := w14) (fun b hb hl => g8.block b hl (fun e => by
        injection e with e
        rcases hb with hb | hb
        · have := hRl b hb; have := hGH.out; omega
        · omega)) (fun b hb => hb)
      clear x8 g8 xB
      go_wp2_with fail
      obtain ⟨V10, hV10⟩ : ∃ V, w14.drew = V := ⟨_, rfl⟩
      have b8 : Blk V10 G8 37 cs2 := by rw [← hV10]; exact b8
      have x3 : Blk V10 (G + 2) 37 zs := by rw [← hV10]; exact x3
      have yB : Below w.heap.size w V10 := by rw [← hV10]; exact yB.drew
      have xDb : RDisk (fun b => R b ∨ M6 ≤ b) V10 cs2 D1.burn := by rw [← hV10]; exact xDb.keep (Below.drew (Below.refl _ _))
      have hAn := fAnswer_any (w := V10) xDb.ddc
      rw [show (if D1.burn.down = true then (18 : Int) else 0) = E from hEH.out] at hAn
      refine region_seqS (fun w' => Blk w' G8 37 cs2) (by kernel_rfl) (by rw [hV10]; exact b8) ?_
      simp only [pairs, Nat.reduceAdd]
      rw [hV10]
      clear hV10
      repeat ((first
        | (refine SeqS.y0 (v := .agg (cs2).toArray) (yields_blk (by rfl) 37 (.tmp 8) rfl rfl (fun w' h => h) (row2)) ?_)
        | (refine SeqS.k0 (v := ?_) ?_ ?_; rotate_left; focus (intro w' hb'; go_simp; with_reducible rfl))
        | (refine SeqS.u0 ?_)
        | (refine SeqS.y1 (v := .agg (cs2).toArray) (yields_blk (by rfl) 37 (.tmp 8) rfl rfl (fun w' h => h) (row2)) ?_)
        | (refine SeqS.k1 (v := ?_) ?_ ?_; rotate_left; focus (intro w' hb'; go_simp; with_reducible rfl))
        | (refine SeqS.u1 ?_)
        | (refine SeqS.y2 (v := .agg (cs2).toArray) (yields_blk (by rfl) 37 (.tmp 8) rfl rfl (fun w' h => h) (row2)) ?_)
        | (refine SeqS.k2 (v := ?_) ?_ ?_; rotate_left; focus (intro w' hb'; go_simp; with_reducible rfl))
        | (refine SeqS.u2 ?_)); simp only [Act.put, List.setIfInBounds_toArray, List.set_cons_zero, List.set_cons_succ])
      refine SeqS.alone (by decide +kernel) (by rfl) (fun K5 hK5 => ?_)
      go_simp
      go_at_call 49
      refine hAn.mono ?_
      rintro q w16 ⟨rfl, b16⟩
      go_simp
      have S16 := b8.keep b16 b8.lt
      have x3 := x3.keep b16 x3.lt
      have yB := yB.trans (b16.mono yB.size)
      have xDb := xDb.keep b16
      refine hK5 _ _ S16 ?_
      clear hK5 K5 b8 b16 hAn
      (try simp only [Act.put, List.setIfInBounds_toArray, List.set_cons_zero, List.set_cons_succ])
      refine SeqS.alone (by decide +kernel) (by rfl) (fun K5 hK5 => ?_)
      refine wp_store_part 37 (.tmp 6) (.tmp 62) rfl rfl rfl x3 row2 (by rw [hl2, hzl]; decide) ho2 (fun w17 hb17 hg17 => ?_)
      rw [overV_all _ _ (by rw [hl2, hzl])] at hb17
      have S17 := S16.grown hg17 (fun e => by injection e; omega)
      have yB := yB.grown hg17 yB.size (fun q hq => by injection hq with hq; rw [← hq, ← hGH.out]; omega)
      have xDb := xDb.same (R' := fun b => R b ∨ w.heap.size ≤ b) (w' := w17) (fun b hb hl => hg17.block b hl (fun e => by
        injection e with e
        rcases hb with hb | hb
        · have := hRl b hb; have := hGH.out; omega
        · omega)) (fun b hb => hb.imp id (fun h => Nat.le_trans hM6s h))
      refine hK5 _ _ S17 ?_
      clear hK5 K5 S16 x3 hg17
      repeat ((first
        | (refine SeqS.k0 (v := ?_) ?_ ?_; rotate_left; focus (intro w' hb'; go_simp; with_reducible rfl))
        | (refine SeqS.u0 ?_)
        | (refine SeqS.k1 (v := ?_) ?_ ?_; rotate_left; focus (intro w' hb'; go_simp; with_reducible rfl))
        | (refine SeqS.u1 ?_)
        | (refine SeqS.k2 (v := ?_) ?_ ?_; rotate_left; focus (intro w' hb'; go_simp; with_reducible rfl))
        | (refine SeqS.u2 ?_)); simp only [Act.put, List.setIfInBounds_toArray, List.set_cons_zero, List.set_cons_succ])
      refine SeqS.done (by decide +kernel) ?_
      go_wp2
      refine bodyPost_ret (results_bt18 rfl rfl hb17 row2) rfl ?_
      exact ⟨cs2, rfl, xDb, yB⟩

    · refine ⟨[_], _, [_, _, _, _], rfl, by rfl, fun K1 hK => ?_⟩
      go_simp
      (try rw [hfold])
      have T2 : Below V6.heap.size V6 (w1.alloc (.cells sc.toArray 75)) := T1.alloc T1.size _
      have k49 := Blk.new w1 75 sc
      have own41 := own_stayN own41 (below1 w1 (.cells sc.toArray 75))
      refine hK _ _ (T2.mono (Nat.le_of_lt zg)) ?_
      clear hK K1
      obtain ⟨B49, hB49⟩ : ∃ B49, w1.heap.size = B49 := ⟨_, rfl⟩
      rw [hB49] at k49 ⊢
      obtain ⟨w2, hw2⟩ : ∃ w, w1.alloc (.cells sc.toArray 75) = w := ⟨_, rfl⟩
      rw [hw2] at T2 k49 own41 ⊢
      clear hw2
      have lC := k49.lt
      (try simp only [Act.put, List.setIfInBounds_toArray, List.set_cons_zero, List.set_cons_succ])
      refine SeqS.alone (by decide +kernel) (by rfl) (fun K1 hK => ?_)
      refine wp_append_row (.tmp 41) (.tmp 46) 32 rfl M6 75 i9 _ 3 40 Tryz.underlying32 hi9 hz0 hz1 hz2 rfl (by decide) rfl own41 rfl hLl (hrLH.out w2 (T2.mono (Nat.le_of_lt zg))) hL1 ?_ ?_ (by rw [← hM6H.out]; exact T2.size) ?_
      · unfold maxLen; omega
      · omega
      intro v47 w3 own47 g47
      have T3 : Below V6.heap.size V6 w3 := T2.grown g47 T2.size (fun q hq => by rw [hM6H.out]; exact (own41.lt q hq).1)
      have k49 := k49.grown g47 (fun e => by injection e with e; have e9 : B49 = B41 := e; omega)
      refine hK _ _ (T3.mono (Nat.le_of_lt zg)) ?_
      clear hK K1
      rw [Nat.zero_add, List.nil_append] at own47
      have hex : ∃ a47 c47, v47 = .slice a47 N c47 := own_sliceN own47
      obtain ⟨a47, c47, hv47⟩ := hex
      subst hv47
      clear g47 own41
      (try simp only [Act.put, List.setIfInBounds_toArray, List.set_cons_zero, List.set_cons_succ])
      refine SeqS.alone (by decide +kernel) (by rfl) (fun K1 hK => ?_)
      refine wp_append_row (.tmp 47) (.tmp 49) 32 rfl M6 75 i9 _ 3 40 Tryz.underlying32 hi9 hz0 hz1 hz2 rfl (by decide) rfl own47 rfl (m := 1) (news := sc) hscl (.inr ⟨_, rfl, fun j u hu => cell_of_blk k49 j u hu⟩) hsc1 ?_ ?_ (by rw [← hM6H.out]; exact T3.size) ?_
      · unfold maxLen; omega
      · omega
      intro v50 w10 own50 g50
      have T10 : Below V6.heap.size V6 w10 := T3.grown g50 T3.size (fun q hq => by rw [hM6H.out]; exact (own47.lt q hq).1)
      refine hK _ _ (T10.mono (Nat.le_of_lt zg)) ?_
      clear hK K1
      (try simp only [Act.put, List.setIfInBounds_toArray, List.set_cons_zero, List.set_cons_succ])
      have hex : ∃ a50 c50, v50 = .slice a50 (N + 1) c50 := own_sliceN own50
      obtain ⟨a50, c50, hv50⟩ := hex
      subst hv50
      have q8 := zb8.keep T10 zg
      have e81 := q8.cell (i * 2 + 1)
      rw [hsl] at e81
      have f81 := q8.frozen (i * 2 + 1)
      have q9 := q8.set (i * 2 + 1) (.slice a50 (N + 1) c50)
      have S11 : Below G8 V6 (w10.setCell ⟨G8, i * 2 + 1, none⟩ (.slice a50 (N + 1) c50)) := (T10.mono (Nat.le_of_lt zg)).setCell (p := ⟨G8, i * 2 + 1, none⟩) (Nat.le_refl _) _
      have own51 := own_sameN own50 (w' := w10.setCell ⟨G8, i * 2 + 1, none⟩ (.slice a50 (N + 1) c50)) (fun q hq => (grown_setCell w10 G8 (i * 2 + 1) (.slice a50 (N + 1) c50)).block q (own50.lt q hq).2 (fun e => by injection e with e; have := (own50.lt q hq).1; have := hM6H.out; omega))
      have S10 : Below G8 V6 w10 := T10.mono (Nat.le_of_lt zg)
      clear g50 own47 k49 T3 q8 own50 T10
      repeat ((first
        | (refine SeqS.k0 (v := ?_) ?_ ?_; rotate_left; focus (intro w' hb'; go_simp; with_reducible rfl))
        | (refine SeqS.u0 ?_)
        | (refine SeqS.k1 (v := ?_) ?_ ?_; rotate_left; focus (intro w' hb'; go_simp; with_reducible rfl))
        | (refine SeqS.u1 ?_)
        | (refine SeqS.k2 (v := ?_) ?_ ?_; rotate_left; focus (intro w' hb'; go_simp; with_reducible rfl))
        | (refine SeqS.u2 ?_)); simp only [Act.put, List.setIfInBounds_toArray, List.set_cons_zero, List.set_cons_succ])
      refine SeqS.alone (by decide +kernel) (by rfl) (fun K1 hK => ?_)
      go_simp
      refine hK _ _ S11 ?_
      clear hK K1
      refine SeqS.done (by decide +kernel) ?_
      clear e81 f81
      obtain ⟨w11, hw11⟩ : ∃ w, w10.setCell ⟨G8, i * 2 + 1, none⟩ (.slice a50 (N + 1) c50) = w := ⟨_, rfl⟩
      rw [hw11] at q9 S11 own51 ⊢
      clear hw11
      have p1 := zb1.keep S11 (by omega)
      have p3 := zb3.keep S11 (by omega)
      have pB := zBH.out.trans (S11.mono (show w.heap.size ≤ G8 by have := hGH.out; omega))
      have hD1 := hmake w11 a50 c50 pB M6 own51
      clear own51 S11
      obtain ⟨cs1, hcs1⟩ : ∃ c, cs.set (i * 2 + 1) (.slice a50 (N + 1) c50) = c := ⟨_, rfl⟩
      rw [hcs1] at q9 hD1
      have hl1 : cs1.length = 9 := by rw [← hcs1, List.length_set]; exact hl
      have row1 : IsRow Tryz.prog 37 cs1.length := by rw [hl1]; exact rowDd
      obtain ⟨V7, hV7⟩ : ∃ V, w11.drew = V := ⟨_, rfl⟩
      have p1 : Blk V7 G 37 cs := by rw [← hV7]; exact p1
      have p3 : Blk V7 (G + 2) 37 zs := by rw [← hV7]; exact p3
      have q9 : Blk V7 G8 37 cs1 := by rw [← hV7]; exact q9
      have pB : Below w.heap.size w V7 := by rw [← hV7]; exact pB.drew
      have hD1 : RDisk (fun b => R b ∨ M6 ≤ b) V7 cs1 D1 := by rw [← hV7]; exact hD1.keep (Below.drew (Below.refl _ _))
      have hU := Lib.hid (fun w' (q : Below V7.heap.size V7 w') => fUsed_any (hD1.keep q) o0 o1 o2)
      have h8c := Lib.hid (fun w' (q : Below V7.heap.size V7 w') => q9.keep q q9.lt)
      have h6r := Lib.hid (fun (w' : World) (q : Below V7.heap.size V7 w') => (show w'.cell? ⟨G, 6, none⟩ = some (.int .i64 D.room) by rw [q.cell (p := ⟨G, 6, none⟩) p1.lt, p1.cell 6]; exact h6))
      have k7b : Below V7.heap.size V7 V7 := Below.refl _ _
      clear hcs1
      go_wp2_with fail
      refine region_seqS (fun w' => Below V7.heap.size V7 w') (by kernel_rfl) (by rw [hV7]; exact k7b) ?_
      simp only [pairs, Nat.reduceAdd]
      rw [hV7]
      clear hV7
      repeat ((first
        | (refine SeqS.y0 (v := .agg (cs1).toArray) (yields_blk (by rfl) 37 (.tmp 8) rfl rfl (fun w' h => h8c.out w' h) (row1)) ?_)
        | (refine SeqS.k0 (v := ?_) ?_ ?_; rotate_left; focus (intro w' hb'; go_simp; with_reducible rfl))
        | (refine SeqS.k0 (v := ?_) ?_ ?_; rotate_left; focus (intro w' hb'; have d0 := h6r.out w' hb'; go_simp; with_reducible rfl))
        | (refine SeqS.u0 ?_)
        | (refine SeqS.y1 (v := .agg (cs1).toArray) (yields_blk (by rfl) 37 (.tmp 8) rfl rfl (fun w' h => h8c.out w' h) (row1)) ?_)
        | (refine SeqS.k1 (v := ?_) ?_ ?_; rotate_left; focus (intro w' hb'; go_simp; with_reducible rfl))
        | (refine SeqS.k1 (v := ?_) ?_ ?_; rotate_left; focus (intro w' hb'; have d0 := h6r.out w' hb'; go_simp; with_reducible rfl))
        | (refine SeqS.u1 ?_)
        | (refine SeqS.y2 (v := .agg (cs1).toArray) (yields_blk (by rfl) 37 (.tmp 8) rfl rfl (fun w' h => h8c.out w' h) (row1)) ?_)
        | (refine SeqS.k2 (v := ?_) ?_ ?_; rotate_left; focus (intro w' hb'; go_simp; with_reducible rfl))
        | (refine SeqS.k2 (v := ?_) ?_ ?_; rotate_left; focus (intro w' hb'; have d0 := h6r.out w' hb'; go_simp; with_reducible rfl))
        | (refine SeqS.u2 ?_)); simp only [Act.put, List.setIfInBounds_toArray, List.set_cons_zero, List.set_cons_succ])
      refine SeqS.alone (by decide +kernel) (by rfl) (fun K hK => ?_)
      go_simp
      go_at_call 47
      refine (hU.out _ k7b).mono ?_
      rintro e w7 ⟨rfl, b7⟩
      go_simp
      have S7 : Below V7.heap.size V7 w7 := k7b.trans (b7.mono k7b.size)
      refine hK _ _ S7 ?_
      clear hK K
      repeat ((first
        | (refine SeqS.k0 (v := ?_) ?_ ?_; rotate_left; focus (intro w' hb'; go_simp; with_reducible rfl))
        | (refine SeqS.k0 (v := ?_) ?_ ?_; rotate_left; focus (intro w' hb'; have d0 := d7; go_simp; with_reducible rfl))
        | (refine SeqS.u0 ?_)
        | (refine SeqS.k1 (v := ?_) ?_ ?_; rotate_left; focus (intro w' hb'; go_simp; with_reducible rfl))
        | (refine SeqS.k1 (v := ?_) ?_ ?_; rotate_left; focus (intro w' hb'; have d0 := d7; go_simp; with_reducible rfl))
        | (refine SeqS.u1 ?_)
        | (refine SeqS.k2 (v := ?_) ?_ ?_; rotate_left; focus (intro w' hb'; go_simp; with_reducible rfl))
        | (refine SeqS.k2 (v := ?_) ?_ ?_; rotate_left; focus (intro w' hb'; have d0 := d7; go_simp; with_reducible rfl))
        | (refine SeqS.u2 ?_)); simp only [Act.put, List.setIfInBounds_toArray, List.set_cons_zero, List.set_cons_succ])
      refine SeqS.done (by decide +kernel) ?_
      have x8 := q9.keep S7 q9.lt
      have x3 := p3.keep S7 p3.lt
      have xB := pB.trans (S7.mono pB.size)
      have xD := hD1.keep S7
      have l38 : G + 2 < G8 := l3
      clear p1 p3 q9 hD1 hU h8c h6r k7b S7
      have hBu := fBurn_any (w := w7) xD.ddc hfu.2
      have xDb := xD.burn hfu.1
      obtain ⟨cs2, hcs2⟩ : ∃ c, burnC cs1 D1.fuse = c := ⟨_, rfl⟩
      rw [hcs2] at hBu xDb
      have hl2 := xDb.ddc.l
      have ho2 := xDb.ddc.o
      have row2 : IsRow Tryz.prog 37 cs2.length := by rw [hl2]; exact rowDd
      clear hcs2
      go_wp2_with ((with_reducible refine wpList_load_blk rfl 37 (.tmp 8) rfl ?_ x8 rowDd hl1 ?_); rfl)
      refine hBu.mono ?_
      rintro q w13 ⟨rfl, b13⟩
      have x8 := x8.keep b13 x8.lt
      have x3 := x3.keep b13 x3.lt
      have xB := xB.trans (b13.mono xB.size)
      have xDb := xDb.keep b13
      refine RowKit.Hid.out ?_
      refine Lib.hid ?_
      clear b13 hBu
      go_wp2_with ((with_reducible refine store_row rfl 37 (.tmp 8) _ rfl ?_ ?_ x8 rowDd hl2 hl1 ho2 ?_); rfl; rfl; intro w14 b8 g8)
      have x3 := x3.grown g8 (fun e => by injection e; omega)
      have yB := xB.grown g8 xB.size (fun q hq => by injection hq with hq; rw [← hq]; have := hGH.out; omega)
      have hM6s : w.heap.size ≤ M6 := by have := zBH.out.size; have := hM6H.out; omega
      have hGM : G8 < M6 := by have := hM6H.out; omega
      have xDb := xDb.same (R' := fun b => R b ∨ M6 ≤ b) (w' := w14) (fun b hb hl => g8.block b hl (fun e => by
        injection e with e
        rcases hb with hb | hb
        · have := hRl b hb; have := hGH.out; omega
        · omega)) (fun b hb => hb)
      clear x8 g8 xB
      go_wp2_with fail
      obtain ⟨V10, hV10⟩ : ∃ V, w14.drew = V := ⟨_, rfl⟩
      have b8 : Blk V10 G8 37 cs2 := by rw [← hV10]; exact b8
      have x3 : Blk V10 (G + 2) 37 zs := by rw [← hV10]; exact x3
      have yB : Below w.heap.size w V10 := by rw [← hV10]; exact yB.drew
      have xDb : RDisk (fun b => R b ∨ M6 ≤ b) V10 cs2 D1.burn := by rw [← hV10]; exact xDb.keep (Below.drew (Below.refl _ _))
      have hAn := fAnswer_any (w := V10) xDb.ddc
      rw [show (if D1.burn.down = true then (18 : Int) else 0) = E from hEH.out] at hAn
      refine region_seqS (fun w' => Blk w' G8 37 cs2) (by kernel_rfl) (by rw [hV10]; exact b8) ?_
      simp only [pairs, Nat.reduceAdd]
      rw [hV10]
      clear hV10
      repeat ((first
        | (refine SeqS.y0 (v := .agg (cs2).toArray) (yields_blk (by rfl) 37 (.tmp 8) rfl rfl (fun w' h => h) (row2)) ?_)
        | (refine SeqS.k0 (v := ?_) ?_ ?_; rotate_left; focus (intro w' hb'; go_simp; with_reducible rfl))
        | (refine SeqS.u0 ?_)
        | (refine SeqS.y1 (v := .agg (cs2).toArray) (yields_blk (by rfl) 37 (.tmp 8) rfl rfl (fun w' h => h) (row2)) ?_)
        | (refine SeqS.k1 (v := ?_) ?_ ?_; rotate_left; focus (intro w' hb'; go_simp; with_reducible rfl))
        | (refine SeqS.u1 ?_)
        | (refine SeqS.y2 (v := .agg (cs2).toArray) (yields_blk (by rfl) 37 (.tmp 8) rfl rfl (fun w' h => h) (row2)) ?_)
        | (refine SeqS.k2 (v := ?_) ?_ ?_; rotate_left; focus (intro w' hb'; go_simp; with_reducible rfl))
        | (refine SeqS.u2 ?_)); simp only [Act.put, List.setIfInBounds_toArray, List.set_cons_zero, List.set_cons_succ])
      refine SeqS.alone (by decide +kernel) (by rfl) (fun K5 hK5 => ?_)
      go_simp
      go_at_call 49
      refine hAn.mono ?_
      rintro q w16 ⟨rfl, b16⟩
      go_simp
      have S16 := b8.keep b16 b8.lt
      have x3 := x3.keep b16 x3.lt
      have yB := yB.trans (b16.mono yB.size)
      have xDb := xDb.keep b16
      refine hK5 _ _ S16 ?_
      clear hK5 K5 b8 b16 hAn
      (try simp only [Act.put, List.setIfInBounds_toArray, List.set_cons_zero, List.set_cons_succ])
      refine SeqS.alone (by decide +kernel) (by rfl) (fun K5 hK5 => ?_)
      refine wp_store_part 37 (.tmp 6) (.tmp 62) rfl rfl rfl x3 row2 (by rw [hl2, hzl]; decide) ho2 (fun w17 hb17 hg17 => ?_)
      rw [overV_all _ _ (by rw [hl2, hzl])] at hb17
      have S17 := S16.grown hg17 (fun e => by injection e; omega)
      have yB := yB.grown hg17 yB.size (fun q hq => by injection hq with hq; rw [← hq, ← hGH.out]; omega)
      have xDb := xDb.same (R' := fun b => R b ∨ w.heap.size ≤ b) (w' := w17) (fun b hb hl => hg17.block b hl (fun e => by
        injection e with e
        rcases hb with hb | hb
        · have := hRl b hb; have := hGH.out; omega
        · omega)) (fun b hb => hb.imp id (fun h => Nat.le_trans hM6s h))
      refine hK5 _ _ S17 ?_
      clear hK5 K5 S16 x3 hg17
      repeat ((first
        | (refine SeqS.k0 (v := ?_) ?_ ?_; rotate_left; focus (intro w' hb'; go_simp; with_reducible rfl))
        | (refine SeqS.u0 ?_)
        | (refine SeqS.k1 (v := ?_) ?_ ?_; rotate_left; focus (intro w' hb'; go_simp; with_reducible rfl))
        | (refine SeqS.u1 ?_)
        | (refine SeqS.k2 (v := ?_) ?_ ?_; rotate_left; focus (intro w' hb'; go_simp; with_reducible rfl))
        | (refine SeqS.u2 ?_)); simp only [Act.put, List.setIfInBounds_toArray, List.set_cons_zero, List.set_cons_succ])
      refine SeqS.done (by decide +kernel) ?_
      go_wp2
      refine bodyPost_ret (results_bt18 rfl rfl hb17 row2) rfl ?_
      exact ⟨cs2, rfl, xDb, yB⟩

  · refine ⟨[_, _], _, [_, _, _, _], rfl, by rfl, fun K1 hK => ?_⟩
    go_simp
    (try rw [hfold])
    have T1 : Below V6.heap.size V6 (V6.alloc (.cells sc.toArray 75)) := T0.alloc T0.size _
    have k49 := Blk.new V6 75 sc
    refine hK _ _ (T1.mono (Nat.le_of_lt zg)) ?_
    clear hK K1
    obtain ⟨B49, hB49⟩ : ∃ B49, V6.heap.size = B49 := ⟨_, rfl⟩
    rw [hB49] at k49 ⊢
    obtain ⟨w1, hw1⟩ : ∃ w, V6.alloc (.cells sc.toArray 75) = w := ⟨_, rfl⟩
    rw [hw1] at T1 k49 ⊢
    clear hw1
    have lC := k49.lt
    (try simp only [Act.put, List.setIfInBounds_toArray, List.set_cons_zero, List.set_cons_succ])
    refine SeqS.alone (by decide +kernel) (by rfl) (fun K1 hK => ?_)
    go_simp
    have T2 : Below V6.heap.size V6 (w1.alloc (.cells #[] 75)) := T1.alloc T1.size _
    have own41 : (w1.alloc (.cells #[] 75)).ownsRow M6 75 3 (.slice (some ⟨w1.heap.size, 0, none⟩) 0 0) 0 [] := own_weakN (World.ownsRow_made w1 #[] 0 (Nat.le_refl _) (Nat.zero_le _) rfl) (by rw [← hM6H.out]; exact T1.size)
    have k49 := k49.alloc (.cells #[] 75)
    refine hK _ _ (T2.mono (Nat.le_of_lt zg)) ?_
    clear hK K1
    obtain ⟨B41, hB41⟩ : ∃ B41, w1.heap.size = B41 := ⟨_, rfl⟩
    rw [hB41] at own41 ⊢
    obtain ⟨w2, hw2⟩ : ∃ w, w1.alloc (.cells #[] 75) = w := ⟨_, rfl⟩
    rw [hw2] at T2 own41 k49 ⊢
    clear hw2
    have lA := (own41.lt B41 rfl).2
    (try simp only [Act.put, List.setIfInBounds_toArray, List.set_cons_zero, List.set_cons_succ])
    refine SeqS.alone (by decide +kernel) (by rfl) (fun K1 hK => ?_)
    refine wp_append_row (.tmp 41) (.tmp 46) 32 rfl M6 75 i9 _ 3 40 Tryz.underlying32 hi9 hz0 hz1 hz2 rfl (by decide) rfl own41 rfl hLl (hrLH.out w2 (T2.mono (Nat.le_of_lt zg))) hL1 ?_ ?_ (by rw [← hM6H.out]; exact T2.size) ?_
    · unfold maxLen; omega
    · omega
    intro v47 w3 own47 g47
    have T3 : Below V6.heap.size V6 w3 := T2.grown g47 T2.size (fun q hq => by rw [hM6H.out]; exact (own41.lt q hq).1)
    have k49 := k49.grown g47 (fun e => by injection e with e; have e9 : B49 = B41 := e; omega)
    refine hK _ _ (T3.mono (Nat.le_of_lt zg)) ?_
    clear hK K1
    rw [Nat.zero_add, List.nil_append] at own47
    have hex : ∃ a47 c47, v47 = .slice a47 N c47 := own_sliceN own47
    obtain ⟨a47, c47, hv47⟩ := hex
    subst hv47
    clear g47 own41
    (try simp only [Act.put, List.setIfInBounds_toArray, List.set_cons_zero, List.set_cons_succ])
    refine SeqS.alone (by decide +kernel) (by rfl) (fun K1 hK => ?_)
    refine wp_append_row (.tmp 47) (.tmp 49) 32 rfl M6 75 i9 _ 3 40 Tryz.underlying32 hi9 hz0 hz1 hz2 rfl (by decide) rfl own47 rfl (m := 1) (news := sc) hscl (.inr ⟨_, rfl, fun j u hu => cell_of_blk k49 j u hu⟩) hsc1 ?_ ?_ (by rw [← hM6H.out]; exact T3.size) ?_
    · unfold maxLen; omega
    · omega
    intro v50 w10 own50 g50
    have T10 : Below V6.heap.size V6 w10 := T3.grown g50 T3.size (fun q hq => by rw [hM6H.out]; exact (own47.lt q hq).1)
    refine hK _ _ (T10.mono (Nat.le_of_lt zg)) ?_
    clear hK K1
    (try simp only [Act.put, List.setIfInBounds_toArray, List.set_cons_zero, List.set_cons_succ])
    have hex : ∃ a50 c50, v50 = .slice a50 (N + 1) c50 := own_sliceN own50
    obtain ⟨a50, c50, hv50⟩ := hex
    subst hv50
    have q8 := zb8.keep T10 zg
    have e81 := q8.cell (i * 2 + 1)
    rw [hsl] at e81
    have f81 := q8.frozen (i * 2 + 1)
    have q9 := q8.set (i * 2 + 1) (.slice a50 (N + 1) c50)
    have S11 : Below G8 V6 (w10.setCell ⟨G8, i * 2 + 1, none⟩ (.slice a50 (N + 1) c50)) := (T10.mono (Nat.le_of_lt zg)).setCell (p := ⟨G8, i * 2 + 1, none⟩) (Nat.le_refl _) _
    have own51 := own_sameN own50 (w' := w10.setCell ⟨G8, i * 2 + 1, none⟩ (.slice a50 (N + 1) c50)) (fun q hq => (grown_setCell w10 G8 (i * 2 + 1) (.slice a50 (N + 1) c50)).block q (own50.lt q hq).2 (fun e => by injection e with e; have := (own50.lt q hq).1; have := hM6H.out; omega))
    have S10 : Below G8 V6 w10 := T10.mono (Nat.le_of_lt zg)
    clear g50 own47 k49 T3 q8 own50 T10
    repeat ((first
      | (refine SeqS.k0 (v := ?_) ?_ ?_; rotate_left; focus (intro w' hb'; go_simp; with_reducible rfl))
      | (refine SeqS.u0 ?_)
      | (refine SeqS.k1 (v := ?_) ?_ ?_; rotate_left; focus (intro w' hb'; go_simp; with_reducible rfl))
      | (refine SeqS.u1 ?_)
      | (refine SeqS.k2 (v := ?_) ?_ ?_; rotate_left; focus (intro w' hb'; go_simp; with_reducible rfl))
      | (refine SeqS.u2 ?_)); simp only [Act.put, List.setIfInBounds_toArray, List.set_cons_zero, List.set_cons_succ])
    refine SeqS.alone (by decide +kernel) (by rfl) (fun K1 hK => ?_)
    go_simp
    refine hK _ _ S11 ?_
    clear hK K1
    refine SeqS.done (by decide +kernel) ?_
    clear e81 f81
    obtain ⟨w11, hw11⟩ : ∃ w, w10.setCell ⟨G8, i * 2 + 1, none⟩ (.slice a50 (N + 1) c50) = w := ⟨_, rfl⟩
    rw [hw11] at q9 S11 own51 ⊢
    clear hw11
    have p1 := zb1.keep S11 (by omega)
    have p3 := zb3.keep S11 (by omega)
    have pB := zBH.out.trans (S11.mono (show w.heap.size ≤ G8 by have := hGH.out; omega))
    have hD1 := hmake w11 a50 c50 pB M6 own51
    clear own51 S11
    obtain ⟨cs1, hcs1⟩ : ∃ c, cs.set (i * 2 + 1) (.slice a50 (N + 1) c50) = c := ⟨_, rfl⟩
    rw [hcs1] at q9 hD1
    have hl1 : cs1.length = 9 := by rw [← hcs1, List.length_set]; exact hl
    have row1 : IsRow Tryz.prog 37 cs1.length := by rw [hl1]; exact rowDd
    obtain ⟨V7, hV7⟩ : ∃ V, w11.drew = V := ⟨_, rfl⟩
    have p1 : Blk V7 G 37 cs := by rw [← hV7]; exact p1
    have p3 : Blk V7 (G + 2) 37 zs := by rw [← hV7]; exact p3
    have q9 : Blk V7 G8 37 cs1 := by rw [← hV7]; exact q9
    have pB : Below w.heap.size w V7 := by rw [← hV7]; exact pB.drew
    have hD1 : RDisk (fun b => R b ∨ M6 ≤ b) V7 cs1 D1 := by rw [← hV7]; exact hD1.keep (Below.drew (Below.refl _ _))
    have hU := Lib.hid (fun w' (q : Below V7.heap.size V7 w') => fUsed_any (hD1.keep q) o0 o1 o2)
    have h8c := Lib.hid (fun w' (q : Below V7.heap.size V7 w') => q9.keep q q9.lt)
    have h6r := Lib.hid (fun (w' : World) (q : Below V7.heap.size V7 w') => (show w'.cell? ⟨G, 6, none⟩ = some (.int .i64 D.room) by rw [q.cell (p := ⟨G, 6, none⟩) p1.lt, p1.cell 6]; exact h6))
    have k7b : Below V7.heap.size V7 V7 := Below.refl _ _
    clear hcs1
    go_wp2_with fail
    refine region_seqS (fun w' => Below V7.heap.size V7 w') (by kernel_rfl) (by rw [hV7]; exact k7b) ?_
    simp only [pairs, Nat.reduceAdd]
    rw [hV7]
    clear hV7
    repeat ((first
      | (refine SeqS.y0 (v := .agg (cs1).toArray) (yields_blk (by rfl) 37 (.tmp 8) rfl rfl (fun w' h => h8c.out w' h) (row1)) ?_)
      | (refine SeqS.k0 (v := ?_) ?_ ?_; rotate_left; focus (intro w' hb'; go_simp; with_reducible rfl))
      | (refine SeqS.k0 (v := ?_) ?_ ?_; rotate_left; focus (intro w' hb'; have d0 := h6r.out w' hb'; go_simp; with_reducible rfl))
      | (refine SeqS.u0 ?_)
      | (refine SeqS.y1 (v := .agg (cs1).toArray) (yields_blk (by rfl) 37 (.tmp 8) rfl rfl (fun w' h => h8c.out w' h) (row1)) ?_)
      | (refine SeqS.k1 (v := ?_) ?_ ?_; rotate_left; focus (intro w' hb'; go_simp; with_reducible rfl))
      | (refine SeqS.k1 (v := ?_) ?_ ?_; rotate_left; focus (intro w' hb'; have d0 := h6r.out w' hb'; go_simp; with_reducible rfl))
      | (refine SeqS.u1 ?_)
      | (refine SeqS.y2 (v := .agg (cs1).toArray) (yields_blk (by rfl) 37 (.tmp 8) rfl rfl (fun w' h => h8c.out w' h) (row1)) ?_)
      | (refine SeqS.k2 (v := ?_) ?_ ?_; rotate_left; focus (intro w' hb'; go_simp; with_reducible rfl))
      | (refine SeqS.k2 (v := ?_) ?_ ?_; rotate_left; focus (intro w' hb'; have d0 := h6r.out w' hb'; go_simp; with_reducible rfl))
      | (refine SeqS.u2 ?_)); simp only [Act.put, List.setIfInBounds_toArray, List.set_cons_zero, List.set_cons_succ])
    refine SeqS.alone (by decide +kernel) (by rfl) (fun K hK => ?_)
    go_simp
    go_at_call 47
    refine (hU.out _ k7b).mono ?_
    rintro e w7 ⟨rfl, b7⟩
    go_simp
    have S7 : Below V7.heap.size V7 w7 := k7b.trans (b7.mono k7b.size)
    refine hK _ _ S7 ?_
    clear hK K
    repeat ((first
      | (refine SeqS.k0 (v := ?_) ?_ ?_; rotate_left; focus (intro w' hb'; go_simp; with_reducible rfl))
      | (refine SeqS.k0 (v := ?_) ?_ ?_; rotate_left; focus (intro w' hb'; have d0 := d7; go_simp; with_reducible rfl))
      | (refine SeqS.u0 ?_)
      | (refine SeqS.k1 (v := ?_) ?_ ?_; rotate_left; focus (intro w' hb'; go_simp; with_reducible rfl))
      | (refine SeqS.k1 (v := ?_) ?_ ?_; rotate_left; focus (intro w' hb'; have d0 := d7; go_simp; with_reducible rfl))
      | (refine SeqS.u1 ?_)
      | (refine SeqS.k2 (v := ?_) ?_ ?_; rotate_left; focus (intro w' hb'; go_simp; with_reducible rfl))
      | (refine SeqS.k2 (v := ?_) ?_ ?_; rotate_left; focus (intro w' hb'; have d0 := d7; go_simp; with_reducible rfl))
      | (refine SeqS.u2 ?_)); simp only [Act.put, List.setIfInBounds_toArray, List.set_cons_zero, List.set_cons_succ])
    refine SeqS.done (by decide +kernel) ?_
    have x8 := q9.keep S7 q9.lt
    have x3 := p3.keep S7 p3.lt
    have xB := pB.trans (S7.mono pB.size)
    have xD := hD1.keep S7
    have l38 : G + 2 < G8 := l3
    clear p1 p3 q9 hD1 hU h8c h6r k7b S7
    have hBu := fBurn_any (w := w7) xD.ddc hfu.2
    have xDb := xD.burn hfu.1
    obtain ⟨cs2, hcs2⟩ : ∃ c, burnC cs1 D1.fuse = c := ⟨_, rfl⟩
    rw [hcs2] at hBu xDb
    have hl2 := xDb.ddc.l
    have ho2 := xDb.ddc.o
    have row2 : IsRow Tryz.prog 37 cs2.length := by rw [hl2]; exact rowDd
    clear hcs2
    go_wp2_with ((with_reducible refine wpList_load_blk rfl 37 (.tmp 8) rfl ?_ x8 rowDd hl1 ?_); rfl)
    refine hBu.mono ?_
    rintro q w13 ⟨rfl, b13⟩
    have x8 := x8.keep b13 x8.lt
    have x3 := x3.keep b13 x3.lt
    have xB := xB.trans (b13.mono xB.size)
    have xDb := xDb.keep b13
    refine RowKit.Hid.out ?_
    refine Lib.hid ?_
    clear b13 hBu
    go_wp2_with ((with_reducible refine store_row rfl 37 (.tmp 8) _ rfl ?_ ?_ x8 rowDd hl2 hl1 ho2 ?_); rfl; rfl; intro w14 b8 g8)
    have x3 := x3.grown g8 (fun e => by injection e; omega)
    have yB := xB.grown g8 xB.size (fun q hq => by injection hq with hq; rw [← hq]; have := hGH.out; omega)
    have hM6s : w.heap.size ≤ M6 := by have := zBH.out.size; have := hM6H.out; omega
    have hGM : G8 < M6 := by have := hM6H.out; omega
    have xDb := xDb.same (R' := fun b => R b ∨ M6 ≤ b) (w' := w14) (fun b hb hl => g8.block b hl (fun e => by
      injection e with e
      rcases hb with hb | hb
      · have := hRl b hb; have := hGH.out; omega
      · omega)) (fun b hb => hb)
    clear x8 g8 xB
    go_wp2_with fail
    obtain ⟨V10, hV10⟩ : ∃ V, w14.drew = V := ⟨_, rfl⟩
    have b8 : Blk V10 G8 37 cs2 := by rw [← hV10]; exact b8
    have x3 : Blk V10 (G + 2) 37 zs := by rw [← hV10]; exact x3
    have yB : Below w.heap.size w V10 := by rw [← hV10]; exact yB.drew
    have xDb : RDisk (fun b => R b ∨ M6 ≤ b) V10 cs2 D1.burn := by rw [← hV10]; exact xDb.keep (Below.drew (Below.refl _ _))
    have hAn := fAnswer_any (w := V10) xDb.ddc
    rw [show (if D1.burn.down = true then (18 : Int) else 0) = E from hEH.out] at hAn
    refine region_seqS (fun w' => Blk w' G8 37 cs2) (by kernel_rfl) (by rw [hV10]; exact b8) ?_
    simp only [pairs, Nat.reduceAdd]
    rw [hV10]
    clear hV10
    repeat ((first
      | (refine SeqS.y0 (v := .agg (cs2).toArray) (yields_blk (by rfl) 37 (.tmp 8) rfl rfl (fun w' h => h) (row2)) ?_)
      | (refine SeqS.k0 (v := ?_) ?_ ?_; rotate_left; focus (intro w' hb'; go_simp; with_reducible rfl))
      | (refine SeqS.u0 ?_)
      | (refine SeqS.y1 (v := .agg (cs2).toArray) (yields_blk (by rfl) 37 (.tmp 8) rfl rfl (fun w' h => h) (row2)) ?_)
      | (refine SeqS.k1 (v := ?_) ?_ ?_; rotate_left; focus (intro w' hb'; go_simp; with_reducible rfl))
      | (refine SeqS.u1 ?_)
      | (refine SeqS.y2 (v := .agg (cs2).toArray) (yields_blk (by rfl) 37 (.tmp 8) rfl rfl (fun w' h => h) (row2)) ?_)
      | (refine SeqS.k2 (v := ?_) ?_ ?_; rotate_left; focus (intro w' hb'; go_simp; with_reducible rfl))
      | (refine SeqS.u2 ?_)); simp only [Act.put, List.setIfInBounds_toArray, List.set_cons_zero, List.set_cons_succ])
    refine SeqS.alone (by decide +kernel) (by rfl) (fun K5 hK5 => ?_)
    go_simp
    go_at_call 49
    refine hAn.mono ?_
    rintro q w16 ⟨rfl, b16⟩
    go_simp
    have S16 := b8.keep b16 b8.lt
    have x3 := x3.keep b16 x3.lt
    have yB := yB.trans (b16.mono yB.size)
    have xDb := xDb.keep b16
    refine hK5 _ _ S16 ?_
    clear hK5 K5 b8 b16 hAn
    (try simp only [Act.put, List.setIfInBounds_toArray, List.set_cons_zero, List.set_cons_succ])
    refine SeqS.alone (by decide +kernel) (by rfl) (fun K5 hK5 => ?_)
    refine wp_store_part 37 (.tmp 6) (.tmp 62) rfl rfl rfl x3 row2 (by rw [hl2, hzl]; decide) ho2 (fun w17 hb17 hg17 => ?_)
    rw [overV_all _ _ (by rw [hl2, hzl])] at hb17
    have S17 := S16.grown hg17 (fun e => by injection e; omega)
    have yB := yB.grown hg17 yB.size (fun q hq => by injection hq with hq; rw [← hq, ← hGH.out]; omega)
    have xDb := xDb.same (R' := fun b => R b ∨ w.heap.size ≤ b) (w' := w17) (fun b hb hl => hg17.block b hl (fun e => by
      injection e with e
      rcases hb with hb | hb
      · have := hRl b hb; have := hGH.out; omega
      · omega)) (fun b hb => hb.imp id (fun h => Nat.le_trans hM6s h))
    refine hK5 _ _ S17 ?_
    clear hK5 K5 S16 x3 hg17
    repeat ((first
      | (refine SeqS.k0 (v := ?_) ?_ ?_; rotate_left; focus (intro w' hb'; go_simp; with_reducible rfl))
      | (refine SeqS.u0 ?_)
      | (refine SeqS.k1 (v := ?_) ?_ ?_; rotate_left; focus (intro w' hb'; go_simp; with_reducible rfl))
      | (refine SeqS.u1 ?_)
      | (refine SeqS.k2 (v := ?_) ?_ ?_; rotate_left; focus (intro w' hb'; go_simp; with_reducible rfl))
      | (refine SeqS.u2 ?_)); simp only [Act.put, List.setIfInBounds_toArray, List.set_cons_zero, List.set_cons_succ])
    refine SeqS.done (by decide +kernel) ?_
    go_wp2
    refine bodyPost_ret (results_bt18 rfl rfl hb17 row2) rfl ?_
    exact ⟨cs2, rfl, xDb, yB⟩

end Go.Proofs.YtcohbhimhacedaaGreatDoor

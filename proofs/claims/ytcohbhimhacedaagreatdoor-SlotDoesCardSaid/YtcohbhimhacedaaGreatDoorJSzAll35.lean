/-
  Texts of stages that were proved on their own, joined: SlPut. Each begins with its own words.
-/
import Derived.Test.YtcohbhimhacedaaGreatDoorSeqK
import Derived.Test.YtcohbhimhacedaaGreatDoorJSzAll34
import Derived.Test.YtcohbhimhacedaaGreatDoorJSzAll8

/-
  The document's own slots (layer 21): Put, to the file 1 and to the file 2. New memory alone is written. Conditions: a disk with at most 3518437208880 steps a file; the files hold bytes.
-/
namespace Go.Proofs.YtcohbhimhacedaaGreatDoor
open Go.RowKit


theorem SlAt.keep {w w' : World} {Q : Nat → Prop} {cs : List Value} {s : SlV} (h : SlAt w Q cs s) (hb : Below w.heap.size w w') : SlAt w' Q cs s := by
  obtain ⟨a, n, c, e, hI, hn⟩ := h
  exact ⟨a, n, c, e, hI.keep hb, hn⟩
theorem range_keep21 {w w' : World} {g o : Nat} {cs : List Value} (h : w.rangeAt g o cs) (hb : Below w.heap.size w w') : w'.rangeAt g o cs := fun j v hj => by
  rw [hb.cell (World.block_lt_of_cell? w _ (h j v hj))]
  exact h j v hj
theorem info_u8l21 : ∃ i, Tryz.prog.info? 5 = some i ∧ i.zero = some (.int .u8 0) ∧ i.size = 1 ∧ i.bytes = 1 := info_u8b

set_option maxRecDepth 100000 in
set_option maxHeartbeats 4000000 in
theorem r21Put_1 {R : Nat → Prop} {w : World} {cs sc : List Value} {D : DkV} {T : Nat} {Q : Nat → Prop} {s : SlV} {a : Option Addr} {n c : Nat} {xs : List Int} (h2 : RDisk R w cs D) (hRl : ∀ b, R b → b < w.heap.size) (hs : SlAt w Q sc s) (hO : D.Ok T) (hT : T ≤ 3518437208880) (hD : D.By) (hok : s.Ok) (ha : s.a = 1) (hb : s.b = 2) (hto : s.to = 1)
    (hI : Ints .u8 w a n c xs) (hx : ∀ y ∈ xs, isByte y) (hn : n ≤ 140737488355328) {D' : DkV} {s' : SlV} {e : Int} (he : ptS D s xs = (D', s', e)) :
    Calls Tryz.prog 32 #[.agg cs.toArray, .agg sc.toArray, .slice a n c] w fun q w' => ∃ cs' sc', q = .returned (.tuple #[.agg cs'.toArray, .agg sc'.toArray, .int .i64 e]) ∧ RDisk (fun b => R b ∨ w.heap.size ≤ b) w' cs' D' ∧ SlAt w' (fun b => Q b ∨ w.heap.size ≤ b) sc' s' ∧ Below w.heap.size w w' := by
  have hl := h2.ddc.l
  obtain ⟨lS, oS⟩ := hs.len
  have rowS : IsRow Tryz.prog 46 sc.length := by rw [lS]; exact rowSl
  have hxl := hI.len
  have hnow : ¬ s.now = 1 := by
    unfold SlV.to at hto
    rw [ha, hb] at hto
    by_cases hh : s.now = 1
    · first
        | exact hh
        | (rw [if_pos hh] at hto; omega)
    · first
        | exact hh
        | (rw [if_neg hh] at hto; omega)
  obtain ⟨aa, nn, cc, hsc, hIb, hnb⟩ := hs
  have z0 : sc[0]? = some (.int .i64 1) := by rw [hsc, ← ha]; rfl
  have z1 : sc[1]? = some (.int .i64 2) := by rw [hsc, ← hb]; rfl
  have z2 : sc[2]? = some (.int .i64 s.now) := by rw [hsc]; rfl
  have z3 : sc[3]? = some (.int .u64 s.turn) := by rw [hsc]; rfl
  have htb := hok.t
  have SL0 : SlAt w (fun b => Q b ∨ w.heap.size ≤ b) sc s := ⟨aa, nn, cc, hsc, hIb, fun y hy h0 => .inl (hnb y hy h0)⟩
  have SLH := Lib.hid (fun w' (q : Below w.heap.size w w') => SL0.keep q)
  obtain ⟨NW, hNW⟩ : ∃ x, s.now = x := ⟨_, rfl⟩
  obtain ⟨TU, hTU⟩ : ∃ x, s.turn = x := ⟨_, rfl⟩
  rw [hNW] at z2 hnow
  rw [hTU] at z3 htb
  obtain ⟨ys, hys⟩ : ∃ zs, ddZ = zs := ⟨_, rfl⟩
  have hzD := zeroDd
  have hzl := ddZ_len
  rw [hys] at hzD hzl
  obtain ⟨zs, hzz⟩ : ∃ zs, slZ = zs := ⟨_, rfl⟩
  have hzS := zeroSl
  have hzs : slZ.length = 5 := rfl
  rw [hzz] at hzS hzs
  have p0 := Pd.start (ss := sc) ys zs h2 hRl
  obtain ⟨W, hW⟩ : ∃ W, ((((w.alloc (.cells cs.toArray 37)).alloc (.cells sc.toArray 46)).alloc (.cells ys.toArray 37)).alloc (.cells zs.toArray 46)) = W := ⟨_, rfl⟩
  obtain ⟨G, hG⟩ : ∃ G, w.heap.size = G := ⟨_, rfl⟩
  rw [hW, hG] at p0
  obtain ⟨SC, hSC⟩ : ∃ C, sc = C := ⟨_, rfl⟩
  rw [hSC] at lS oS rowS z0 z1 z2 z3 p0 SLH hsc
  rw [hSC] at hW
  rw [hSC]
  have c0 := (p0.s.cell 0).trans z0
  have c1 := (p0.s.cell 1).trans z1
  have c2 := (p0.s.cell 2).trans z2
  have c3 := (p0.s.cell 3).trans z3
  have hWH := Lib.hid hW
  have hGH := Lib.hid hG
  have heH := Lib.hid he
  have okH := Lib.hid hO
  have IH := Lib.hid hI
  have xH := Lib.hid hx
  have byH := Lib.hid hD
  have hTH := Lib.hid hT
  have scH := Lib.hid hsc
  have TUH := Lib.hid hTU
  have toH := Lib.hid hto
  have haH := Lib.hid ha
  have hbH := Lib.hid hb
  clear h2 hRl SL0 hys hzz hSC hIb hnb hW hG he hO hI hx hD hT hok ha hb hsc hNW hTU hto
  go_enter Tryz.func32, Tryz.ntmps32
  go_wp2_with (first
    | ((with_reducible refine box_row rfl 37 (.tmp 0) rfl cs rfl ?_))
    | ((with_reducible refine box_row rfl 46 (.tmp 1) rfl SC rfl ?_))
    | (with_reducible refine wpList_alloc_blk rfl 37 rfl hzD ?_)
    | (with_reducible refine wpList_alloc_blk rfl 46 rfl hzS ?_; refine RowKit.Hid.out ?_))
  refine Lib.hid ?_
  rw [hWH.out]
  simp only [hGH.out, Nat.add_assoc, Nat.reduceAdd]
  by_cases hg1 : 65528 < n
  · have g1 : (65528 : Int) < (n : Int) := by omega
    have hR := heH.out
    unfold ptS at hR
    rw [if_pos (.inl (by omega))] at hR
    injection hR with hR1 hR2
    injection hR2 with hR2 hR3
    subst hR1; subst hR2; subst hR3
    have p := p0
    obtain ⟨cs1, rfl⟩ : ∃ x, x = cs := ⟨_, rfl⟩
    clear p0 c0 c1 c2 c3
    have p' := p.keep (Below.refl _ _).drew
    have row1 := p.row
    have l1 := p.ddc.l
    have o1 := p.ddc.o
    go_wp2_with fail
    refine region_seqS (fun w' => Blk w' G 37 cs1 ∧ Blk w' (G + 1) 46 SC) (by kernel_rfl) ⟨p'.x, p'.s⟩ ?_
    have iv := And.intro p'.x p'.s
    simp only [pairs, Nat.reduceAdd]
    repeat ((first
      | (refine SeqS.y0 (v := .agg (cs1).toArray) (yields_blk (by rfl) 37 (.tmp 3) rfl rfl (fun w' h => h.1) (row1)) ?_)
      | (refine SeqS.y0 (v := .agg (SC).toArray) (yields_blk (by rfl) 46 (.tmp 4) rfl rfl (fun w' h => h.2) (rowS)) ?_)
      | (refine SeqS.k0 (v := ?_) ?_ ?_; rotate_left; focus (intro w' hb'; go_simp; with_reducible rfl))
      | (refine SeqS.u0 ?_)); simp only [Act.put, List.setIfInBounds_toArray, List.set_cons_zero, List.set_cons_succ])
    refine SeqS.alone (by decide +kernel) (by rfl) (fun K1 hK => ?_)
    refine wp_store_part 37 (.tmp 6) _ rfl rfl rfl p'.y row1 (by rw [l1, hzl]; decide) o1 (fun wa ba ga => ?_)
    rw [overV_all _ _ (by rw [l1, hzl])] at ba
    have pa := p'.sety ba ga
    refine hK _ _ ⟨pa.x, pa.s⟩ ?_
    clear hK K1
    have iv1 := And.intro pa.x pa.s
    repeat ((first
      | (refine SeqS.y0 (v := .agg (SC).toArray) (yields_blk (by rfl) 46 (.tmp 4) rfl rfl (fun w' h => h.2) (rowS)) ?_)
      | (refine SeqS.k0 (v := ?_) ?_ ?_; rotate_left; focus (intro w' hb'; go_simp; with_reducible rfl))
      | (refine SeqS.u0 ?_)); simp only [Act.put, List.setIfInBounds_toArray, List.set_cons_zero, List.set_cons_succ])
    refine SeqS.alone (by decide +kernel) (by rfl) (fun K2 hK => ?_)
    refine wp_store_part 46 (.tmp 7) _ rfl rfl rfl pa.z rowS (by rw [lS, hzs]; decide) oS (fun wb bb gb => ?_)
    rw [overV_all _ _ (by rw [lS, hzs])] at bb
    have pb := pa.setz bb gb
    refine hK _ _ ⟨pb.x, pb.s⟩ ?_
    clear hK K2
    have iv2 := And.intro pb.x pb.s
    repeat ((first
      | (refine SeqS.k0 (v := ?_) ?_ ?_; rotate_left; focus (intro w' hb'; go_simp; with_reducible rfl))
      | (refine SeqS.u0 ?_)); simp only [Act.put, List.setIfInBounds_toArray, List.set_cons_zero, List.set_cons_succ])
    refine SeqS.done (by decide +kernel) ?_
    have fin := pb.done
    have yb := pb.y
    have zb := pb.z
    have sl := SLH.out wb fin.2
    clear iv iv1 iv2 p p' pa ba ga bb gb pb o1 l1
    go_wp2
    refine bodyPost_ret (results_bbt21 rfl rfl yb row1 rfl zb rowS) rfl ?_
    exact ⟨cs1, SC, rfl, fin.1, sl, fin.2⟩
  have g1 : ¬ (65528 : Int) < (n : Int) := by omega
  by_cases hg2 : TU + 1 = 18446744073709551616
  · have t1 : IntKind.u64.wrap (TU + 1) = 0 := by rw [hg2]; rfl
    have t2 : (TU + 1) % 18446744073709551616 = 0 := by rw [hg2]; rfl
    have hR := heH.out
    unfold ptS at hR
    rw [if_pos (.inr (by rw [TUH.out]; exact hg2))] at hR
    injection hR with hR1 hR2
    injection hR2 with hR2 hR3
    subst hR1; subst hR2; subst hR3
    have p := p0
    obtain ⟨cs1, rfl⟩ : ∃ x, x = cs := ⟨_, rfl⟩
    clear p0 c0 c1 c2 hg1 hg2 htb
    have p' := p.keep (Below.refl _ _).drew
    have row1 := p.row
    have l1 := p.ddc.l
    have o1 := p.ddc.o
    go_wp2_with fail
    refine region_seqS (fun w' => Blk w' G 37 cs1 ∧ Blk w' (G + 1) 46 SC) (by kernel_rfl) ⟨p'.x, p'.s⟩ ?_
    have iv := And.intro p'.x p'.s
    simp only [pairs, Nat.reduceAdd]
    repeat ((first
      | (refine SeqS.y0 (v := .agg (cs1).toArray) (yields_blk (by rfl) 37 (.tmp 3) rfl rfl (fun w' h => h.1) (row1)) ?_)
      | (refine SeqS.y0 (v := .agg (SC).toArray) (yields_blk (by rfl) 46 (.tmp 4) rfl rfl (fun w' h => h.2) (rowS)) ?_)
      | (refine SeqS.k0 (v := ?_) ?_ ?_; rotate_left; focus (intro w' hb'; go_simp; with_reducible rfl))
      | (refine SeqS.u0 ?_)); simp only [Act.put, List.setIfInBounds_toArray, List.set_cons_zero, List.set_cons_succ])
    refine SeqS.alone (by decide +kernel) (by rfl) (fun K1 hK => ?_)
    refine wp_store_part 37 (.tmp 6) _ rfl rfl rfl p'.y row1 (by rw [l1, hzl]; decide) o1 (fun wa ba ga => ?_)
    rw [overV_all _ _ (by rw [l1, hzl])] at ba
    have pa := p'.sety ba ga
    refine hK _ _ ⟨pa.x, pa.s⟩ ?_
    clear hK K1
    have iv1 := And.intro pa.x pa.s
    repeat ((first
      | (refine SeqS.y0 (v := .agg (SC).toArray) (yields_blk (by rfl) 46 (.tmp 4) rfl rfl (fun w' h => h.2) (rowS)) ?_)
      | (refine SeqS.k0 (v := ?_) ?_ ?_; rotate_left; focus (intro w' hb'; go_simp; with_reducible rfl))
      | (refine SeqS.u0 ?_)); simp only [Act.put, List.setIfInBounds_toArray, List.set_cons_zero, List.set_cons_succ])
    refine SeqS.alone (by decide +kernel) (by rfl) (fun K2 hK => ?_)
    refine wp_store_part 46 (.tmp 7) _ rfl rfl rfl pa.z rowS (by rw [lS, hzs]; decide) oS (fun wb bb gb => ?_)
    rw [overV_all _ _ (by rw [lS, hzs])] at bb
    have pb := pa.setz bb gb
    refine hK _ _ ⟨pb.x, pb.s⟩ ?_
    clear hK K2
    have iv2 := And.intro pb.x pb.s
    repeat ((first
      | (refine SeqS.k0 (v := ?_) ?_ ?_; rotate_left; focus (intro w' hb'; go_simp; with_reducible rfl))
      | (refine SeqS.u0 ?_)); simp only [Act.put, List.setIfInBounds_toArray, List.set_cons_zero, List.set_cons_succ])
    refine SeqS.done (by decide +kernel) ?_
    have fin := pb.done
    have yb := pb.y
    have zb := pb.z
    have sl := SLH.out wb fin.2
    clear iv iv1 iv2 p p' pa ba ga bb gb pb o1 l1
    go_wp2
    refine bodyPost_ret (results_bbt21 rfl rfl yb row1 rfl zb rowS) rfl ?_
    exact ⟨cs1, SC, rfl, fin.1, sl, fin.2⟩
  obtain ⟨t1, t2⟩ := u64_id (x := TU + 1) (by omega)
  have t0 : ¬ TU + 1 = 0 := by omega
  have hR := heH.out
  unfold ptS at hR
  rw [if_neg (by rw [TUH.out]; omega), toH.out] at hR
  have nxl := next_len s xs
  have hfo := (okH.out.f 1).fok (Nat.le_trans hTH.out (by decide))
  have hle := held_len21 okH.out 1
  obtain ⟨cF, RF, fr, cl, hf⟩ := p0.file 1 (by decide)
  have fr : W.rangeAt G 2 cF := fr
  have crow : IsRow Tryz.prog 34 cF.length := by rw [cl]; exact rowRf
  obtain ⟨X, hX⟩ : ∃ X, heldR D 1 = X := ⟨_, rfl⟩
  obtain ⟨N, hN⟩ : ∃ N, X.length = N := ⟨_, rfl⟩
  obtain ⟨U, hU⟩ : ∃ U, (D.f 1).units = U := ⟨_, rfl⟩
  rw [hX, hN] at hle
  have cH := z_holds hf hfo hX hN
  have cU := Lib.hid (fun W' (q : Below W.heap.size W W') => z_units (hf.keep q) hfo hU)
  have frH := Lib.hid (fun W' (q : Below W.heap.size W W') => range_keep21 fr q)
  have pk := Lib.hid (fun W' (q : Below W.heap.size W W') => p0.keep q)
  have hnn : ((N : Nat) : Int) ≤ 65536 := by omega
  have clD : clS D 1 = if 0 < N ∨ 0 < U then keD D 1 0 else (D, 0) := by unfold clS; rw [hX, hN, show (1 : Int).toNat = 1 from rfl, hU]
  obtain ⟨D1, e1, h1⟩ : ∃ D1 e1, clS D 1 = (D1, e1) := ⟨_, _, rfl⟩
  rw [h1] at hR clD
  dsimp only at hR
  have ok1 := clS_ok okH.out 1
  rw [h1] at ok1
  have nb := next_by s xH.out
  have Be : beL (TU + 1) 8 ++ xs = s.next xs := by unfold SlV.next; rw [TUH.out]
  obtain ⟨B', hB'⟩ : ∃ x, s.next xs = x := ⟨_, rfl⟩
  rw [hB'] at nxl nb Be hR
  rw [hxl] at nxl
  have Bf := frB_len B'
  obtain ⟨D2, e2, A2⟩ : ∃ D2 e2, apD D1 1 (frB B') = (D2, e2) := ⟨_, _, rfl⟩
  obtain ⟨D3, e3, A3⟩ : ∃ D3 e3, syD D2 1 = (D3, e3) := ⟨_, _, rfl⟩
  have hP : prD D1 1 B' = if e2 = 0 then (D3, e3) else (D2, e2) := by
    unfold prD
    rw [if_neg (by omega), A2]
    dsimp only
    rw [A3]
  rw [hP] at hR
  have ok2 := apD_ok ok1 1 (frB B')
  rw [A2] at ok2
  have BeH := Lib.hid Be
  have BbH := Lib.hid nb
  have BfH := Lib.hid (Bf.trans (congrArg (8 + ·) nxl))
  have A2H := Lib.hid A2
  have A3H := Lib.hid A3
  have ok2H := Lib.hid ok2
  have hnH := Lib.hid hn
  clear hP nb Be Bf A2 A3 ok2 hB'
  have RH := Lib.hid hR
  have clH := Lib.hid clD
  have ok1H := Lib.hid ok1
  have nxH := Lib.hid nxl
  have hg1H := Lib.hid hg1
  have hg2H := Lib.hid hg2
  have htbH := Lib.hid htb
  have xlH := Lib.hid hxl
  have s3H := Lib.hid z3
  have s2H := Lib.hid z2
  clear hR hfo hle hX hN hU hf cl h1 ok1 clD nxl hg1 hg2 htb hxl
  go_wp2_with ((with_reducible refine wpList_load_part rfl 34 (.tmp 33) rfl ?_ cF fr crow ?_); rfl)
  refine cH.mono ?_
  rintro q W1 ⟨a1, c1', rfl, _, q1⟩
  by_cases hN0 : N = 0
  · have g3 : ¬ (0 : Int) < (N : Int) := by omega
    have cU1 := cU.out W1 q1
    have fr1 := frH.out W1 q1
    have pk1 := pk.out W1 q1
    clear cH cU frH pk q1
    go_wp2_with ((with_reducible refine load_pif rfl 34 (.tmp 41) rfl ?_ cF fr1 crow ?_); rfl)
    refine cU1.mono ?_
    rintro q W2 ⟨rfl, q2⟩
    by_cases hU0 : U = 0
    · have g4 : ¬ (0 : Int) < (U : Int) := by omega
      have p1 := pk1.keep q2
      obtain ⟨cs1, rfl⟩ : ∃ x, x = cs := ⟨_, rfl⟩
      have hcl := clH.out
      rw [if_neg (by omega)] at hcl
      injection hcl with hc1 hc2
      subst hc1; subst hc2
      have hR := RH.out
      rw [if_neg (by decide)] at hR
      have RH := Lib.hid hR
      clear hR cU1 pk1 q2 fr1
      obtain ⟨W1, rfl⟩ : ∃ x, x = W2 := ⟨_, rfl⟩
      have p1' := p1.keep (Below.refl _ _).drew
      obtain ⟨V, hV⟩ : ∃ V, W1.drew = V := ⟨_, rfl⟩
      rw [hV] at p1'
      have pV := Lib.hid (fun W' (q : Below V.heap.size V W') => p1'.keep q)
      have s3V := s3H.out
      have IV := IH.out.keep p1'.b
      have row1 := p1'.row
      have l1 := p1'.ddc.l
      have iv := And.intro p1'.x p1'.s
      have hnn := hnH.out
      obtain ⟨i0, hi, hz0, hz1, hz2⟩ := info_u8l21
      clear p1 p1'
      go_wp2_with fail
      refine region_seqT 13 (fun w' => Blk w' G 37 cs1 ∧ Blk w' (G + 1) 46 SC) (by kernel_rfl) ?_
      simp only [pairs, Nat.reduceAdd]
      rw [hV]
      repeat ((first
        | (refine SeqT.take (v := .agg (cs1).toArray) (by first | assumption | trivial) (by kernel_rfl) (by decide +kernel) (by decide +kernel) (yields_blk (by rfl) 37 (.tmp 3) rfl rfl (fun w' h => h.1) (row1)) ?_)
        | (refine SeqT.take (v := ?_) (by first | assumption | trivial) (by kernel_rfl) (by decide +kernel) (by decide +kernel) (Or.inl ⟨by rfl, ?_⟩) ?_; rotate_left; focus (intro w' hb'; go_simp; with_reducible rfl))
        | (refine SeqT.take (v := ?_) (by first | assumption | trivial) (by kernel_rfl) (by decide +kernel) (by decide +kernel) (Or.inl ⟨by rfl, ?_⟩) ?_; rotate_left; focus (intro w' hb'; have d0 := (hb'.2.cell 3).trans s3V; go_simp; with_reducible rfl))
        | (refine SeqT.take (v := undef) (by first | assumption | trivial) (by kernel_rfl) (by decide +kernel) (by decide +kernel) (Or.inr ⟨by rfl, rfl⟩) ?_)
        | (refine SeqT.take1 (v := .agg (cs1).toArray) (by first | assumption | trivial) (by kernel_rfl) (by decide +kernel) (by decide +kernel) (yields_blk (by rfl) 37 (.tmp 3) rfl rfl (fun w' h => h.1) (row1)) ?_)
        | (refine SeqT.take1 (v := ?_) (by first | assumption | trivial) (by kernel_rfl) (by decide +kernel) (by decide +kernel) (Or.inl ⟨by rfl, ?_⟩) ?_; rotate_left; focus (intro w' hb'; go_simp; with_reducible rfl))
        | (refine SeqT.take1 (v := ?_) (by first | assumption | trivial) (by kernel_rfl) (by decide +kernel) (by decide +kernel) (Or.inl ⟨by rfl, ?_⟩) ?_; rotate_left; focus (intro w' hb'; have d0 := (hb'.2.cell 3).trans s3V; go_simp; with_reducible rfl))
        | (refine SeqT.take1 (v := undef) (by first | assumption | trivial) (by kernel_rfl) (by decide +kernel) (by decide +kernel) (Or.inr ⟨by rfl, rfl⟩) ?_)); simp only [Act.put, List.setIfInBounds_toArray, List.set_cons_zero, List.set_cons_succ])
      refine SeqT.alone (by decide +kernel) (by rfl) (by decide) (fun K1 hK => ?_)
      go_simp
      go_at_call 62
      refine (rNumber_any (TU + 1) 8 V (by decide)).mono ?_
      rintro q w1 ⟨b1, d1, rfl, own1, S1⟩
      go_simp
      have iv1 := And.intro (pV.out w1 S1).x (pV.out w1 S1).s
      refine hK _ _ iv1 ?_
      clear hK K1
      (try simp only [Act.put, List.setIfInBounds_toArray, List.set_cons_zero, List.set_cons_succ])
      repeat ((first
        | (refine SeqT.take (v := ?_) (by first | assumption | trivial) (by kernel_rfl) (by decide +kernel) (by decide +kernel) (Or.inl ⟨by rfl, ?_⟩) ?_; rotate_left; focus (intro w' hb'; go_simp; with_reducible rfl))
        | (refine SeqT.take (v := undef) (by first | assumption | trivial) (by kernel_rfl) (by decide +kernel) (by decide +kernel) (Or.inr ⟨by rfl, rfl⟩) ?_)); simp only [Act.put, List.setIfInBounds_toArray, List.set_cons_zero, List.set_cons_succ])
      refine SeqT.alone (by decide +kernel) (by rfl) (by decide) (fun K1 hK => ?_)
      refine wp_append_ints (.tmp 74) (.tmp 75) 22 rfl V.heap.size 5 i0 (.int .u8 0) 1 Tryz.underlying22 hi hz0 hz1 hz2 rfl rfl own1 rfl (IV.keep S1) ?_ ?_ S1.size ?_
      · unfold maxLen; omega
      · omega
      intro v2 w2 own2 g2
      have S2 : Below V.heap.size V w2 := S1.grown g2 S1.size (fun q hq => (own1.lt q hq).1)
      have iv2 := And.intro (pV.out w2 S2).x (pV.out w2 S2).s
      refine hK _ _ iv2 ?_
      clear hK K1 g2 own1 iv1
      rw [← List.map_append, BeH.out] at own2
      obtain ⟨b2, d2, hv2⟩ := own_slice32 own2
      subst hv2
      have I2 := own_ints' own2
      (try simp only [Act.put, List.setIfInBounds_toArray, List.set_cons_zero, List.set_cons_succ])
      refine SeqT.alone (by decide +kernel) (by rfl) (by decide) (fun K1 hK => ?_)
      go_simp
      go_at_call 61
      refine (r19Bytes_any b2 (8 + n) d2 B' w2 I2 BbH.out (by omega)).mono ?_
      rintro q w3 ⟨b3, d3, rfl, own3, q3⟩
      go_simp
      have S3 := S2.trans (q3.mono S2.size)
      have iv3 := And.intro (pV.out w3 S3).x (pV.out w3 S3).s
      refine hK _ _ iv3 ?_
      clear hK K1 I2 own2 iv2 q3
      have cA := (pV.out w3 S3).append ok1H.out (by have := hTH.out; omega) 1 (own_ints' own3) (by rw [BfH.out]; omega) A2H.out
      (try simp only [Act.put, List.setIfInBounds_toArray, List.set_cons_zero, List.set_cons_succ])
      refine SeqT.alone (by decide +kernel) (by rfl) (by decide) (fun K1 hK => ?_)
      go_simp
      go_at_call 8
      refine cA.mono ?_
      rintro q w4 ⟨cs2, rfl, p4⟩
      go_simp
      have iv4 := And.intro p4.x p4.s
      refine hK _ _ iv4 ?_
      clear hK K1 own3 iv3 cA
      have row2 := p4.row
      have l2 := p4.ddc.l
      have o2 := p4.ddc.o
      (try simp only [Act.put, List.setIfInBounds_toArray, List.set_cons_zero, List.set_cons_succ])
      repeat ((first
        | (refine SeqT.take (v := ?_) (by first | assumption | trivial) (by kernel_rfl) (by decide +kernel) (by decide +kernel) (Or.inl ⟨by rfl, ?_⟩) ?_; rotate_left; focus (intro w' hb'; go_simp; with_reducible rfl))
        | (refine SeqT.take (v := undef) (by first | assumption | trivial) (by kernel_rfl) (by decide +kernel) (by decide +kernel) (Or.inr ⟨by rfl, rfl⟩) ?_)); simp only [Act.put, List.setIfInBounds_toArray, List.set_cons_zero, List.set_cons_succ])
      repeat ((first
        | (refine SeqT.free (v := ?_) (by first | assumption | trivial) (by kernel_rfl) (by decide +kernel) (by decide +kernel) (Or.inl ⟨by rfl, ?_⟩) ?_; rotate_left; focus (intro w' hb'; go_simp; with_reducible rfl))
        | (refine SeqT.free (v := undef) (by first | assumption | trivial) (by kernel_rfl) (by decide +kernel) (by decide +kernel) (Or.inr ⟨by rfl, rfl⟩) ?_)); simp only [Act.put, List.setIfInBounds_toArray, List.set_cons_zero, List.set_cons_succ])
      refine SeqT.last (by decide +kernel) (by rfl) (fun K1 hK => ?_)
      refine wp_store_part 37 (.tmp 3) _ rfl rfl rfl p4.x row2 (by rw [l2, l1]; decide) o2 (fun w5 b5 g5 => ?_)
      rw [overV_all _ _ (by rw [l2, l1])] at b5
      have p5 := p4.setx b5 g5
      refine hK _ _ ?_
      clear hK K1 iv4 p4 b5 g5
      (try simp only [Act.put])
      repeat ((first
        | (refine SeqS.k0 (v := ?_) ?_ ?_; rotate_left; focus (intro w' hb'; go_simp; with_reducible rfl))
        | (refine SeqS.u0 ?_)); simp only [Act.put, List.setIfInBounds_toArray, List.set_cons_zero, List.set_cons_succ])
      refine SeqS.done (by decide +kernel) ?_
      clear pV iv IV S1 S2 S3
      have hR := RH.out
      by_cases he2 : e2 = 0
      · rw [if_pos he2] at hR
        subst he2
        dsimp only at hR
        have cS := p5.sync ok2H.out (by have := hTH.out; omega) 1 A3H.out
        have x5 := p5.x
        clear p5
        go_wp2_with ((with_reducible refine wpList_load_blk rfl 37 (.tmp 3) rfl ?_ x5 rowDd l2 ?_); rfl)
        refine cS.mono ?_
        rintro q w6 ⟨cs3, rfl, p6⟩
        have l3 := p6.ddc.l
        have o3 := p6.ddc.o
        clear cS x5
        go_wp2_with ((with_reducible refine store_row rfl 37 (.tmp 3) _ rfl ?_ ?_ p6.x rowDd l3 l2 o3 ?_); rfl; rfl; intro w7 bx gx; refine RowKit.Hid.out ?_)
        refine Lib.hid ?_
        have p7 := p6.setx bx gx
        clear p6 bx gx
        by_cases he3 : e3 = 0
        · rw [if_neg (by omega)] at hR
          injection hR with hR1 hR2
          injection hR2 with hR2 hR3
          subst hR1; subst hR2; subst hR3; subst he3
          have k2 := (p7.s.cell 2).trans s2H.out
          have k3 := (p7.s.cell 3).trans s3H.out
          have f2 := p7.s.frozen 2
          have f3 := p7.s.frozen 3
          have k4 : w7.cell? ⟨G + 1, 4, none⟩ = some (.slice aa nn cc) := (p7.s.cell 4).trans (by rw [scH.out]; rfl)
          have f4 := p7.s.frozen 4
          have hz7 := p7.z.lt
          have p8 := p7.sets (p7.s.set 2 (.int .i64 1)) (grown_setCell _ _ _ _)
          have p9 := p8.sets (p8.s.set 3 (.int .u64 (TU + 1))) (grown_setCell _ _ _ _)
          obtain ⟨U2, hU2⟩ : ∃ U, (w7.setCell ⟨G + 1, 2, none⟩ (.int .i64 1)).setCell ⟨G + 1, 3, none⟩ (.int .u64 (TU + 1)) = U := ⟨_, rfl⟩
          have sz : U2.heap.size = w7.heap.size := by rw [← hU2]; simp
          rw [hU2] at p9
          have UH := Lib.hid hU2
          have szH := Lib.hid sz
          have q3 : Below U2.heap.size U2 (U2.alloc (.cells #[] 5)) := below1 _ _
          have own0 : (U2.alloc (.cells #[] 5)).ownsRow U2.heap.size 5 1 (.slice (some ⟨U2.heap.size, 0, none⟩) 0 0) 0 [] := World.ownsRow_made U2 #[] 0 (Nat.le_refl _) (Nat.zero_le _) rfl
          have I9 := (IH.out.keep p9.b).keep q3
          have q3s := q3.size
          rw [sz] at own0 q3s
          clear hU2 sz p7 p8 row1 l1 row2 l2 o2 l3 o3 k4 f4
          go_wp2_with (at_builtin; rw [UH.out]; refine wpList_append_ints rfl (.tmp 103) (.tmp 104) 22 rfl w7.heap.size 5 i0 (.int .u8 0) 1 Tryz.underlying22 hi hz0 hz1 hz2 rfl rfl own0 rfl I9 ?_ ?_ q3s ?_; (have := hnH.out; unfold maxLen; omega); (have := hnH.out; omega); intro v10 w10 own10 g10; refine RowKit.Hid.out ?_)
          refine Lib.hid ?_
          rw [List.nil_append, Nat.zero_add] at own10
          have q10 : Below U2.heap.size U2 w10 := q3.grown g10 q3.size (fun k hk => by injection hk with hk; rw [← hk, szH.out]; exact Nat.le_refl _)
          have p10 := p9.keep q10
          obtain ⟨b10, d10, hv10⟩ := own_slice32 own10
          subst hv10
          have hlo : ∀ y, b10 = some y → w7.heap.size ≤ y.block := fun y hy => (own10.lt y.block (by rw [hy]; rfl)).1
          have I10 := own_ints' own10
          have k4 : w10.cell? ⟨G + 1, 4, none⟩ = some (.slice aa nn cc) := (p10.s.cell 4).trans (by rw [scH.out]; rfl)
          have f4 := p10.s.frozen 4
          have p := p10.sets (p10.s.set 4 (.slice b10 n d10)) (grown_setCell _ _ _ _)
          have I11 : Ints .u8 (w10.setCell ⟨G + 1, 4, none⟩ (.slice b10 n d10)) b10 n d10 xs := ints_from (B := G + 4) I10 (fun y hy _ => by have := hlo y hy; omega) (fun b h1 h2 => (grown_setCell w10 (G + 1) 4 (.slice b10 n d10)).block b h2 (fun e => by injection e with e; omega))
          obtain ⟨SN, hSN⟩ : ∃ C, ((SC.set 2 (.int .i64 1)).set 3 (.int .u64 (TU + 1))).set 4 (.slice b10 n d10) = C := ⟨_, rfl⟩
          rw [hSN] at p
          have hS2 : SN = slC ⟨s.a, s.b, 1, s.turn + 1, xs⟩ b10 n d10 := by rw [← hSN, scH.out, ← TUH.out]; rfl
          have lS : SN.length = 5 := by rw [hS2]; rfl
          have oS : ∀ v ∈ SN, v.oneCell' = true := by rw [hS2]; exact slC_one _ _ _ _
          have rowS : IsRow Tryz.prog 46 SN.length := by rw [lS]; exact rowSl
          have hBG : w.heap.size ≤ G := by rw [hGH.out]; exact Nat.le_refl _
          clear q3 q3s own0 I9 own10 g10 q10 p9 p10 I10 hSN k2 k3 f2 f3
          obtain ⟨cs1, rfl⟩ : ∃ x, x = cs3 := ⟨_, rfl⟩
          obtain ⟨SC, rfl⟩ : ∃ x, x = SN := ⟨_, rfl⟩
          have p' := p.keep (Below.refl _ _).drew
          have row1 := p.row
          have l1 := p.ddc.l
          have o1 := p.ddc.o
          go_wp2_with fail
          refine region_seqS (fun w' => Blk w' G 37 cs1 ∧ Blk w' (G + 1) 46 SC) (by kernel_rfl) ⟨p'.x, p'.s⟩ ?_
          have iv := And.intro p'.x p'.s
          simp only [pairs, Nat.reduceAdd]
          repeat ((first
            | (refine SeqS.y0 (v := .agg (cs1).toArray) (yields_blk (by rfl) 37 (.tmp 3) rfl rfl (fun w' h => h.1) (row1)) ?_)
            | (refine SeqS.y0 (v := .agg (SC).toArray) (yields_blk (by rfl) 46 (.tmp 4) rfl rfl (fun w' h => h.2) (rowS)) ?_)
            | (refine SeqS.k0 (v := ?_) ?_ ?_; rotate_left; focus (intro w' hb'; go_simp; with_reducible rfl))
            | (refine SeqS.u0 ?_)); simp only [Act.put, List.setIfInBounds_toArray, List.set_cons_zero, List.set_cons_succ])
          refine SeqS.alone (by decide +kernel) (by rfl) (fun K1 hK => ?_)
          refine wp_store_part 37 (.tmp 6) _ rfl rfl rfl p'.y row1 (by rw [l1, hzl]; decide) o1 (fun wa ba ga => ?_)
          rw [overV_all _ _ (by rw [l1, hzl])] at ba
          have pa := p'.sety ba ga
          refine hK _ _ ⟨pa.x, pa.s⟩ ?_
          clear hK K1
          have iv1 := And.intro pa.x pa.s
          repeat ((first
            | (refine SeqS.y0 (v := .agg (SC).toArray) (yields_blk (by rfl) 46 (.tmp 4) rfl rfl (fun w' h => h.2) (rowS)) ?_)
            | (refine SeqS.k0 (v := ?_) ?_ ?_; rotate_left; focus (intro w' hb'; go_simp; with_reducible rfl))
            | (refine SeqS.u0 ?_)); simp only [Act.put, List.setIfInBounds_toArray, List.set_cons_zero, List.set_cons_succ])
          refine SeqS.alone (by decide +kernel) (by rfl) (fun K2 hK => ?_)
          refine wp_store_part 46 (.tmp 7) _ rfl rfl rfl pa.z rowS (by rw [lS, hzs]; decide) oS (fun wb bb gb => ?_)
          rw [overV_all _ _ (by rw [lS, hzs])] at bb
          have pb := pa.setz bb gb
          refine hK _ _ ⟨pb.x, pb.s⟩ ?_
          clear hK K2
          have iv2 := And.intro pb.x pb.s
          repeat ((first
            | (refine SeqS.k0 (v := ?_) ?_ ?_; rotate_left; focus (intro w' hb'; go_simp; with_reducible rfl))
            | (refine SeqS.u0 ?_)); simp only [Act.put, List.setIfInBounds_toArray, List.set_cons_zero, List.set_cons_succ])
          refine SeqS.done (by decide +kernel) ?_
          have fin := pb.done
          have yb := pb.y
          have zb := pb.z
          have fs := fun (b : Nat) (h1 : G + 4 ≤ b) h2 => (gb.block b (Nat.lt_of_lt_of_le h2 ga.size) (fun e => by injection e with e; omega)).trans (ga.block b h2 (fun e => by injection e with e; omega))
          have sl : SlAt wb (fun b => Q b ∨ w.heap.size ≤ b) SC ⟨s.a, s.b, 1, s.turn + 1, xs⟩ := ⟨_, _, _, hS2, ints_from (B := G + 4) I11 (fun y hy _ => by have := hlo y hy; omega) fs, fun y hy _ => .inr (by have := hlo y hy; omega)⟩
          clear iv iv1 iv2 p p' pa ba ga bb gb pb o1 l1
          go_wp2
          refine bodyPost_ret (results_bbt21 rfl rfl yb row1 rfl zb rowS) rfl ?_
          exact ⟨cs1, SC, rfl, fin.1, sl, fin.2⟩
        · rw [if_pos he3] at hR
          injection hR with hR1 hR2
          injection hR2 with hR2 hR3
          subst hR1; subst hR2; subst hR3
          have p := p7
          obtain ⟨cs1, rfl⟩ : ∃ x, x = cs3 := ⟨_, rfl⟩
          clear p7 row1 l1 row2 l2 o2 l3 o3
          have p' := p.keep (Below.refl _ _).drew
          have row1 := p.row
          have l1 := p.ddc.l
          have o1 := p.ddc.o
          go_wp2_with fail
          refine region_seqS (fun w' => Blk w' G 37 cs1 ∧ Blk w' (G + 1) 46 SC) (by kernel_rfl) ⟨p'.x, p'.s⟩ ?_
          have iv := And.intro p'.x p'.s
          simp only [pairs, Nat.reduceAdd]
          repeat ((first
            | (refine SeqS.y0 (v := .agg (cs1).toArray) (yields_blk (by rfl) 37 (.tmp 3) rfl rfl (fun w' h => h.1) (row1)) ?_)
            | (refine SeqS.y0 (v := .agg (SC).toArray) (yields_blk (by rfl) 46 (.tmp 4) rfl rfl (fun w' h => h.2) (rowS)) ?_)
            | (refine SeqS.k0 (v := ?_) ?_ ?_; rotate_left; focus (intro w' hb'; go_simp; with_reducible rfl))
            | (refine SeqS.u0 ?_)); simp only [Act.put, List.setIfInBounds_toArray, List.set_cons_zero, List.set_cons_succ])
          refine SeqS.alone (by decide +kernel) (by rfl) (fun K1 hK => ?_)
          refine wp_store_part 37 (.tmp 6) _ rfl rfl rfl p'.y row1 (by rw [l1, hzl]; decide) o1 (fun wa ba ga => ?_)
          rw [overV_all _ _ (by rw [l1, hzl])] at ba
          have pa := p'.sety ba ga
          refine hK _ _ ⟨pa.x, pa.s⟩ ?_
          clear hK K1
          have iv1 := And.intro pa.x pa.s
          repeat ((first
            | (refine SeqS.y0 (v := .agg (SC).toArray) (yields_blk (by rfl) 46 (.tmp 4) rfl rfl (fun w' h => h.2) (rowS)) ?_)
            | (refine SeqS.k0 (v := ?_) ?_ ?_; rotate_left; focus (intro w' hb'; go_simp; with_reducible rfl))
            | (refine SeqS.u0 ?_)); simp only [Act.put, List.setIfInBounds_toArray, List.set_cons_zero, List.set_cons_succ])
          refine SeqS.alone (by decide +kernel) (by rfl) (fun K2 hK => ?_)
          refine wp_store_part 46 (.tmp 7) _ rfl rfl rfl pa.z rowS (by rw [lS, hzs]; decide) oS (fun wb bb gb => ?_)
          rw [overV_all _ _ (by rw [lS, hzs])] at bb
          have pb := pa.setz bb gb
          refine hK _ _ ⟨pb.x, pb.s⟩ ?_
          clear hK K2
          have iv2 := And.intro pb.x pb.s
          repeat ((first
            | (refine SeqS.k0 (v := ?_) ?_ ?_; rotate_left; focus (intro w' hb'; go_simp; with_reducible rfl))
            | (refine SeqS.u0 ?_)); simp only [Act.put, List.setIfInBounds_toArray, List.set_cons_zero, List.set_cons_succ])
          refine SeqS.done (by decide +kernel) ?_
          have fin := pb.done
          have yb := pb.y
          have zb := pb.z
          have sl := SLH.out wb fin.2
          clear iv iv1 iv2 p p' pa ba ga bb gb pb o1 l1
          go_wp2
          refine bodyPost_ret (results_bbt21 rfl rfl yb row1 rfl zb rowS) rfl ?_
          exact ⟨cs1, SC, rfl, fin.1, sl, fin.2⟩
      · rw [if_neg he2] at hR
        dsimp only at hR
        rw [if_pos he2] at hR
        injection hR with hR1 hR2
        injection hR2 with hR2 hR3
        subst hR1; subst hR2; subst hR3
        have p := p5
        obtain ⟨cs1, rfl⟩ : ∃ x, x = cs2 := ⟨_, rfl⟩
        clear p5 row1 l1 row2 l2 o2
        have p' := p.keep (Below.refl _ _).drew
        have row1 := p.row
        have l1 := p.ddc.l
        have o1 := p.ddc.o
        go_wp2_with fail
        refine region_seqS (fun w' => Blk w' G 37 cs1 ∧ Blk w' (G + 1) 46 SC) (by kernel_rfl) ⟨p'.x, p'.s⟩ ?_
        have iv := And.intro p'.x p'.s
        simp only [pairs, Nat.reduceAdd]
        repeat ((first
          | (refine SeqS.y0 (v := .agg (cs1).toArray) (yields_blk (by rfl) 37 (.tmp 3) rfl rfl (fun w' h => h.1) (row1)) ?_)
          | (refine SeqS.y0 (v := .agg (SC).toArray) (yields_blk (by rfl) 46 (.tmp 4) rfl rfl (fun w' h => h.2) (rowS)) ?_)
          | (refine SeqS.k0 (v := ?_) ?_ ?_; rotate_left; focus (intro w' hb'; go_simp; with_reducible rfl))
          | (refine SeqS.u0 ?_)); simp only [Act.put, List.setIfInBounds_toArray, List.set_cons_zero, List.set_cons_succ])
        refine SeqS.alone (by decide +kernel) (by rfl) (fun K1 hK => ?_)
        refine wp_store_part 37 (.tmp 6) _ rfl rfl rfl p'.y row1 (by rw [l1, hzl]; decide) o1 (fun wa ba ga => ?_)
        rw [overV_all _ _ (by rw [l1, hzl])] at ba
        have pa := p'.sety ba ga
        refine hK _ _ ⟨pa.x, pa.s⟩ ?_
        clear hK K1
        have iv1 := And.intro pa.x pa.s
        repeat ((first
          | (refine SeqS.y0 (v := .agg (SC).toArray) (yields_blk (by rfl) 46 (.tmp 4) rfl rfl (fun w' h => h.2) (rowS)) ?_)
          | (refine SeqS.k0 (v := ?_) ?_ ?_; rotate_left; focus (intro w' hb'; go_simp; with_reducible rfl))
          | (refine SeqS.u0 ?_)); simp only [Act.put, List.setIfInBounds_toArray, List.set_cons_zero, List.set_cons_succ])
        refine SeqS.alone (by decide +kernel) (by rfl) (fun K2 hK => ?_)
        refine wp_store_part 46 (.tmp 7) _ rfl rfl rfl pa.z rowS (by rw [lS, hzs]; decide) oS (fun wb bb gb => ?_)
        rw [overV_all _ _ (by rw [lS, hzs])] at bb
        have pb := pa.setz bb gb
        refine hK _ _ ⟨pb.x, pb.s⟩ ?_
        clear hK K2
        have iv2 := And.intro pb.x pb.s
        repeat ((first
          | (refine SeqS.k0 (v := ?_) ?_ ?_; rotate_left; focus (intro w' hb'; go_simp; with_reducible rfl))
          | (refine SeqS.u0 ?_)); simp only [Act.put, List.setIfInBounds_toArray, List.set_cons_zero, List.set_cons_succ])
        refine SeqS.done (by decide +kernel) ?_
        have fin := pb.done
        have yb := pb.y
        have zb := pb.z
        have sl := SLH.out wb fin.2
        clear iv iv1 iv2 p p' pa ba ga bb gb pb o1 l1
        go_wp2
        refine bodyPost_ret (results_bbt21 rfl rfl yb row1 rfl zb rowS) rfl ?_
        exact ⟨cs1, SC, rfl, fin.1, sl, fin.2⟩
    · have g4 : (0 : Int) < (U : Int) := by omega
      have p1 := pk1.keep q2
      clear cU1 pk1 q2 fr1 p0
      have hcl := clH.out
      rw [if_pos (by omega)] at hcl
      obtain ⟨Dc, ec, hc⟩ : ∃ Dc ec, ctD D 1 0 = (Dc, ec) := ⟨_, _, rfl⟩
      have okc := ctD_ok okH.out 1 0
      unfold keD at hcl
      rw [hc] at okc hcl
      dsimp only at hcl
      have cC := p1.cut okH.out (by have := hTH.out; omega) 1 0 hc
      have x1 := p1.x
      clear p1
      go_wp2_with ((with_reducible refine wpList_load_blk rfl 37 (.tmp 3) rfl ?_ x1 rowDd hl ?_); rfl)
      refine cC.mono ?_
      rintro q wa ⟨csa, rfl, pa⟩
      have la := pa.ddc.l
      have oa := pa.ddc.o
      clear cC x1
      go_wp2_with ((with_reducible refine store_row rfl 37 (.tmp 3) _ rfl ?_ ?_ pa.x rowDd la hl oa ?_); rfl; rfl; intro wb bx gx; refine RowKit.Hid.out ?_)
      refine Lib.hid ?_
      have pb := pa.setx bx gx
      clear pa bx gx
      have hR := RH.out
      by_cases hec : ec = 0
      · rw [if_pos hec] at hcl
        subst hec
        have cS := pb.sync okc (by have := hTH.out; omega) 1 hcl.symm
        have xb := pb.x
        clear pb
        go_wp2_with ((with_reducible refine wpList_load_blk rfl 37 (.tmp 3) rfl ?_ xb rowDd la ?_); rfl)
        refine cS.mono ?_
        rintro q wc ⟨csc, rfl, pc⟩
        have lc := pc.ddc.l
        have oc := pc.ddc.o
        clear cS xb
        go_wp2_with ((with_reducible refine store_row rfl 37 (.tmp 3) _ rfl ?_ ?_ pc.x rowDd lc la oc ?_); rfl; rfl; intro wd bx gx; refine RowKit.Hid.out ?_)
        refine Lib.hid ?_
        have p1 := pc.setx bx gx
        clear pc bx gx la oa lc oc hc okc
        obtain ⟨cs1, rfl⟩ : ∃ x, x = csc := ⟨_, rfl⟩
        by_cases he1 : e1 = 0
        · subst he1
          rw [if_neg (by decide)] at hR
          have RH := Lib.hid hR
          clear hR hcl
          obtain ⟨W1, rfl⟩ : ∃ x, x = wd := ⟨_, rfl⟩
          have p1' := p1.keep (Below.refl _ _).drew
          obtain ⟨V, hV⟩ : ∃ V, W1.drew = V := ⟨_, rfl⟩
          rw [hV] at p1'
          have pV := Lib.hid (fun W' (q : Below V.heap.size V W') => p1'.keep q)
          have s3V := s3H.out
          have IV := IH.out.keep p1'.b
          have row1 := p1'.row
          have l1 := p1'.ddc.l
          have iv := And.intro p1'.x p1'.s
          have hnn := hnH.out
          obtain ⟨i0, hi, hz0, hz1, hz2⟩ := info_u8l21
          clear p1 p1'
          go_wp2_with fail
          refine region_seqT 13 (fun w' => Blk w' G 37 cs1 ∧ Blk w' (G + 1) 46 SC) (by kernel_rfl) ?_
          simp only [pairs, Nat.reduceAdd]
          rw [hV]
          repeat ((first
            | (refine SeqT.take (v := .agg (cs1).toArray) (by first | assumption | trivial) (by kernel_rfl) (by decide +kernel) (by decide +kernel) (yields_blk (by rfl) 37 (.tmp 3) rfl rfl (fun w' h => h.1) (row1)) ?_)
            | (refine SeqT.take (v := ?_) (by first | assumption | trivial) (by kernel_rfl) (by decide +kernel) (by decide +kernel) (Or.inl ⟨by rfl, ?_⟩) ?_; rotate_left; focus (intro w' hb'; go_simp; with_reducible rfl))
            | (refine SeqT.take (v := ?_) (by first | assumption | trivial) (by kernel_rfl) (by decide +kernel) (by decide +kernel) (Or.inl ⟨by rfl, ?_⟩) ?_; rotate_left; focus (intro w' hb'; have d0 := (hb'.2.cell 3).trans s3V; go_simp; with_reducible rfl))
            | (refine SeqT.take (v := undef) (by first | assumption | trivial) (by kernel_rfl) (by decide +kernel) (by decide +kernel) (Or.inr ⟨by rfl, rfl⟩) ?_)
            | (refine SeqT.take1 (v := .agg (cs1).toArray) (by first | assumption | trivial) (by kernel_rfl) (by decide +kernel) (by decide +kernel) (yields_blk (by rfl) 37 (.tmp 3) rfl rfl (fun w' h => h.1) (row1)) ?_)
            | (refine SeqT.take1 (v := ?_) (by first | assumption | trivial) (by kernel_rfl) (by decide +kernel) (by decide +kernel) (Or.inl ⟨by rfl, ?_⟩) ?_; rotate_left; focus (intro w' hb'; go_simp; with_reducible rfl))
            | (refine SeqT.take1 (v := ?_) (by first | assumption | trivial) (by kernel_rfl) (by decide +kernel) (by decide +kernel) (Or.inl ⟨by rfl, ?_⟩) ?_; rotate_left; focus (intro w' hb'; have d0 := (hb'.2.cell 3).trans s3V; go_simp; with_reducible rfl))
            | (refine SeqT.take1 (v := undef) (by first | assumption | trivial) (by kernel_rfl) (by decide +kernel) (by decide +kernel) (Or.inr ⟨by rfl, rfl⟩) ?_)); simp only [Act.put, List.setIfInBounds_toArray, List.set_cons_zero, List.set_cons_succ])
          refine SeqT.alone (by decide +kernel) (by rfl) (by decide) (fun K1 hK => ?_)
          go_simp
          go_at_call 62
          refine (rNumber_any (TU + 1) 8 V (by decide)).mono ?_
          rintro q w1 ⟨b1, d1, rfl, own1, S1⟩
          go_simp
          have iv1 := And.intro (pV.out w1 S1).x (pV.out w1 S1).s
          refine hK _ _ iv1 ?_
          clear hK K1
          (try simp only [Act.put, List.setIfInBounds_toArray, List.set_cons_zero, List.set_cons_succ])
          repeat ((first
            | (refine SeqT.take (v := ?_) (by first | assumption | trivial) (by kernel_rfl) (by decide +kernel) (by decide +kernel) (Or.inl ⟨by rfl, ?_⟩) ?_; rotate_left; focus (intro w' hb'; go_simp; with_reducible rfl))
            | (refine SeqT.take (v := undef) (by first | assumption | trivial) (by kernel_rfl) (by decide +kernel) (by decide +kernel) (Or.inr ⟨by rfl, rfl⟩) ?_)); simp only [Act.put, List.setIfInBounds_toArray, List.set_cons_zero, List.set_cons_succ])
          refine SeqT.alone (by decide +kernel) (by rfl) (by decide) (fun K1 hK => ?_)
          refine wp_append_ints (.tmp 74) (.tmp 75) 22 rfl V.heap.size 5 i0 (.int .u8 0) 1 Tryz.underlying22 hi hz0 hz1 hz2 rfl rfl own1 rfl (IV.keep S1) ?_ ?_ S1.size ?_
          · unfold maxLen; omega
          · omega
          intro v2 w2 own2 g2
          have S2 : Below V.heap.size V w2 := S1.grown g2 S1.size (fun q hq => (own1.lt q hq).1)
          have iv2 := And.intro (pV.out w2 S2).x (pV.out w2 S2).s
          refine hK _ _ iv2 ?_
          clear hK K1 g2 own1 iv1
          rw [← List.map_append, BeH.out] at own2
          obtain ⟨b2, d2, hv2⟩ := own_slice32 own2
          subst hv2
          have I2 := own_ints' own2
          (try simp only [Act.put, List.setIfInBounds_toArray, List.set_cons_zero, List.set_cons_succ])
          refine SeqT.alone (by decide +kernel) (by rfl) (by decide) (fun K1 hK => ?_)
          go_simp
          go_at_call 61
          refine (r19Bytes_any b2 (8 + n) d2 B' w2 I2 BbH.out (by omega)).mono ?_
          rintro q w3 ⟨b3, d3, rfl, own3, q3⟩
          go_simp
          have S3 := S2.trans (q3.mono S2.size)
          have iv3 := And.intro (pV.out w3 S3).x (pV.out w3 S3).s
          refine hK _ _ iv3 ?_
          clear hK K1 I2 own2 iv2 q3
          have cA := (pV.out w3 S3).append ok1H.out (by have := hTH.out; omega) 1 (own_ints' own3) (by rw [BfH.out]; omega) A2H.out
          (try simp only [Act.put, List.setIfInBounds_toArray, List.set_cons_zero, List.set_cons_succ])
          refine SeqT.alone (by decide +kernel) (by rfl) (by decide) (fun K1 hK => ?_)
          go_simp
          go_at_call 8
          refine cA.mono ?_
          rintro q w4 ⟨cs2, rfl, p4⟩
          go_simp
          have iv4 := And.intro p4.x p4.s
          refine hK _ _ iv4 ?_
          clear hK K1 own3 iv3 cA
          have row2 := p4.row
          have l2 := p4.ddc.l
          have o2 := p4.ddc.o
          (try simp only [Act.put, List.setIfInBounds_toArray, List.set_cons_zero, List.set_cons_succ])
          repeat ((first
            | (refine SeqT.take (v := ?_) (by first | assumption | trivial) (by kernel_rfl) (by decide +kernel) (by decide +kernel) (Or.inl ⟨by rfl, ?_⟩) ?_; rotate_left; focus (intro w' hb'; go_simp; with_reducible rfl))
            | (refine SeqT.take (v := undef) (by first | assumption | trivial) (by kernel_rfl) (by decide +kernel) (by decide +kernel) (Or.inr ⟨by rfl, rfl⟩) ?_)); simp only [Act.put, List.setIfInBounds_toArray, List.set_cons_zero, List.set_cons_succ])
          repeat ((first
            | (refine SeqT.free (v := ?_) (by first | assumption | trivial) (by kernel_rfl) (by decide +kernel) (by decide +kernel) (Or.inl ⟨by rfl, ?_⟩) ?_; rotate_left; focus (intro w' hb'; go_simp; with_reducible rfl))
            | (refine SeqT.free (v := undef) (by first | assumption | trivial) (by kernel_rfl) (by decide +kernel) (by decide +kernel) (Or.inr ⟨by rfl, rfl⟩) ?_)); simp only [Act.put, List.setIfInBounds_toArray, List.set_cons_zero, List.set_cons_succ])
          refine SeqT.last (by decide +kernel) (by rfl) (fun K1 hK => ?_)
          refine wp_store_part 37 (.tmp 3) _ rfl rfl rfl p4.x row2 (by rw [l2, l1]; decide) o2 (fun w5 b5 g5 => ?_)
          rw [overV_all _ _ (by rw [l2, l1])] at b5
          have p5 := p4.setx b5 g5
          refine hK _ _ ?_
          clear hK K1 iv4 p4 b5 g5
          (try simp only [Act.put])
          repeat ((first
            | (refine SeqS.k0 (v := ?_) ?_ ?_; rotate_left; focus (intro w' hb'; go_simp; with_reducible rfl))
            | (refine SeqS.u0 ?_)); simp only [Act.put, List.setIfInBounds_toArray, List.set_cons_zero, List.set_cons_succ])
          refine SeqS.done (by decide +kernel) ?_
          clear pV iv IV S1 S2 S3
          have hR := RH.out
          by_cases he2 : e2 = 0
          · rw [if_pos he2] at hR
            subst he2
            dsimp only at hR
            have cS := p5.sync ok2H.out (by have := hTH.out; omega) 1 A3H.out
            have x5 := p5.x
            clear p5
            go_wp2_with ((with_reducible refine wpList_load_blk rfl 37 (.tmp 3) rfl ?_ x5 rowDd l2 ?_); rfl)
            refine cS.mono ?_
            rintro q w6 ⟨cs3, rfl, p6⟩
            have l3 := p6.ddc.l
            have o3 := p6.ddc.o
            clear cS x5
            go_wp2_with ((with_reducible refine store_row rfl 37 (.tmp 3) _ rfl ?_ ?_ p6.x rowDd l3 l2 o3 ?_); rfl; rfl; intro w7 bx gx; refine RowKit.Hid.out ?_)
            refine Lib.hid ?_
            have p7 := p6.setx bx gx
            clear p6 bx gx
            by_cases he3 : e3 = 0
            · rw [if_neg (by omega)] at hR
              injection hR with hR1 hR2
              injection hR2 with hR2 hR3
              subst hR1; subst hR2; subst hR3; subst he3
              have k2 := (p7.s.cell 2).trans s2H.out
              have k3 := (p7.s.cell 3).trans s3H.out
              have f2 := p7.s.frozen 2
              have f3 := p7.s.frozen 3
              have k4 : w7.cell? ⟨G + 1, 4, none⟩ = some (.slice aa nn cc) := (p7.s.cell 4).trans (by rw [scH.out]; rfl)
              have f4 := p7.s.frozen 4
              have hz7 := p7.z.lt
              have p8 := p7.sets (p7.s.set 2 (.int .i64 1)) (grown_setCell _ _ _ _)
              have p9 := p8.sets (p8.s.set 3 (.int .u64 (TU + 1))) (grown_setCell _ _ _ _)
              obtain ⟨U2, hU2⟩ : ∃ U, (w7.setCell ⟨G + 1, 2, none⟩ (.int .i64 1)).setCell ⟨G + 1, 3, none⟩ (.int .u64 (TU + 1)) = U := ⟨_, rfl⟩
              have sz : U2.heap.size = w7.heap.size := by rw [← hU2]; simp
              rw [hU2] at p9
              have UH := Lib.hid hU2
              have szH := Lib.hid sz
              have q3 : Below U2.heap.size U2 (U2.alloc (.cells #[] 5)) := below1 _ _
              have own0 : (U2.alloc (.cells #[] 5)).ownsRow U2.heap.size 5 1 (.slice (some ⟨U2.heap.size, 0, none⟩) 0 0) 0 [] := World.ownsRow_made U2 #[] 0 (Nat.le_refl _) (Nat.zero_le _) rfl
              have I9 := (IH.out.keep p9.b).keep q3
              have q3s := q3.size
              rw [sz] at own0 q3s
              clear hU2 sz p7 p8 row1 l1 row2 l2 o2 l3 o3 k4 f4
              go_wp2_with (at_builtin; rw [UH.out]; refine wpList_append_ints rfl (.tmp 103) (.tmp 104) 22 rfl w7.heap.size 5 i0 (.int .u8 0) 1 Tryz.underlying22 hi hz0 hz1 hz2 rfl rfl own0 rfl I9 ?_ ?_ q3s ?_; (have := hnH.out; unfold maxLen; omega); (have := hnH.out; omega); intro v10 w10 own10 g10; refine RowKit.Hid.out ?_)
              refine Lib.hid ?_
              rw [List.nil_append, Nat.zero_add] at own10
              have q10 : Below U2.heap.size U2 w10 := q3.grown g10 q3.size (fun k hk => by injection hk with hk; rw [← hk, szH.out]; exact Nat.le_refl _)
              have p10 := p9.keep q10
              obtain ⟨b10, d10, hv10⟩ := own_slice32 own10
              subst hv10
              have hlo : ∀ y, b10 = some y → w7.heap.size ≤ y.block := fun y hy => (own10.lt y.block (by rw [hy]; rfl)).1
              have I10 := own_ints' own10
              have k4 : w10.cell? ⟨G + 1, 4, none⟩ = some (.slice aa nn cc) := (p10.s.cell 4).trans (by rw [scH.out]; rfl)
              have f4 := p10.s.frozen 4
              have p := p10.sets (p10.s.set 4 (.slice b10 n d10)) (grown_setCell _ _ _ _)
              have I11 : Ints .u8 (w10.setCell ⟨G + 1, 4, none⟩ (.slice b10 n d10)) b10 n d10 xs := ints_from (B := G + 4) I10 (fun y hy _ => by have := hlo y hy; omega) (fun b h1 h2 => (grown_setCell w10 (G + 1) 4 (.slice b10 n d10)).block b h2 (fun e => by injection e with e; omega))
              obtain ⟨SN, hSN⟩ : ∃ C, ((SC.set 2 (.int .i64 1)).set 3 (.int .u64 (TU + 1))).set 4 (.slice b10 n d10) = C := ⟨_, rfl⟩
              rw [hSN] at p
              have hS2 : SN = slC ⟨s.a, s.b, 1, s.turn + 1, xs⟩ b10 n d10 := by rw [← hSN, scH.out, ← TUH.out]; rfl
              have lS : SN.length = 5 := by rw [hS2]; rfl
              have oS : ∀ v ∈ SN, v.oneCell' = true := by rw [hS2]; exact slC_one _ _ _ _
              have rowS : IsRow Tryz.prog 46 SN.length := by rw [lS]; exact rowSl
              have hBG : w.heap.size ≤ G := by rw [hGH.out]; exact Nat.le_refl _
              clear q3 q3s own0 I9 own10 g10 q10 p9 p10 I10 hSN k2 k3 f2 f3
              obtain ⟨cs1, rfl⟩ : ∃ x, x = cs3 := ⟨_, rfl⟩
              obtain ⟨SC, rfl⟩ : ∃ x, x = SN := ⟨_, rfl⟩
              have p' := p.keep (Below.refl _ _).drew
              have row1 := p.row
              have l1 := p.ddc.l
              have o1 := p.ddc.o
              go_wp2_with fail
              refine region_seqS (fun w' => Blk w' G 37 cs1 ∧ Blk w' (G + 1) 46 SC) (by kernel_rfl) ⟨p'.x, p'.s⟩ ?_
              have iv := And.intro p'.x p'.s
              simp only [pairs, Nat.reduceAdd]
              repeat ((first
                | (refine SeqS.y0 (v := .agg (cs1).toArray) (yields_blk (by rfl) 37 (.tmp 3) rfl rfl (fun w' h => h.1) (row1)) ?_)
                | (refine SeqS.y0 (v := .agg (SC).toArray) (yields_blk (by rfl) 46 (.tmp 4) rfl rfl (fun w' h => h.2) (rowS)) ?_)
                | (refine SeqS.k0 (v := ?_) ?_ ?_; rotate_left; focus (intro w' hb'; go_simp; with_reducible rfl))
                | (refine SeqS.u0 ?_)); simp only [Act.put, List.setIfInBounds_toArray, List.set_cons_zero, List.set_cons_succ])
              refine SeqS.alone (by decide +kernel) (by rfl) (fun K1 hK => ?_)
              refine wp_store_part 37 (.tmp 6) _ rfl rfl rfl p'.y row1 (by rw [l1, hzl]; decide) o1 (fun wa ba ga => ?_)
              rw [overV_all _ _ (by rw [l1, hzl])] at ba
              have pa := p'.sety ba ga
              refine hK _ _ ⟨pa.x, pa.s⟩ ?_
              clear hK K1
              have iv1 := And.intro pa.x pa.s
              repeat ((first
                | (refine SeqS.y0 (v := .agg (SC).toArray) (yields_blk (by rfl) 46 (.tmp 4) rfl rfl (fun w' h => h.2) (rowS)) ?_)
                | (refine SeqS.k0 (v := ?_) ?_ ?_; rotate_left; focus (intro w' hb'; go_simp; with_reducible rfl))
                | (refine SeqS.u0 ?_)); simp only [Act.put, List.setIfInBounds_toArray, List.set_cons_zero, List.set_cons_succ])
              refine SeqS.alone (by decide +kernel) (by rfl) (fun K2 hK => ?_)
              refine wp_store_part 46 (.tmp 7) _ rfl rfl rfl pa.z rowS (by rw [lS, hzs]; decide) oS (fun wb bb gb => ?_)
              rw [overV_all _ _ (by rw [lS, hzs])] at bb
              have pb := pa.setz bb gb
              refine hK _ _ ⟨pb.x, pb.s⟩ ?_
              clear hK K2
              have iv2 := And.intro pb.x pb.s
              repeat ((first
                | (refine SeqS.k0 (v := ?_) ?_ ?_; rotate_left; focus (intro w' hb'; go_simp; with_reducible rfl))
                | (refine SeqS.u0 ?_)); simp only [Act.put, List.setIfInBounds_toArray, List.set_cons_zero, List.set_cons_succ])
              refine SeqS.done (by decide +kernel) ?_
              have fin := pb.done
              have yb := pb.y
              have zb := pb.z
              have fs := fun (b : Nat) (h1 : G + 4 ≤ b) h2 => (gb.block b (Nat.lt_of_lt_of_le h2 ga.size) (fun e => by injection e with e; omega)).trans (ga.block b h2 (fun e => by injection e with e; omega))
              have sl : SlAt wb (fun b => Q b ∨ w.heap.size ≤ b) SC ⟨s.a, s.b, 1, s.turn + 1, xs⟩ := ⟨_, _, _, hS2, ints_from (B := G + 4) I11 (fun y hy _ => by have := hlo y hy; omega) fs, fun y hy _ => .inr (by have := hlo y hy; omega)⟩
              clear iv iv1 iv2 p p' pa ba ga bb gb pb o1 l1
              go_wp2
              refine bodyPost_ret (results_bbt21 rfl rfl yb row1 rfl zb rowS) rfl ?_
              exact ⟨cs1, SC, rfl, fin.1, sl, fin.2⟩
            · rw [if_pos he3] at hR
              injection hR with hR1 hR2
              injection hR2 with hR2 hR3
              subst hR1; subst hR2; subst hR3
              have p := p7
              obtain ⟨cs1, rfl⟩ : ∃ x, x = cs3 := ⟨_, rfl⟩
              clear p7 row1 l1 row2 l2 o2 l3 o3
              have p' := p.keep (Below.refl _ _).drew
              have row1 := p.row
              have l1 := p.ddc.l
              have o1 := p.ddc.o
              go_wp2_with fail
              refine region_seqS (fun w' => Blk w' G 37 cs1 ∧ Blk w' (G + 1) 46 SC) (by kernel_rfl) ⟨p'.x, p'.s⟩ ?_
              have iv := And.intro p'.x p'.s
              simp only [pairs, Nat.reduceAdd]
              repeat ((first
                | (refine SeqS.y0 (v := .agg (cs1).toArray) (yields_blk (by rfl) 37 (.tmp 3) rfl rfl (fun w' h => h.1) (row1)) ?_)
                | (refine SeqS.y0 (v := .agg (SC).toArray) (yields_blk (by rfl) 46 (.tmp 4) rfl rfl (fun w' h => h.2) (rowS)) ?_)
                | (refine SeqS.k0 (v := ?_) ?_ ?_; rotate_left; focus (intro w' hb'; go_simp; with_reducible rfl))
                | (refine SeqS.u0 ?_)); simp only [Act.put, List.setIfInBounds_toArray, List.set_cons_zero, List.set_cons_succ])
              refine SeqS.alone (by decide +kernel) (by rfl) (fun K1 hK => ?_)
              refine wp_store_part 37 (.tmp 6) _ rfl rfl rfl p'.y row1 (by rw [l1, hzl]; decide) o1 (fun wa ba ga => ?_)
              rw [overV_all _ _ (by rw [l1, hzl])] at ba
              have pa := p'.sety ba ga
              refine hK _ _ ⟨pa.x, pa.s⟩ ?_
              clear hK K1
              have iv1 := And.intro pa.x pa.s
              repeat ((first
                | (refine SeqS.y0 (v := .agg (SC).toArray) (yields_blk (by rfl) 46 (.tmp 4) rfl rfl (fun w' h => h.2) (rowS)) ?_)
                | (refine SeqS.k0 (v := ?_) ?_ ?_; rotate_left; focus (intro w' hb'; go_simp; with_reducible rfl))
                | (refine SeqS.u0 ?_)); simp only [Act.put, List.setIfInBounds_toArray, List.set_cons_zero, List.set_cons_succ])
              refine SeqS.alone (by decide +kernel) (by rfl) (fun K2 hK => ?_)
              refine wp_store_part 46 (.tmp 7) _ rfl rfl rfl pa.z rowS (by rw [lS, hzs]; decide) oS (fun wb bb gb => ?_)
              rw [overV_all _ _ (by rw [lS, hzs])] at bb
              have pb := pa.setz bb gb
              refine hK _ _ ⟨pb.x, pb.s⟩ ?_
              clear hK K2
              have iv2 := And.intro pb.x pb.s
              repeat ((first
                | (refine SeqS.k0 (v := ?_) ?_ ?_; rotate_left; focus (intro w' hb'; go_simp; with_reducible rfl))
                | (refine SeqS.u0 ?_)); simp only [Act.put, List.setIfInBounds_toArray, List.set_cons_zero, List.set_cons_succ])
              refine SeqS.done (by decide +kernel) ?_
              have fin := pb.done
              have yb := pb.y
              have zb := pb.z
              have sl := SLH.out wb fin.2
              clear iv iv1 iv2 p p' pa ba ga bb gb pb o1 l1
              go_wp2
              refine bodyPost_ret (results_bbt21 rfl rfl yb row1 rfl zb rowS) rfl ?_
              exact ⟨cs1, SC, rfl, fin.1, sl, fin.2⟩
          · rw [if_neg he2] at hR
            dsimp only at hR
            rw [if_pos he2] at hR
            injection hR with hR1 hR2
            injection hR2 with hR2 hR3
            subst hR1; subst hR2; subst hR3
            have p := p5
            obtain ⟨cs1, rfl⟩ : ∃ x, x = cs2 := ⟨_, rfl⟩
            clear p5 row1 l1 row2 l2 o2
            have p' := p.keep (Below.refl _ _).drew
            have row1 := p.row
            have l1 := p.ddc.l
            have o1 := p.ddc.o
            go_wp2_with fail
            refine region_seqS (fun w' => Blk w' G 37 cs1 ∧ Blk w' (G + 1) 46 SC) (by kernel_rfl) ⟨p'.x, p'.s⟩ ?_
            have iv := And.intro p'.x p'.s
            simp only [pairs, Nat.reduceAdd]
            repeat ((first
              | (refine SeqS.y0 (v := .agg (cs1).toArray) (yields_blk (by rfl) 37 (.tmp 3) rfl rfl (fun w' h => h.1) (row1)) ?_)
              | (refine SeqS.y0 (v := .agg (SC).toArray) (yields_blk (by rfl) 46 (.tmp 4) rfl rfl (fun w' h => h.2) (rowS)) ?_)
              | (refine SeqS.k0 (v := ?_) ?_ ?_; rotate_left; focus (intro w' hb'; go_simp; with_reducible rfl))
              | (refine SeqS.u0 ?_)); simp only [Act.put, List.setIfInBounds_toArray, List.set_cons_zero, List.set_cons_succ])
            refine SeqS.alone (by decide +kernel) (by rfl) (fun K1 hK => ?_)
            refine wp_store_part 37 (.tmp 6) _ rfl rfl rfl p'.y row1 (by rw [l1, hzl]; decide) o1 (fun wa ba ga => ?_)
            rw [overV_all _ _ (by rw [l1, hzl])] at ba
            have pa := p'.sety ba ga
            refine hK _ _ ⟨pa.x, pa.s⟩ ?_
            clear hK K1
            have iv1 := And.intro pa.x pa.s
            repeat ((first
              | (refine SeqS.y0 (v := .agg (SC).toArray) (yields_blk (by rfl) 46 (.tmp 4) rfl rfl (fun w' h => h.2) (rowS)) ?_)
              | (refine SeqS.k0 (v := ?_) ?_ ?_; rotate_left; focus (intro w' hb'; go_simp; with_reducible rfl))
              | (refine SeqS.u0 ?_)); simp only [Act.put, List.setIfInBounds_toArray, List.set_cons_zero, List.set_cons_succ])
            refine SeqS.alone (by decide +kernel) (by rfl) (fun K2 hK => ?_)
            refine wp_store_part 46 (.tmp 7) _ rfl rfl rfl pa.z rowS (by rw [lS, hzs]; decide) oS (fun wb bb gb => ?_)
            rw [overV_all _ _ (by rw [lS, hzs])] at bb
            have pb := pa.setz bb gb
            refine hK _ _ ⟨pb.x, pb.s⟩ ?_
            clear hK K2
            have iv2 := And.intro pb.x pb.s
            repeat ((first
              | (refine SeqS.k0 (v := ?_) ?_ ?_; rotate_left; focus (intro w' hb'; go_simp; with_reducible rfl))
              | (refine SeqS.u0 ?_)); simp only [Act.put, List.setIfInBounds_toArray, List.set_cons_zero, List.set_cons_succ])
            refine SeqS.done (by decide +kernel) ?_
            have fin := pb.done
            have yb := pb.y
            have zb := pb.z
            have sl := SLH.out wb fin.2
            clear iv iv1 iv2 p p' pa ba ga bb gb pb o1 l1
            go_wp2
            refine bodyPost_ret (results_bbt21 rfl rfl yb row1 rfl zb rowS) rfl ?_
            exact ⟨cs1, SC, rfl, fin.1, sl, fin.2⟩
        · rw [if_pos he1] at hR
          injection hR with hR1 hR2
          injection hR2 with hR2 hR3
          subst hR1; subst hR2; subst hR3
          have p := p1
          clear p1
          have p' := p.keep (Below.refl _ _).drew
          have row1 := p.row
          have l1 := p.ddc.l
          have o1 := p.ddc.o
          go_wp2_with fail
          refine region_seqS (fun w' => Blk w' G 37 cs1 ∧ Blk w' (G + 1) 46 SC) (by kernel_rfl) ⟨p'.x, p'.s⟩ ?_
          have iv := And.intro p'.x p'.s
          simp only [pairs, Nat.reduceAdd]
          repeat ((first
            | (refine SeqS.y0 (v := .agg (cs1).toArray) (yields_blk (by rfl) 37 (.tmp 3) rfl rfl (fun w' h => h.1) (row1)) ?_)
            | (refine SeqS.y0 (v := .agg (SC).toArray) (yields_blk (by rfl) 46 (.tmp 4) rfl rfl (fun w' h => h.2) (rowS)) ?_)
            | (refine SeqS.k0 (v := ?_) ?_ ?_; rotate_left; focus (intro w' hb'; go_simp; with_reducible rfl))
            | (refine SeqS.u0 ?_)); simp only [Act.put, List.setIfInBounds_toArray, List.set_cons_zero, List.set_cons_succ])
          refine SeqS.alone (by decide +kernel) (by rfl) (fun K1 hK => ?_)
          refine wp_store_part 37 (.tmp 6) _ rfl rfl rfl p'.y row1 (by rw [l1, hzl]; decide) o1 (fun wa ba ga => ?_)
          rw [overV_all _ _ (by rw [l1, hzl])] at ba
          have pa := p'.sety ba ga
          refine hK _ _ ⟨pa.x, pa.s⟩ ?_
          clear hK K1
          have iv1 := And.intro pa.x pa.s
          repeat ((first
            | (refine SeqS.y0 (v := .agg (SC).toArray) (yields_blk (by rfl) 46 (.tmp 4) rfl rfl (fun w' h => h.2) (rowS)) ?_)
            | (refine SeqS.k0 (v := ?_) ?_ ?_; rotate_left; focus (intro w' hb'; go_simp; with_reducible rfl))
            | (refine SeqS.u0 ?_)); simp only [Act.put, List.setIfInBounds_toArray, List.set_cons_zero, List.set_cons_succ])
          refine SeqS.alone (by decide +kernel) (by rfl) (fun K2 hK => ?_)
          refine wp_store_part 46 (.tmp 7) _ rfl rfl rfl pa.z rowS (by rw [lS, hzs]; decide) oS (fun wb bb gb => ?_)
          rw [overV_all _ _ (by rw [lS, hzs])] at bb
          have pb := pa.setz bb gb
          refine hK _ _ ⟨pb.x, pb.s⟩ ?_
          clear hK K2
          have iv2 := And.intro pb.x pb.s
          repeat ((first
            | (refine SeqS.k0 (v := ?_) ?_ ?_; rotate_left; focus (intro w' hb'; go_simp; with_reducible rfl))
            | (refine SeqS.u0 ?_)); simp only [Act.put, List.setIfInBounds_toArray, List.set_cons_zero, List.set_cons_succ])
          refine SeqS.done (by decide +kernel) ?_
          have fin := pb.done
          have yb := pb.y
          have zb := pb.z
          have sl := SLH.out wb fin.2
          clear iv iv1 iv2 p p' pa ba ga bb gb pb o1 l1
          go_wp2
          refine bodyPost_ret (results_bbt21 rfl rfl yb row1 rfl zb rowS) rfl ?_
          exact ⟨cs1, SC, rfl, fin.1, sl, fin.2⟩
      · rw [if_neg hec] at hcl
        injection hcl with hc1 hc2
        subst hc1; subst hc2
        rw [if_pos hec] at hR
        injection hR with hR1 hR2
        injection hR2 with hR2 hR3
        subst hR1; subst hR2; subst hR3
        have p := pb
        obtain ⟨cs1, rfl⟩ : ∃ x, x = csa := ⟨_, rfl⟩
        clear pb la oa
        have p' := p.keep (Below.refl _ _).drew
        have row1 := p.row
        have l1 := p.ddc.l
        have o1 := p.ddc.o
        go_wp2_with fail
        refine region_seqS (fun w' => Blk w' G 37 cs1 ∧ Blk w' (G + 1) 46 SC) (by kernel_rfl) ⟨p'.x, p'.s⟩ ?_
        have iv := And.intro p'.x p'.s
        simp only [pairs, Nat.reduceAdd]
        repeat ((first
          | (refine SeqS.y0 (v := .agg (cs1).toArray) (yields_blk (by rfl) 37 (.tmp 3) rfl rfl (fun w' h => h.1) (row1)) ?_)
          | (refine SeqS.y0 (v := .agg (SC).toArray) (yields_blk (by rfl) 46 (.tmp 4) rfl rfl (fun w' h => h.2) (rowS)) ?_)
          | (refine SeqS.k0 (v := ?_) ?_ ?_; rotate_left; focus (intro w' hb'; go_simp; with_reducible rfl))
          | (refine SeqS.u0 ?_)); simp only [Act.put, List.setIfInBounds_toArray, List.set_cons_zero, List.set_cons_succ])
        refine SeqS.alone (by decide +kernel) (by rfl) (fun K1 hK => ?_)
        refine wp_store_part 37 (.tmp 6) _ rfl rfl rfl p'.y row1 (by rw [l1, hzl]; decide) o1 (fun wa ba ga => ?_)
        rw [overV_all _ _ (by rw [l1, hzl])] at ba
        have pa := p'.sety ba ga
        refine hK _ _ ⟨pa.x, pa.s⟩ ?_
        clear hK K1
        have iv1 := And.intro pa.x pa.s
        repeat ((first
          | (refine SeqS.y0 (v := .agg (SC).toArray) (yields_blk (by rfl) 46 (.tmp 4) rfl rfl (fun w' h => h.2) (rowS)) ?_)
          | (refine SeqS.k0 (v := ?_) ?_ ?_; rotate_left; focus (intro w' hb'; go_simp; with_reducible rfl))
          | (refine SeqS.u0 ?_)); simp only [Act.put, List.setIfInBounds_toArray, List.set_cons_zero, List.set_cons_succ])
        refine SeqS.alone (by decide +kernel) (by rfl) (fun K2 hK => ?_)
        refine wp_store_part 46 (.tmp 7) _ rfl rfl rfl pa.z rowS (by rw [lS, hzs]; decide) oS (fun wb bb gb => ?_)
        rw [overV_all _ _ (by rw [lS, hzs])] at bb
        have pb := pa.setz bb gb
        refine hK _ _ ⟨pb.x, pb.s⟩ ?_
        clear hK K2
        have iv2 := And.intro pb.x pb.s
        repeat ((first
          | (refine SeqS.k0 (v := ?_) ?_ ?_; rotate_left; focus (intro w' hb'; go_simp; with_reducible rfl))
          | (refine SeqS.u0 ?_)); simp only [Act.put, List.setIfInBounds_toArray, List.set_cons_zero, List.set_cons_succ])
        refine SeqS.done (by decide +kernel) ?_
        have fin := pb.done
        have yb := pb.y
        have zb := pb.z
        have sl := SLH.out wb fin.2
        clear iv iv1 iv2 p p' pa ba ga bb gb pb o1 l1
        go_wp2
        refine bodyPost_ret (results_bbt21 rfl rfl yb row1 rfl zb rowS) rfl ?_
        exact ⟨cs1, SC, rfl, fin.1, sl, fin.2⟩
  · have g3 : (0 : Int) < (N : Int) := by omega
    have p1 := pk.out W1 q1
    clear cH cU frH pk q1 p0
    have hcl := clH.out
    rw [if_pos (by omega)] at hcl
    obtain ⟨Dc, ec, hc⟩ : ∃ Dc ec, ctD D 1 0 = (Dc, ec) := ⟨_, _, rfl⟩
    have okc := ctD_ok okH.out 1 0
    unfold keD at hcl
    rw [hc] at okc hcl
    dsimp only at hcl
    have cC := p1.cut okH.out (by have := hTH.out; omega) 1 0 hc
    have x1 := p1.x
    clear p1
    go_wp2_with ((with_reducible refine wpList_load_blk rfl 37 (.tmp 3) rfl ?_ x1 rowDd hl ?_); rfl)
    refine cC.mono ?_
    rintro q wa ⟨csa, rfl, pa⟩
    have la := pa.ddc.l
    have oa := pa.ddc.o
    clear cC x1
    go_wp2_with ((with_reducible refine store_row rfl 37 (.tmp 3) _ rfl ?_ ?_ pa.x rowDd la hl oa ?_); rfl; rfl; intro wb bx gx; refine RowKit.Hid.out ?_)
    refine Lib.hid ?_
    have pb := pa.setx bx gx
    clear pa bx gx
    have hR := RH.out
    by_cases hec : ec = 0
    · rw [if_pos hec] at hcl
      subst hec
      have cS := pb.sync okc (by have := hTH.out; omega) 1 hcl.symm
      have xb := pb.x
      clear pb
      go_wp2_with ((with_reducible refine wpList_load_blk rfl 37 (.tmp 3) rfl ?_ xb rowDd la ?_); rfl)
      refine cS.mono ?_
      rintro q wc ⟨csc, rfl, pc⟩
      have lc := pc.ddc.l
      have oc := pc.ddc.o
      clear cS xb
      go_wp2_with ((with_reducible refine store_row rfl 37 (.tmp 3) _ rfl ?_ ?_ pc.x rowDd lc la oc ?_); rfl; rfl; intro wd bx gx; refine RowKit.Hid.out ?_)
      refine Lib.hid ?_
      have p1 := pc.setx bx gx
      clear pc bx gx la oa lc oc hc okc
      obtain ⟨cs1, rfl⟩ : ∃ x, x = csc := ⟨_, rfl⟩
      by_cases he1 : e1 = 0
      · subst he1
        rw [if_neg (by decide)] at hR
        have RH := Lib.hid hR
        clear hR hcl
        obtain ⟨W1, rfl⟩ : ∃ x, x = wd := ⟨_, rfl⟩
        have p1' := p1.keep (Below.refl _ _).drew
        obtain ⟨V, hV⟩ : ∃ V, W1.drew = V := ⟨_, rfl⟩
        rw [hV] at p1'
        have pV := Lib.hid (fun W' (q : Below V.heap.size V W') => p1'.keep q)
        have s3V := s3H.out
        have IV := IH.out.keep p1'.b
        have row1 := p1'.row
        have l1 := p1'.ddc.l
        have iv := And.intro p1'.x p1'.s
        have hnn := hnH.out
        obtain ⟨i0, hi, hz0, hz1, hz2⟩ := info_u8l21
        clear p1 p1'
        go_wp2_with fail
        refine region_seqT 13 (fun w' => Blk w' G 37 cs1 ∧ Blk w' (G + 1) 46 SC) (by kernel_rfl) ?_
        simp only [pairs, Nat.reduceAdd]
        rw [hV]
        repeat ((first
          | (refine SeqT.take (v := .agg (cs1).toArray) (by first | assumption | trivial) (by kernel_rfl) (by decide +kernel) (by decide +kernel) (yields_blk (by rfl) 37 (.tmp 3) rfl rfl (fun w' h => h.1) (row1)) ?_)
          | (refine SeqT.take (v := ?_) (by first | assumption | trivial) (by kernel_rfl) (by decide +kernel) (by decide +kernel) (Or.inl ⟨by rfl, ?_⟩) ?_; rotate_left; focus (intro w' hb'; go_simp; with_reducible rfl))
          | (refine SeqT.take (v := ?_) (by first | assumption | trivial) (by kernel_rfl) (by decide +kernel) (by decide +kernel) (Or.inl ⟨by rfl, ?_⟩) ?_; rotate_left; focus (intro w' hb'; have d0 := (hb'.2.cell 3).trans s3V; go_simp; with_reducible rfl))
          | (refine SeqT.take (v := undef) (by first | assumption | trivial) (by kernel_rfl) (by decide +kernel) (by decide +kernel) (Or.inr ⟨by rfl, rfl⟩) ?_)
          | (refine SeqT.take1 (v := .agg (cs1).toArray) (by first | assumption | trivial) (by kernel_rfl) (by decide +kernel) (by decide +kernel) (yields_blk (by rfl) 37 (.tmp 3) rfl rfl (fun w' h => h.1) (row1)) ?_)
          | (refine SeqT.take1 (v := ?_) (by first | assumption | trivial) (by kernel_rfl) (by decide +kernel) (by decide +kernel) (Or.inl ⟨by rfl, ?_⟩) ?_; rotate_left; focus (intro w' hb'; go_simp; with_reducible rfl))
          | (refine SeqT.take1 (v := ?_) (by first | assumption | trivial) (by kernel_rfl) (by decide +kernel) (by decide +kernel) (Or.inl ⟨by rfl, ?_⟩) ?_; rotate_left; focus (intro w' hb'; have d0 := (hb'.2.cell 3).trans s3V; go_simp; with_reducible rfl))
          | (refine SeqT.take1 (v := undef) (by first | assumption | trivial) (by kernel_rfl) (by decide +kernel) (by decide +kernel) (Or.inr ⟨by rfl, rfl⟩) ?_)); simp only [Act.put, List.setIfInBounds_toArray, List.set_cons_zero, List.set_cons_succ])
        refine SeqT.alone (by decide +kernel) (by rfl) (by decide) (fun K1 hK => ?_)
        go_simp
        go_at_call 62
        refine (rNumber_any (TU + 1) 8 V (by decide)).mono ?_
        rintro q w1 ⟨b1, d1, rfl, own1, S1⟩
        go_simp
        have iv1 := And.intro (pV.out w1 S1).x (pV.out w1 S1).s
        refine hK _ _ iv1 ?_
        clear hK K1
        (try simp only [Act.put, List.setIfInBounds_toArray, List.set_cons_zero, List.set_cons_succ])
        repeat ((first
          | (refine SeqT.take (v := ?_) (by first | assumption | trivial) (by kernel_rfl) (by decide +kernel) (by decide +kernel) (Or.inl ⟨by rfl, ?_⟩) ?_; rotate_left; focus (intro w' hb'; go_simp; with_reducible rfl))
          | (refine SeqT.take (v := undef) (by first | assumption | trivial) (by kernel_rfl) (by decide +kernel) (by decide +kernel) (Or.inr ⟨by rfl, rfl⟩) ?_)); simp only [Act.put, List.setIfInBounds_toArray, List.set_cons_zero, List.set_cons_succ])
        refine SeqT.alone (by decide +kernel) (by rfl) (by decide) (fun K1 hK => ?_)
        refine wp_append_ints (.tmp 74) (.tmp 75) 22 rfl V.heap.size 5 i0 (.int .u8 0) 1 Tryz.underlying22 hi hz0 hz1 hz2 rfl rfl own1 rfl (IV.keep S1) ?_ ?_ S1.size ?_
        · unfold maxLen; omega
        · omega
        intro v2 w2 own2 g2
        have S2 : Below V.heap.size V w2 := S1.grown g2 S1.size (fun q hq => (own1.lt q hq).1)
        have iv2 := And.intro (pV.out w2 S2).x (pV.out w2 S2).s
        refine hK _ _ iv2 ?_
        clear hK K1 g2 own1 iv1
        rw [← List.map_append, BeH.out] at own2
        obtain ⟨b2, d2, hv2⟩ := own_slice32 own2
        subst hv2
        have I2 := own_ints' own2
        (try simp only [Act.put, List.setIfInBounds_toArray, List.set_cons_zero, List.set_cons_succ])
        refine SeqT.alone (by decide +kernel) (by rfl) (by decide) (fun K1 hK => ?_)
        go_simp
        go_at_call 61
        refine (r19Bytes_any b2 (8 + n) d2 B' w2 I2 BbH.out (by omega)).mono ?_
        rintro q w3 ⟨b3, d3, rfl, own3, q3⟩
        go_simp
        have S3 := S2.trans (q3.mono S2.size)
        have iv3 := And.intro (pV.out w3 S3).x (pV.out w3 S3).s
        refine hK _ _ iv3 ?_
        clear hK K1 I2 own2 iv2 q3
        have cA := (pV.out w3 S3).append ok1H.out (by have := hTH.out; omega) 1 (own_ints' own3) (by rw [BfH.out]; omega) A2H.out
        (try simp only [Act.put, List.setIfInBounds_toArray, List.set_cons_zero, List.set_cons_succ])
        refine SeqT.alone (by decide +kernel) (by rfl) (by decide) (fun K1 hK => ?_)
        go_simp
        go_at_call 8
        refine cA.mono ?_
        rintro q w4 ⟨cs2, rfl, p4⟩
        go_simp
        have iv4 := And.intro p4.x p4.s
        refine hK _ _ iv4 ?_
        clear hK K1 own3 iv3 cA
        have row2 := p4.row
        have l2 := p4.ddc.l
        have o2 := p4.ddc.o
        (try simp only [Act.put, List.setIfInBounds_toArray, List.set_cons_zero, List.set_cons_succ])
        repeat ((first
          | (refine SeqT.take (v := ?_) (by first | assumption | trivial) (by kernel_rfl) (by decide +kernel) (by decide +kernel) (Or.inl ⟨by rfl, ?_⟩) ?_; rotate_left; focus (intro w' hb'; go_simp; with_reducible rfl))
          | (refine SeqT.take (v := undef) (by first | assumption | trivial) (by kernel_rfl) (by decide +kernel) (by decide +kernel) (Or.inr ⟨by rfl, rfl⟩) ?_)); simp only [Act.put, List.setIfInBounds_toArray, List.set_cons_zero, List.set_cons_succ])
        repeat ((first
          | (refine SeqT.free (v := ?_) (by first | assumption | trivial) (by kernel_rfl) (by decide +kernel) (by decide +kernel) (Or.inl ⟨by rfl, ?_⟩) ?_; rotate_left; focus (intro w' hb'; go_simp; with_reducible rfl))
          | (refine SeqT.free (v := undef) (by first | assumption | trivial) (by kernel_rfl) (by decide +kernel) (by decide +kernel) (Or.inr ⟨by rfl, rfl⟩) ?_)); simp only [Act.put, List.setIfInBounds_toArray, List.set_cons_zero, List.set_cons_succ])
        refine SeqT.last (by decide +kernel) (by rfl) (fun K1 hK => ?_)
        refine wp_store_part 37 (.tmp 3) _ rfl rfl rfl p4.x row2 (by rw [l2, l1]; decide) o2 (fun w5 b5 g5 => ?_)
        rw [overV_all _ _ (by rw [l2, l1])] at b5
        have p5 := p4.setx b5 g5
        refine hK _ _ ?_
        clear hK K1 iv4 p4 b5 g5
        (try simp only [Act.put])
        repeat ((first
          | (refine SeqS.k0 (v := ?_) ?_ ?_; rotate_left; focus (intro w' hb'; go_simp; with_reducible rfl))
          | (refine SeqS.u0 ?_)); simp only [Act.put, List.setIfInBounds_toArray, List.set_cons_zero, List.set_cons_succ])
        refine SeqS.done (by decide +kernel) ?_
        clear pV iv IV S1 S2 S3
        have hR := RH.out
        by_cases he2 : e2 = 0
        · rw [if_pos he2] at hR
          subst he2
          dsimp only at hR
          have cS := p5.sync ok2H.out (by have := hTH.out; omega) 1 A3H.out
          have x5 := p5.x
          clear p5
          go_wp2_with ((with_reducible refine wpList_load_blk rfl 37 (.tmp 3) rfl ?_ x5 rowDd l2 ?_); rfl)
          refine cS.mono ?_
          rintro q w6 ⟨cs3, rfl, p6⟩
          have l3 := p6.ddc.l
          have o3 := p6.ddc.o
          clear cS x5
          go_wp2_with ((with_reducible refine store_row rfl 37 (.tmp 3) _ rfl ?_ ?_ p6.x rowDd l3 l2 o3 ?_); rfl; rfl; intro w7 bx gx; refine RowKit.Hid.out ?_)
          refine Lib.hid ?_
          have p7 := p6.setx bx gx
          clear p6 bx gx
          by_cases he3 : e3 = 0
          · rw [if_neg (by omega)] at hR
            injection hR with hR1 hR2
            injection hR2 with hR2 hR3
            subst hR1; subst hR2; subst hR3; subst he3
            have k2 := (p7.s.cell 2).trans s2H.out
            have k3 := (p7.s.cell 3).trans s3H.out
            have f2 := p7.s.frozen 2
            have f3 := p7.s.frozen 3
            have k4 : w7.cell? ⟨G + 1, 4, none⟩ = some (.slice aa nn cc) := (p7.s.cell 4).trans (by rw [scH.out]; rfl)
            have f4 := p7.s.frozen 4
            have hz7 := p7.z.lt
            have p8 := p7.sets (p7.s.set 2 (.int .i64 1)) (grown_setCell _ _ _ _)
            have p9 := p8.sets (p8.s.set 3 (.int .u64 (TU + 1))) (grown_setCell _ _ _ _)
            obtain ⟨U2, hU2⟩ : ∃ U, (w7.setCell ⟨G + 1, 2, none⟩ (.int .i64 1)).setCell ⟨G + 1, 3, none⟩ (.int .u64 (TU + 1)) = U := ⟨_, rfl⟩
            have sz : U2.heap.size = w7.heap.size := by rw [← hU2]; simp
            rw [hU2] at p9
            have UH := Lib.hid hU2
            have szH := Lib.hid sz
            have q3 : Below U2.heap.size U2 (U2.alloc (.cells #[] 5)) := below1 _ _
            have own0 : (U2.alloc (.cells #[] 5)).ownsRow U2.heap.size 5 1 (.slice (some ⟨U2.heap.size, 0, none⟩) 0 0) 0 [] := World.ownsRow_made U2 #[] 0 (Nat.le_refl _) (Nat.zero_le _) rfl
            have I9 := (IH.out.keep p9.b).keep q3
            have q3s := q3.size
            rw [sz] at own0 q3s
            clear hU2 sz p7 p8 row1 l1 row2 l2 o2 l3 o3 k4 f4
            go_wp2_with (at_builtin; rw [UH.out]; refine wpList_append_ints rfl (.tmp 103) (.tmp 104) 22 rfl w7.heap.size 5 i0 (.int .u8 0) 1 Tryz.underlying22 hi hz0 hz1 hz2 rfl rfl own0 rfl I9 ?_ ?_ q3s ?_; (have := hnH.out; unfold maxLen; omega); (have := hnH.out; omega); intro v10 w10 own10 g10; refine RowKit.Hid.out ?_)
            refine Lib.hid ?_
            rw [List.nil_append, Nat.zero_add] at own10
            have q10 : Below U2.heap.size U2 w10 := q3.grown g10 q3.size (fun k hk => by injection hk with hk; rw [← hk, szH.out]; exact Nat.le_refl _)
            have p10 := p9.keep q10
            obtain ⟨b10, d10, hv10⟩ := own_slice32 own10
            subst hv10
            have hlo : ∀ y, b10 = some y → w7.heap.size ≤ y.block := fun y hy => (own10.lt y.block (by rw [hy]; rfl)).1
            have I10 := own_ints' own10
            have k4 : w10.cell? ⟨G + 1, 4, none⟩ = some (.slice aa nn cc) := (p10.s.cell 4).trans (by rw [scH.out]; rfl)
            have f4 := p10.s.frozen 4
            have p := p10.sets (p10.s.set 4 (.slice b10 n d10)) (grown_setCell _ _ _ _)
            have I11 : Ints .u8 (w10.setCell ⟨G + 1, 4, none⟩ (.slice b10 n d10)) b10 n d10 xs := ints_from (B := G + 4) I10 (fun y hy _ => by have := hlo y hy; omega) (fun b h1 h2 => (grown_setCell w10 (G + 1) 4 (.slice b10 n d10)).block b h2 (fun e => by injection e with e; omega))
            obtain ⟨SN, hSN⟩ : ∃ C, ((SC.set 2 (.int .i64 1)).set 3 (.int .u64 (TU + 1))).set 4 (.slice b10 n d10) = C := ⟨_, rfl⟩
            rw [hSN] at p
            have hS2 : SN = slC ⟨s.a, s.b, 1, s.turn + 1, xs⟩ b10 n d10 := by rw [← hSN, scH.out, ← TUH.out]; rfl
            have lS : SN.length = 5 := by rw [hS2]; rfl
            have oS : ∀ v ∈ SN, v.oneCell' = true := by rw [hS2]; exact slC_one _ _ _ _
            have rowS : IsRow Tryz.prog 46 SN.length := by rw [lS]; exact rowSl
            have hBG : w.heap.size ≤ G := by rw [hGH.out]; exact Nat.le_refl _
            clear q3 q3s own0 I9 own10 g10 q10 p9 p10 I10 hSN k2 k3 f2 f3
            obtain ⟨cs1, rfl⟩ : ∃ x, x = cs3 := ⟨_, rfl⟩
            obtain ⟨SC, rfl⟩ : ∃ x, x = SN := ⟨_, rfl⟩
            have p' := p.keep (Below.refl _ _).drew
            have row1 := p.row
            have l1 := p.ddc.l
            have o1 := p.ddc.o
            go_wp2_with fail
            refine region_seqS (fun w' => Blk w' G 37 cs1 ∧ Blk w' (G + 1) 46 SC) (by kernel_rfl) ⟨p'.x, p'.s⟩ ?_
            have iv := And.intro p'.x p'.s
            simp only [pairs, Nat.reduceAdd]
            repeat ((first
              | (refine SeqS.y0 (v := .agg (cs1).toArray) (yields_blk (by rfl) 37 (.tmp 3) rfl rfl (fun w' h => h.1) (row1)) ?_)
              | (refine SeqS.y0 (v := .agg (SC).toArray) (yields_blk (by rfl) 46 (.tmp 4) rfl rfl (fun w' h => h.2) (rowS)) ?_)
              | (refine SeqS.k0 (v := ?_) ?_ ?_; rotate_left; focus (intro w' hb'; go_simp; with_reducible rfl))
              | (refine SeqS.u0 ?_)); simp only [Act.put, List.setIfInBounds_toArray, List.set_cons_zero, List.set_cons_succ])
            refine SeqS.alone (by decide +kernel) (by rfl) (fun K1 hK => ?_)
            refine wp_store_part 37 (.tmp 6) _ rfl rfl rfl p'.y row1 (by rw [l1, hzl]; decide) o1 (fun wa ba ga => ?_)
            rw [overV_all _ _ (by rw [l1, hzl])] at ba
            have pa := p'.sety ba ga
            refine hK _ _ ⟨pa.x, pa.s⟩ ?_
            clear hK K1
            have iv1 := And.intro pa.x pa.s
            repeat ((first
              | (refine SeqS.y0 (v := .agg (SC).toArray) (yields_blk (by rfl) 46 (.tmp 4) rfl rfl (fun w' h => h.2) (rowS)) ?_)
              | (refine SeqS.k0 (v := ?_) ?_ ?_; rotate_left; focus (intro w' hb'; go_simp; with_reducible rfl))
              | (refine SeqS.u0 ?_)); simp only [Act.put, List.setIfInBounds_toArray, List.set_cons_zero, List.set_cons_succ])
            refine SeqS.alone (by decide +kernel) (by rfl) (fun K2 hK => ?_)
            refine wp_store_part 46 (.tmp 7) _ rfl rfl rfl pa.z rowS (by rw [lS, hzs]; decide) oS (fun wb bb gb => ?_)
            rw [overV_all _ _ (by rw [lS, hzs])] at bb
            have pb := pa.setz bb gb
            refine hK _ _ ⟨pb.x, pb.s⟩ ?_
            clear hK K2
            have iv2 := And.intro pb.x pb.s
            repeat ((first
              | (refine SeqS.k0 (v := ?_) ?_ ?_; rotate_left; focus (intro w' hb'; go_simp; with_reducible rfl))
              | (refine SeqS.u0 ?_)); simp only [Act.put, List.setIfInBounds_toArray, List.set_cons_zero, List.set_cons_succ])
            refine SeqS.done (by decide +kernel) ?_
            have fin := pb.done
            have yb := pb.y
            have zb := pb.z
            have fs := fun (b : Nat) (h1 : G + 4 ≤ b) h2 => (gb.block b (Nat.lt_of_lt_of_le h2 ga.size) (fun e => by injection e with e; omega)).trans (ga.block b h2 (fun e => by injection e with e; omega))
            have sl : SlAt wb (fun b => Q b ∨ w.heap.size ≤ b) SC ⟨s.a, s.b, 1, s.turn + 1, xs⟩ := ⟨_, _, _, hS2, ints_from (B := G + 4) I11 (fun y hy _ => by have := hlo y hy; omega) fs, fun y hy _ => .inr (by have := hlo y hy; omega)⟩
            clear iv iv1 iv2 p p' pa ba ga bb gb pb o1 l1
            go_wp2
            refine bodyPost_ret (results_bbt21 rfl rfl yb row1 rfl zb rowS) rfl ?_
            exact ⟨cs1, SC, rfl, fin.1, sl, fin.2⟩
          · rw [if_pos he3] at hR
            injection hR with hR1 hR2
            injection hR2 with hR2 hR3
            subst hR1; subst hR2; subst hR3
            have p := p7
            obtain ⟨cs1, rfl⟩ : ∃ x, x = cs3 := ⟨_, rfl⟩
            clear p7 row1 l1 row2 l2 o2 l3 o3
            have p' := p.keep (Below.refl _ _).drew
            have row1 := p.row
            have l1 := p.ddc.l
            have o1 := p.ddc.o
            go_wp2_with fail
            refine region_seqS (fun w' => Blk w' G 37 cs1 ∧ Blk w' (G + 1) 46 SC) (by kernel_rfl) ⟨p'.x, p'.s⟩ ?_
            have iv := And.intro p'.x p'.s
            simp only [pairs, Nat.reduceAdd]
            repeat ((first
              | (refine SeqS.y0 (v := .agg (cs1).toArray) (yields_blk (by rfl) 37 (.tmp 3) rfl rfl (fun w' h => h.1) (row1)) ?_)
              | (refine SeqS.y0 (v := .agg (SC).toArray) (yields_blk (by rfl) 46 (.tmp 4) rfl rfl (fun w' h => h.2) (rowS)) ?_)
              | (refine SeqS.k0 (v := ?_) ?_ ?_; rotate_left; focus (intro w' hb'; go_simp; with_reducible rfl))
              | (refine SeqS.u0 ?_)); simp only [Act.put, List.setIfInBounds_toArray, List.set_cons_zero, List.set_cons_succ])
            refine SeqS.alone (by decide +kernel) (by rfl) (fun K1 hK => ?_)
            refine wp_store_part 37 (.tmp 6) _ rfl rfl rfl p'.y row1 (by rw [l1, hzl]; decide) o1 (fun wa ba ga => ?_)
            rw [overV_all _ _ (by rw [l1, hzl])] at ba
            have pa := p'.sety ba ga
            refine hK _ _ ⟨pa.x, pa.s⟩ ?_
            clear hK K1
            have iv1 := And.intro pa.x pa.s
            repeat ((first
              | (refine SeqS.y0 (v := .agg (SC).toArray) (yields_blk (by rfl) 46 (.tmp 4) rfl rfl (fun w' h => h.2) (rowS)) ?_)
              | (refine SeqS.k0 (v := ?_) ?_ ?_; rotate_left; focus (intro w' hb'; go_simp; with_reducible rfl))
              | (refine SeqS.u0 ?_)); simp only [Act.put, List.setIfInBounds_toArray, List.set_cons_zero, List.set_cons_succ])
            refine SeqS.alone (by decide +kernel) (by rfl) (fun K2 hK => ?_)
            refine wp_store_part 46 (.tmp 7) _ rfl rfl rfl pa.z rowS (by rw [lS, hzs]; decide) oS (fun wb bb gb => ?_)
            rw [overV_all _ _ (by rw [lS, hzs])] at bb
            have pb := pa.setz bb gb
            refine hK _ _ ⟨pb.x, pb.s⟩ ?_
            clear hK K2
            have iv2 := And.intro pb.x pb.s
            repeat ((first
              | (refine SeqS.k0 (v := ?_) ?_ ?_; rotate_left; focus (intro w' hb'; go_simp; with_reducible rfl))
              | (refine SeqS.u0 ?_)); simp only [Act.put, List.setIfInBounds_toArray, List.set_cons_zero, List.set_cons_succ])
            refine SeqS.done (by decide +kernel) ?_
            have fin := pb.done
            have yb := pb.y
            have zb := pb.z
            have sl := SLH.out wb fin.2
            clear iv iv1 iv2 p p' pa ba ga bb gb pb o1 l1
            go_wp2
            refine bodyPost_ret (results_bbt21 rfl rfl yb row1 rfl zb rowS) rfl ?_
            exact ⟨cs1, SC, rfl, fin.1, sl, fin.2⟩
        · rw [if_neg he2] at hR
          dsimp only at hR
          rw [if_pos he2] at hR
          injection hR with hR1 hR2
          injection hR2 with hR2 hR3
          subst hR1; subst hR2; subst hR3
          have p := p5
          obtain ⟨cs1, rfl⟩ : ∃ x, x = cs2 := ⟨_, rfl⟩
          clear p5 row1 l1 row2 l2 o2
          have p' := p.keep (Below.refl _ _).drew
          have row1 := p.row
          have l1 := p.ddc.l
          have o1 := p.ddc.o
          go_wp2_with fail
          refine region_seqS (fun w' => Blk w' G 37 cs1 ∧ Blk w' (G + 1) 46 SC) (by kernel_rfl) ⟨p'.x, p'.s⟩ ?_
          have iv := And.intro p'.x p'.s
          simp only [pairs, Nat.reduceAdd]
          repeat ((first
            | (refine SeqS.y0 (v := .agg (cs1).toArray) (yields_blk (by rfl) 37 (.tmp 3) rfl rfl (fun w' h => h.1) (row1)) ?_)
            | (refine SeqS.y0 (v := .agg (SC).toArray) (yields_blk (by rfl) 46 (.tmp 4) rfl rfl (fun w' h => h.2) (rowS)) ?_)
            | (refine SeqS.k0 (v := ?_) ?_ ?_; rotate_left; focus (intro w' hb'; go_simp; with_reducible rfl))
            | (refine SeqS.u0 ?_)); simp only [Act.put, List.setIfInBounds_toArray, List.set_cons_zero, List.set_cons_succ])
          refine SeqS.alone (by decide +kernel) (by rfl) (fun K1 hK => ?_)
          refine wp_store_part 37 (.tmp 6) _ rfl rfl rfl p'.y row1 (by rw [l1, hzl]; decide) o1 (fun wa ba ga => ?_)
          rw [overV_all _ _ (by rw [l1, hzl])] at ba
          have pa := p'.sety ba ga
          refine hK _ _ ⟨pa.x, pa.s⟩ ?_
          clear hK K1
          have iv1 := And.intro pa.x pa.s
          repeat ((first
            | (refine SeqS.y0 (v := .agg (SC).toArray) (yields_blk (by rfl) 46 (.tmp 4) rfl rfl (fun w' h => h.2) (rowS)) ?_)
            | (refine SeqS.k0 (v := ?_) ?_ ?_; rotate_left; focus (intro w' hb'; go_simp; with_reducible rfl))
            | (refine SeqS.u0 ?_)); simp only [Act.put, List.setIfInBounds_toArray, List.set_cons_zero, List.set_cons_succ])
          refine SeqS.alone (by decide +kernel) (by rfl) (fun K2 hK => ?_)
          refine wp_store_part 46 (.tmp 7) _ rfl rfl rfl pa.z rowS (by rw [lS, hzs]; decide) oS (fun wb bb gb => ?_)
          rw [overV_all _ _ (by rw [lS, hzs])] at bb
          have pb := pa.setz bb gb
          refine hK _ _ ⟨pb.x, pb.s⟩ ?_
          clear hK K2
          have iv2 := And.intro pb.x pb.s
          repeat ((first
            | (refine SeqS.k0 (v := ?_) ?_ ?_; rotate_left; focus (intro w' hb'; go_simp; with_reducible rfl))
            | (refine SeqS.u0 ?_)); simp only [Act.put, List.setIfInBounds_toArray, List.set_cons_zero, List.set_cons_succ])
          refine SeqS.done (by decide +kernel) ?_
          have fin := pb.done
          have yb := pb.y
          have zb := pb.z
          have sl := SLH.out wb fin.2
          clear iv iv1 iv2 p p' pa ba ga bb gb pb o1 l1
          go_wp2
          refine bodyPost_ret (results_bbt21 rfl rfl yb row1 rfl zb rowS) rfl ?_
          exact ⟨cs1, SC, rfl, fin.1, sl, fin.2⟩
      · rw [if_pos he1] at hR
        injection hR with hR1 hR2
        injection hR2 with hR2 hR3
        subst hR1; subst hR2; subst hR3
        have p := p1
        clear p1
        have p' := p.keep (Below.refl _ _).drew
        have row1 := p.row
        have l1 := p.ddc.l
        have o1 := p.ddc.o
        go_wp2_with fail
        refine region_seqS (fun w' => Blk w' G 37 cs1 ∧ Blk w' (G + 1) 46 SC) (by kernel_rfl) ⟨p'.x, p'.s⟩ ?_
        have iv := And.intro p'.x p'.s
        simp only [pairs, Nat.reduceAdd]
        repeat ((first
          | (refine SeqS.y0 (v := .agg (cs1).toArray) (yields_blk (by rfl) 37 (.tmp 3) rfl rfl (fun w' h => h.1) (row1)) ?_)
          | (refine SeqS.y0 (v := .agg (SC).toArray) (yields_blk (by rfl) 46 (.tmp 4) rfl rfl (fun w' h => h.2) (rowS)) ?_)
          | (refine SeqS.k0 (v := ?_) ?_ ?_; rotate_left; focus (intro w' hb'; go_simp; with_reducible rfl))
          | (refine SeqS.u0 ?_)); simp only [Act.put, List.setIfInBounds_toArray, List.set_cons_zero, List.set_cons_succ])
        refine SeqS.alone (by decide +kernel) (by rfl) (fun K1 hK => ?_)
        refine wp_store_part 37 (.tmp 6) _ rfl rfl rfl p'.y row1 (by rw [l1, hzl]; decide) o1 (fun wa ba ga => ?_)
        rw [overV_all _ _ (by rw [l1, hzl])] at ba
        have pa := p'.sety ba ga
        refine hK _ _ ⟨pa.x, pa.s⟩ ?_
        clear hK K1
        have iv1 := And.intro pa.x pa.s
        repeat ((first
          | (refine SeqS.y0 (v := .agg (SC).toArray) (yields_blk (by rfl) 46 (.tmp 4) rfl rfl (fun w' h => h.2) (rowS)) ?_)
          | (refine SeqS.k0 (v := ?_) ?_ ?_; rotate_left; focus (intro w' hb'; go_simp; with_reducible rfl))
          | (refine SeqS.u0 ?_)); simp only [Act.put, List.setIfInBounds_toArray, List.set_cons_zero, List.set_cons_succ])
        refine SeqS.alone (by decide +kernel) (by rfl) (fun K2 hK => ?_)
        refine wp_store_part 46 (.tmp 7) _ rfl rfl rfl pa.z rowS (by rw [lS, hzs]; decide) oS (fun wb bb gb => ?_)
        rw [overV_all _ _ (by rw [lS, hzs])] at bb
        have pb := pa.setz bb gb
        refine hK _ _ ⟨pb.x, pb.s⟩ ?_
        clear hK K2
        have iv2 := And.intro pb.x pb.s
        repeat ((first
          | (refine SeqS.k0 (v := ?_) ?_ ?_; rotate_left; focus (intro w' hb'; go_simp; with_reducible rfl))
          | (refine SeqS.u0 ?_)); simp only [Act.put, List.setIfInBounds_toArray, List.set_cons_zero, List.set_cons_succ])
        refine SeqS.done (by decide +kernel) ?_
        have fin := pb.done
        have yb := pb.y
        have zb := pb.z
        have sl := SLH.out wb fin.2
        clear iv iv1 iv2 p p' pa ba ga bb gb pb o1 l1
        go_wp2
        refine bodyPost_ret (results_bbt21 rfl rfl yb row1 rfl zb rowS) rfl ?_
        exact ⟨cs1, SC, rfl, fin.1, sl, fin.2⟩
    · rw [if_neg hec] at hcl
      injection hcl with hc1 hc2
      subst hc1; subst hc2
      rw [if_pos hec] at hR
      injection hR with hR1 hR2
      injection hR2 with hR2 hR3
      subst hR1; subst hR2; subst hR3
      have p := pb
      obtain ⟨cs1, rfl⟩ : ∃ x, x = csa := ⟨_, rfl⟩
      clear pb la oa
      have p' := p.keep (Below.refl _ _).drew
      have row1 := p.row
      have l1 := p.ddc.l
      have o1 := p.ddc.o
      go_wp2_with fail
      refine region_seqS (fun w' => Blk w' G 37 cs1 ∧ Blk w' (G + 1) 46 SC) (by kernel_rfl) ⟨p'.x, p'.s⟩ ?_
      have iv := And.intro p'.x p'.s
      simp only [pairs, Nat.reduceAdd]
      repeat ((first
        | (refine SeqS.y0 (v := .agg (cs1).toArray) (yields_blk (by rfl) 37 (.tmp 3) rfl rfl (fun w' h => h.1) (row1)) ?_)
        | (refine SeqS.y0 (v := .agg (SC).toArray) (yields_blk (by rfl) 46 (.tmp 4) rfl rfl (fun w' h => h.2) (rowS)) ?_)
        | (refine SeqS.k0 (v := ?_) ?_ ?_; rotate_left; focus (intro w' hb'; go_simp; with_reducible rfl))
        | (refine SeqS.u0 ?_)); simp only [Act.put, List.setIfInBounds_toArray, List.set_cons_zero, List.set_cons_succ])
      refine SeqS.alone (by decide +kernel) (by rfl) (fun K1 hK => ?_)
      refine wp_store_part 37 (.tmp 6) _ rfl rfl rfl p'.y row1 (by rw [l1, hzl]; decide) o1 (fun wa ba ga => ?_)
      rw [overV_all _ _ (by rw [l1, hzl])] at ba
      have pa := p'.sety ba ga
      refine hK _ _ ⟨pa.x, pa.s⟩ ?_
      clear hK K1
      have iv1 := And.intro pa.x pa.s
      repeat ((first
        | (refine SeqS.y0 (v := .agg (SC).toArray) (yields_blk (by rfl) 46 (.tmp 4) rfl rfl (fun w' h => h.2) (rowS)) ?_)
        | (refine SeqS.k0 (v := ?_) ?_ ?_; rotate_left; focus (intro w' hb'; go_simp; with_reducible rfl))
        | (refine SeqS.u0 ?_)); simp only [Act.put, List.setIfInBounds_toArray, List.set_cons_zero, List.set_cons_succ])
      refine SeqS.alone (by decide +kernel) (by rfl) (fun K2 hK => ?_)
      refine wp_store_part 46 (.tmp 7) _ rfl rfl rfl pa.z rowS (by rw [lS, hzs]; decide) oS (fun wb bb gb => ?_)
      rw [overV_all _ _ (by rw [lS, hzs])] at bb
      have pb := pa.setz bb gb
      refine hK _ _ ⟨pb.x, pb.s⟩ ?_
      clear hK K2
      have iv2 := And.intro pb.x pb.s
      repeat ((first
        | (refine SeqS.k0 (v := ?_) ?_ ?_; rotate_left; focus (intro w' hb'; go_simp; with_reducible rfl))
        | (refine SeqS.u0 ?_)); simp only [Act.put, List.setIfInBounds_toArray, List.set_cons_zero, List.set_cons_succ])
      refine SeqS.done (by decide +kernel) ?_
      have fin := pb.done
      have yb := pb.y
      have zb := pb.z
      have sl := SLH.out wb fin.2
      clear iv iv1 iv2 p p' pa ba ga bb gb pb o1 l1
      go_wp2
      refine bodyPost_ret (results_bbt21 rfl rfl yb row1 rfl zb rowS) rfl ?_
      exact ⟨cs1, SC, rfl, fin.1, sl, fin.2⟩
set_option maxRecDepth 100000 in
set_option maxHeartbeats 4000000 in
theorem r21Put_2 {R : Nat → Prop} {w : World} {cs sc : List Value} {D : DkV} {T : Nat} {Q : Nat → Prop} {s : SlV} {a : Option Addr} {n c : Nat} {xs : List Int} (h2 : RDisk R w cs D) (hRl : ∀ b, R b → b < w.heap.size) (hs : SlAt w Q sc s) (hO : D.Ok T) (hT : T ≤ 3518437208880) (hD : D.By) (hok : s.Ok) (ha : s.a = 1) (hb : s.b = 2) (hto : s.to = 2)
    (hI : Ints .u8 w a n c xs) (hx : ∀ y ∈ xs, isByte y) (hn : n ≤ 140737488355328) {D' : DkV} {s' : SlV} {e : Int} (he : ptS D s xs = (D', s', e)) :
    Calls Tryz.prog 32 #[.agg cs.toArray, .agg sc.toArray, .slice a n c] w fun q w' => ∃ cs' sc', q = .returned (.tuple #[.agg cs'.toArray, .agg sc'.toArray, .int .i64 e]) ∧ RDisk (fun b => R b ∨ w.heap.size ≤ b) w' cs' D' ∧ SlAt w' (fun b => Q b ∨ w.heap.size ≤ b) sc' s' ∧ Below w.heap.size w w' := by
  have hl := h2.ddc.l
  obtain ⟨lS, oS⟩ := hs.len
  have rowS : IsRow Tryz.prog 46 sc.length := by rw [lS]; exact rowSl
  have hxl := hI.len
  have hnow : s.now = 1 := by
    unfold SlV.to at hto
    rw [ha, hb] at hto
    by_cases hh : s.now = 1
    · first
        | exact hh
        | (rw [if_pos hh] at hto; omega)
    · first
        | exact hh
        | (rw [if_neg hh] at hto; omega)
  obtain ⟨aa, nn, cc, hsc, hIb, hnb⟩ := hs
  have z0 : sc[0]? = some (.int .i64 1) := by rw [hsc, ← ha]; rfl
  have z1 : sc[1]? = some (.int .i64 2) := by rw [hsc, ← hb]; rfl
  have z2 : sc[2]? = some (.int .i64 s.now) := by rw [hsc]; rfl
  have z3 : sc[3]? = some (.int .u64 s.turn) := by rw [hsc]; rfl
  have htb := hok.t
  have SL0 : SlAt w (fun b => Q b ∨ w.heap.size ≤ b) sc s := ⟨aa, nn, cc, hsc, hIb, fun y hy h0 => .inl (hnb y hy h0)⟩
  have SLH := Lib.hid (fun w' (q : Below w.heap.size w w') => SL0.keep q)
  obtain ⟨NW, hNW⟩ : ∃ x, s.now = x := ⟨_, rfl⟩
  obtain ⟨TU, hTU⟩ : ∃ x, s.turn = x := ⟨_, rfl⟩
  rw [hNW] at z2 hnow
  rw [hTU] at z3 htb
  obtain ⟨ys, hys⟩ : ∃ zs, ddZ = zs := ⟨_, rfl⟩
  have hzD := zeroDd
  have hzl := ddZ_len
  rw [hys] at hzD hzl
  obtain ⟨zs, hzz⟩ : ∃ zs, slZ = zs := ⟨_, rfl⟩
  have hzS := zeroSl
  have hzs : slZ.length = 5 := rfl
  rw [hzz] at hzS hzs
  have p0 := Pd.start (ss := sc) ys zs h2 hRl
  obtain ⟨W, hW⟩ : ∃ W, ((((w.alloc (.cells cs.toArray 37)).alloc (.cells sc.toArray 46)).alloc (.cells ys.toArray 37)).alloc (.cells zs.toArray 46)) = W := ⟨_, rfl⟩
  obtain ⟨G, hG⟩ : ∃ G, w.heap.size = G := ⟨_, rfl⟩
  rw [hW, hG] at p0
  obtain ⟨SC, hSC⟩ : ∃ C, sc = C := ⟨_, rfl⟩
  rw [hSC] at lS oS rowS z0 z1 z2 z3 p0 SLH hsc
  rw [hSC] at hW
  rw [hSC]
  have c0 := (p0.s.cell 0).trans z0
  have c1 := (p0.s.cell 1).trans z1
  have c2 := (p0.s.cell 2).trans z2
  have c3 := (p0.s.cell 3).trans z3
  have hWH := Lib.hid hW
  have hGH := Lib.hid hG
  have heH := Lib.hid he
  have okH := Lib.hid hO
  have IH := Lib.hid hI
  have xH := Lib.hid hx
  have byH := Lib.hid hD
  have hTH := Lib.hid hT
  have scH := Lib.hid hsc
  have TUH := Lib.hid hTU
  have toH := Lib.hid hto
  have haH := Lib.hid ha
  have hbH := Lib.hid hb
  clear h2 hRl SL0 hys hzz hSC hIb hnb hW hG he hO hI hx hD hT hok ha hb hsc hNW hTU hto
  go_enter Tryz.func32, Tryz.ntmps32
  go_wp2_with (first
    | ((with_reducible refine box_row rfl 37 (.tmp 0) rfl cs rfl ?_))
    | ((with_reducible refine box_row rfl 46 (.tmp 1) rfl SC rfl ?_))
    | (with_reducible refine wpList_alloc_blk rfl 37 rfl hzD ?_)
    | (with_reducible refine wpList_alloc_blk rfl 46 rfl hzS ?_; refine RowKit.Hid.out ?_))
  refine Lib.hid ?_
  rw [hWH.out]
  simp only [hGH.out, Nat.add_assoc, Nat.reduceAdd]
  by_cases hg1 : 65528 < n
  · have g1 : (65528 : Int) < (n : Int) := by omega
    have hR := heH.out
    unfold ptS at hR
    rw [if_pos (.inl (by omega))] at hR
    injection hR with hR1 hR2
    injection hR2 with hR2 hR3
    subst hR1; subst hR2; subst hR3
    have p := p0
    obtain ⟨cs1, rfl⟩ : ∃ x, x = cs := ⟨_, rfl⟩
    clear p0 c0 c1 c2 c3
    have p' := p.keep (Below.refl _ _).drew
    have row1 := p.row
    have l1 := p.ddc.l
    have o1 := p.ddc.o
    go_wp2_with fail
    refine region_seqS (fun w' => Blk w' G 37 cs1 ∧ Blk w' (G + 1) 46 SC) (by kernel_rfl) ⟨p'.x, p'.s⟩ ?_
    have iv := And.intro p'.x p'.s
    simp only [pairs, Nat.reduceAdd]
    repeat ((first
      | (refine SeqS.y0 (v := .agg (cs1).toArray) (yields_blk (by rfl) 37 (.tmp 3) rfl rfl (fun w' h => h.1) (row1)) ?_)
      | (refine SeqS.y0 (v := .agg (SC).toArray) (yields_blk (by rfl) 46 (.tmp 4) rfl rfl (fun w' h => h.2) (rowS)) ?_)
      | (refine SeqS.k0 (v := ?_) ?_ ?_; rotate_left; focus (intro w' hb'; go_simp; with_reducible rfl))
      | (refine SeqS.u0 ?_)); simp only [Act.put, List.setIfInBounds_toArray, List.set_cons_zero, List.set_cons_succ])
    refine SeqS.alone (by decide +kernel) (by rfl) (fun K1 hK => ?_)
    refine wp_store_part 37 (.tmp 6) _ rfl rfl rfl p'.y row1 (by rw [l1, hzl]; decide) o1 (fun wa ba ga => ?_)
    rw [overV_all _ _ (by rw [l1, hzl])] at ba
    have pa := p'.sety ba ga
    refine hK _ _ ⟨pa.x, pa.s⟩ ?_
    clear hK K1
    have iv1 := And.intro pa.x pa.s
    repeat ((first
      | (refine SeqS.y0 (v := .agg (SC).toArray) (yields_blk (by rfl) 46 (.tmp 4) rfl rfl (fun w' h => h.2) (rowS)) ?_)
      | (refine SeqS.k0 (v := ?_) ?_ ?_; rotate_left; focus (intro w' hb'; go_simp; with_reducible rfl))
      | (refine SeqS.u0 ?_)); simp only [Act.put, List.setIfInBounds_toArray, List.set_cons_zero, List.set_cons_succ])
    refine SeqS.alone (by decide +kernel) (by rfl) (fun K2 hK => ?_)
    refine wp_store_part 46 (.tmp 7) _ rfl rfl rfl pa.z rowS (by rw [lS, hzs]; decide) oS (fun wb bb gb => ?_)
    rw [overV_all _ _ (by rw [lS, hzs])] at bb
    have pb := pa.setz bb gb
    refine hK _ _ ⟨pb.x, pb.s⟩ ?_
    clear hK K2
    have iv2 := And.intro pb.x pb.s
    repeat ((first
      | (refine SeqS.k0 (v := ?_) ?_ ?_; rotate_left; focus (intro w' hb'; go_simp; with_reducible rfl))
      | (refine SeqS.u0 ?_)); simp only [Act.put, List.setIfInBounds_toArray, List.set_cons_zero, List.set_cons_succ])
    refine SeqS.done (by decide +kernel) ?_
    have fin := pb.done
    have yb := pb.y
    have zb := pb.z
    have sl := SLH.out wb fin.2
    clear iv iv1 iv2 p p' pa ba ga bb gb pb o1 l1
    go_wp2
    refine bodyPost_ret (results_bbt21 rfl rfl yb row1 rfl zb rowS) rfl ?_
    exact ⟨cs1, SC, rfl, fin.1, sl, fin.2⟩
  have g1 : ¬ (65528 : Int) < (n : Int) := by omega
  by_cases hg2 : TU + 1 = 18446744073709551616
  · have t1 : IntKind.u64.wrap (TU + 1) = 0 := by rw [hg2]; rfl
    have t2 : (TU + 1) % 18446744073709551616 = 0 := by rw [hg2]; rfl
    have hR := heH.out
    unfold ptS at hR
    rw [if_pos (.inr (by rw [TUH.out]; exact hg2))] at hR
    injection hR with hR1 hR2
    injection hR2 with hR2 hR3
    subst hR1; subst hR2; subst hR3
    have p := p0
    obtain ⟨cs1, rfl⟩ : ∃ x, x = cs := ⟨_, rfl⟩
    clear p0 c0 c1 c2 hg1 hg2 htb
    have p' := p.keep (Below.refl _ _).drew
    have row1 := p.row
    have l1 := p.ddc.l
    have o1 := p.ddc.o
    go_wp2_with fail
    refine region_seqS (fun w' => Blk w' G 37 cs1 ∧ Blk w' (G + 1) 46 SC) (by kernel_rfl) ⟨p'.x, p'.s⟩ ?_
    have iv := And.intro p'.x p'.s
    simp only [pairs, Nat.reduceAdd]
    repeat ((first
      | (refine SeqS.y0 (v := .agg (cs1).toArray) (yields_blk (by rfl) 37 (.tmp 3) rfl rfl (fun w' h => h.1) (row1)) ?_)
      | (refine SeqS.y0 (v := .agg (SC).toArray) (yields_blk (by rfl) 46 (.tmp 4) rfl rfl (fun w' h => h.2) (rowS)) ?_)
      | (refine SeqS.k0 (v := ?_) ?_ ?_; rotate_left; focus (intro w' hb'; go_simp; with_reducible rfl))
      | (refine SeqS.u0 ?_)); simp only [Act.put, List.setIfInBounds_toArray, List.set_cons_zero, List.set_cons_succ])
    refine SeqS.alone (by decide +kernel) (by rfl) (fun K1 hK => ?_)
    refine wp_store_part 37 (.tmp 6) _ rfl rfl rfl p'.y row1 (by rw [l1, hzl]; decide) o1 (fun wa ba ga => ?_)
    rw [overV_all _ _ (by rw [l1, hzl])] at ba
    have pa := p'.sety ba ga
    refine hK _ _ ⟨pa.x, pa.s⟩ ?_
    clear hK K1
    have iv1 := And.intro pa.x pa.s
    repeat ((first
      | (refine SeqS.y0 (v := .agg (SC).toArray) (yields_blk (by rfl) 46 (.tmp 4) rfl rfl (fun w' h => h.2) (rowS)) ?_)
      | (refine SeqS.k0 (v := ?_) ?_ ?_; rotate_left; focus (intro w' hb'; go_simp; with_reducible rfl))
      | (refine SeqS.u0 ?_)); simp only [Act.put, List.setIfInBounds_toArray, List.set_cons_zero, List.set_cons_succ])
    refine SeqS.alone (by decide +kernel) (by rfl) (fun K2 hK => ?_)
    refine wp_store_part 46 (.tmp 7) _ rfl rfl rfl pa.z rowS (by rw [lS, hzs]; decide) oS (fun wb bb gb => ?_)
    rw [overV_all _ _ (by rw [lS, hzs])] at bb
    have pb := pa.setz bb gb
    refine hK _ _ ⟨pb.x, pb.s⟩ ?_
    clear hK K2
    have iv2 := And.intro pb.x pb.s
    repeat ((first
      | (refine SeqS.k0 (v := ?_) ?_ ?_; rotate_left; focus (intro w' hb'; go_simp; with_reducible rfl))
      | (refine SeqS.u0 ?_)); simp only [Act.put, List.setIfInBounds_toArray, List.set_cons_zero, List.set_cons_succ])
    refine SeqS.done (by decide +kernel) ?_
    have fin := pb.done
    have yb := pb.y
    have zb := pb.z
    have sl := SLH.out wb fin.2
    clear iv iv1 iv2 p p' pa ba ga bb gb pb o1 l1
    go_wp2
    refine bodyPost_ret (results_bbt21 rfl rfl yb row1 rfl zb rowS) rfl ?_
    exact ⟨cs1, SC, rfl, fin.1, sl, fin.2⟩
  obtain ⟨t1, t2⟩ := u64_id (x := TU + 1) (by omega)
  have t0 : ¬ TU + 1 = 0 := by omega
  have hR := heH.out
  unfold ptS at hR
  rw [if_neg (by rw [TUH.out]; omega), toH.out] at hR
  have nxl := next_len s xs
  have hfo := (okH.out.f 2).fok (Nat.le_trans hTH.out (by decide))
  have hle := held_len21 okH.out 2
  obtain ⟨cF, RF, fr, cl, hf⟩ := p0.file 2 (by decide)
  have fr : W.rangeAt G 4 cF := fr
  have crow : IsRow Tryz.prog 34 cF.length := by rw [cl]; exact rowRf
  obtain ⟨X, hX⟩ : ∃ X, heldR D 2 = X := ⟨_, rfl⟩
  obtain ⟨N, hN⟩ : ∃ N, X.length = N := ⟨_, rfl⟩
  obtain ⟨U, hU⟩ : ∃ U, (D.f 2).units = U := ⟨_, rfl⟩
  rw [hX, hN] at hle
  have cH := z_holds hf hfo hX hN
  have cU := Lib.hid (fun W' (q : Below W.heap.size W W') => z_units (hf.keep q) hfo hU)
  have frH := Lib.hid (fun W' (q : Below W.heap.size W W') => range_keep21 fr q)
  have pk := Lib.hid (fun W' (q : Below W.heap.size W W') => p0.keep q)
  have hnn : ((N : Nat) : Int) ≤ 65536 := by omega
  have clD : clS D 2 = if 0 < N ∨ 0 < U then keD D 2 0 else (D, 0) := by unfold clS; rw [hX, hN, show (2 : Int).toNat = 2 from rfl, hU]
  obtain ⟨D1, e1, h1⟩ : ∃ D1 e1, clS D 2 = (D1, e1) := ⟨_, _, rfl⟩
  rw [h1] at hR clD
  dsimp only at hR
  have ok1 := clS_ok okH.out 2
  rw [h1] at ok1
  have nb := next_by s xH.out
  have Be : beL (TU + 1) 8 ++ xs = s.next xs := by unfold SlV.next; rw [TUH.out]
  obtain ⟨B', hB'⟩ : ∃ x, s.next xs = x := ⟨_, rfl⟩
  rw [hB'] at nxl nb Be hR
  rw [hxl] at nxl
  have Bf := frB_len B'
  obtain ⟨D2, e2, A2⟩ : ∃ D2 e2, apD D1 2 (frB B') = (D2, e2) := ⟨_, _, rfl⟩
  obtain ⟨D3, e3, A3⟩ : ∃ D3 e3, syD D2 2 = (D3, e3) := ⟨_, _, rfl⟩
  have hP : prD D1 2 B' = if e2 = 0 then (D3, e3) else (D2, e2) := by
    unfold prD
    rw [if_neg (by omega), A2]
    dsimp only
    rw [A3]
  rw [hP] at hR
  have ok2 := apD_ok ok1 2 (frB B')
  rw [A2] at ok2
  have BeH := Lib.hid Be
  have BbH := Lib.hid nb
  have BfH := Lib.hid (Bf.trans (congrArg (8 + ·) nxl))
  have A2H := Lib.hid A2
  have A3H := Lib.hid A3
  have ok2H := Lib.hid ok2
  have hnH := Lib.hid hn
  clear hP nb Be Bf A2 A3 ok2 hB'
  have RH := Lib.hid hR
  have clH := Lib.hid clD
  have ok1H := Lib.hid ok1
  have nxH := Lib.hid nxl
  have hg1H := Lib.hid hg1
  have hg2H := Lib.hid hg2
  have htbH := Lib.hid htb
  have xlH := Lib.hid hxl
  have s3H := Lib.hid z3
  have s2H := Lib.hid z2
  clear hR hfo hle hX hN hU hf cl h1 ok1 clD nxl hg1 hg2 htb hxl
  go_wp2_with ((with_reducible refine wpList_load_part rfl 34 (.tmp 33) rfl ?_ cF fr crow ?_); rfl)
  refine cH.mono ?_
  rintro q W1 ⟨a1, c1', rfl, _, q1⟩
  by_cases hN0 : N = 0
  · have g3 : ¬ (0 : Int) < (N : Int) := by omega
    have cU1 := cU.out W1 q1
    have fr1 := frH.out W1 q1
    have pk1 := pk.out W1 q1
    clear cH cU frH pk q1
    go_wp2_with ((with_reducible refine load_pif rfl 34 (.tmp 41) rfl ?_ cF fr1 crow ?_); rfl)
    refine cU1.mono ?_
    rintro q W2 ⟨rfl, q2⟩
    by_cases hU0 : U = 0
    · have g4 : ¬ (0 : Int) < (U : Int) := by omega
      have p1 := pk1.keep q2
      obtain ⟨cs1, rfl⟩ : ∃ x, x = cs := ⟨_, rfl⟩
      have hcl := clH.out
      rw [if_neg (by omega)] at hcl
      injection hcl with hc1 hc2
      subst hc1; subst hc2
      have hR := RH.out
      rw [if_neg (by decide)] at hR
      have RH := Lib.hid hR
      clear hR cU1 pk1 q2 fr1
      obtain ⟨W1, rfl⟩ : ∃ x, x = W2 := ⟨_, rfl⟩
      have p1' := p1.keep (Below.refl _ _).drew
      obtain ⟨V, hV⟩ : ∃ V, W1.drew = V := ⟨_, rfl⟩
      rw [hV] at p1'
      have pV := Lib.hid (fun W' (q : Below V.heap.size V W') => p1'.keep q)
      have s3V := s3H.out
      have IV := IH.out.keep p1'.b
      have row1 := p1'.row
      have l1 := p1'.ddc.l
      have iv := And.intro p1'.x p1'.s
      have hnn := hnH.out
      obtain ⟨i0, hi, hz0, hz1, hz2⟩ := info_u8l21
      clear p1 p1'
      go_wp2_with fail
      refine region_seqT 13 (fun w' => Blk w' G 37 cs1 ∧ Blk w' (G + 1) 46 SC) (by kernel_rfl) ?_
      simp only [pairs, Nat.reduceAdd]
      rw [hV]
      repeat ((first
        | (refine SeqT.take (v := .agg (cs1).toArray) (by first | assumption | trivial) (by kernel_rfl) (by decide +kernel) (by decide +kernel) (yields_blk (by rfl) 37 (.tmp 3) rfl rfl (fun w' h => h.1) (row1)) ?_)
        | (refine SeqT.take (v := ?_) (by first | assumption | trivial) (by kernel_rfl) (by decide +kernel) (by decide +kernel) (Or.inl ⟨by rfl, ?_⟩) ?_; rotate_left; focus (intro w' hb'; go_simp; with_reducible rfl))
        | (refine SeqT.take (v := ?_) (by first | assumption | trivial) (by kernel_rfl) (by decide +kernel) (by decide +kernel) (Or.inl ⟨by rfl, ?_⟩) ?_; rotate_left; focus (intro w' hb'; have d0 := (hb'.2.cell 3).trans s3V; go_simp; with_reducible rfl))
        | (refine SeqT.take (v := undef) (by first | assumption | trivial) (by kernel_rfl) (by decide +kernel) (by decide +kernel) (Or.inr ⟨by rfl, rfl⟩) ?_)
        | (refine SeqT.take1 (v := .agg (cs1).toArray) (by first | assumption | trivial) (by kernel_rfl) (by decide +kernel) (by decide +kernel) (yields_blk (by rfl) 37 (.tmp 3) rfl rfl (fun w' h => h.1) (row1)) ?_)
        | (refine SeqT.take1 (v := ?_) (by first | assumption | trivial) (by kernel_rfl) (by decide +kernel) (by decide +kernel) (Or.inl ⟨by rfl, ?_⟩) ?_; rotate_left; focus (intro w' hb'; go_simp; with_reducible rfl))
        | (refine SeqT.take1 (v := ?_) (by first | assumption | trivial) (by kernel_rfl) (by decide +kernel) (by decide +kernel) (Or.inl ⟨by rfl, ?_⟩) ?_; rotate_left; focus (intro w' hb'; have d0 := (hb'.2.cell 3).trans s3V; go_simp; with_reducible rfl))
        | (refine SeqT.take1 (v := undef) (by first | assumption | trivial) (by kernel_rfl) (by decide +kernel) (by decide +kernel) (Or.inr ⟨by rfl, rfl⟩) ?_)); simp only [Act.put, List.setIfInBounds_toArray, List.set_cons_zero, List.set_cons_succ])
      refine SeqT.alone (by decide +kernel) (by rfl) (by decide) (fun K1 hK => ?_)
      go_simp
      go_at_call 62
      refine (rNumber_any (TU + 1) 8 V (by decide)).mono ?_
      rintro q w1 ⟨b1, d1, rfl, own1, S1⟩
      go_simp
      have iv1 := And.intro (pV.out w1 S1).x (pV.out w1 S1).s
      refine hK _ _ iv1 ?_
      clear hK K1
      (try simp only [Act.put, List.setIfInBounds_toArray, List.set_cons_zero, List.set_cons_succ])
      repeat ((first
        | (refine SeqT.take (v := ?_) (by first | assumption | trivial) (by kernel_rfl) (by decide +kernel) (by decide +kernel) (Or.inl ⟨by rfl, ?_⟩) ?_; rotate_left; focus (intro w' hb'; go_simp; with_reducible rfl))
        | (refine SeqT.take (v := undef) (by first | assumption | trivial) (by kernel_rfl) (by decide +kernel) (by decide +kernel) (Or.inr ⟨by rfl, rfl⟩) ?_)); simp only [Act.put, List.setIfInBounds_toArray, List.set_cons_zero, List.set_cons_succ])
      refine SeqT.alone (by decide +kernel) (by rfl) (by decide) (fun K1 hK => ?_)
      refine wp_append_ints (.tmp 74) (.tmp 75) 22 rfl V.heap.size 5 i0 (.int .u8 0) 1 Tryz.underlying22 hi hz0 hz1 hz2 rfl rfl own1 rfl (IV.keep S1) ?_ ?_ S1.size ?_
      · unfold maxLen; omega
      · omega
      intro v2 w2 own2 g2
      have S2 : Below V.heap.size V w2 := S1.grown g2 S1.size (fun q hq => (own1.lt q hq).1)
      have iv2 := And.intro (pV.out w2 S2).x (pV.out w2 S2).s
      refine hK _ _ iv2 ?_
      clear hK K1 g2 own1 iv1
      rw [← List.map_append, BeH.out] at own2
      obtain ⟨b2, d2, hv2⟩ := own_slice32 own2
      subst hv2
      have I2 := own_ints' own2
      (try simp only [Act.put, List.setIfInBounds_toArray, List.set_cons_zero, List.set_cons_succ])
      refine SeqT.alone (by decide +kernel) (by rfl) (by decide) (fun K1 hK => ?_)
      go_simp
      go_at_call 61
      refine (r19Bytes_any b2 (8 + n) d2 B' w2 I2 BbH.out (by omega)).mono ?_
      rintro q w3 ⟨b3, d3, rfl, own3, q3⟩
      go_simp
      have S3 := S2.trans (q3.mono S2.size)
      have iv3 := And.intro (pV.out w3 S3).x (pV.out w3 S3).s
      refine hK _ _ iv3 ?_
      clear hK K1 I2 own2 iv2 q3
      have cA := (pV.out w3 S3).append ok1H.out (by have := hTH.out; omega) 2 (own_ints' own3) (by rw [BfH.out]; omega) A2H.out
      (try simp only [Act.put, List.setIfInBounds_toArray, List.set_cons_zero, List.set_cons_succ])
      refine SeqT.alone (by decide +kernel) (by rfl) (by decide) (fun K1 hK => ?_)
      go_simp
      go_at_call 8
      refine cA.mono ?_
      rintro q w4 ⟨cs2, rfl, p4⟩
      go_simp
      have iv4 := And.intro p4.x p4.s
      refine hK _ _ iv4 ?_
      clear hK K1 own3 iv3 cA
      have row2 := p4.row
      have l2 := p4.ddc.l
      have o2 := p4.ddc.o
      (try simp only [Act.put, List.setIfInBounds_toArray, List.set_cons_zero, List.set_cons_succ])
      repeat ((first
        | (refine SeqT.take (v := ?_) (by first | assumption | trivial) (by kernel_rfl) (by decide +kernel) (by decide +kernel) (Or.inl ⟨by rfl, ?_⟩) ?_; rotate_left; focus (intro w' hb'; go_simp; with_reducible rfl))
        | (refine SeqT.take (v := undef) (by first | assumption | trivial) (by kernel_rfl) (by decide +kernel) (by decide +kernel) (Or.inr ⟨by rfl, rfl⟩) ?_)); simp only [Act.put, List.setIfInBounds_toArray, List.set_cons_zero, List.set_cons_succ])
      repeat ((first
        | (refine SeqT.free (v := ?_) (by first | assumption | trivial) (by kernel_rfl) (by decide +kernel) (by decide +kernel) (Or.inl ⟨by rfl, ?_⟩) ?_; rotate_left; focus (intro w' hb'; go_simp; with_reducible rfl))
        | (refine SeqT.free (v := undef) (by first | assumption | trivial) (by kernel_rfl) (by decide +kernel) (by decide +kernel) (Or.inr ⟨by rfl, rfl⟩) ?_)); simp only [Act.put, List.setIfInBounds_toArray, List.set_cons_zero, List.set_cons_succ])
      refine SeqT.last (by decide +kernel) (by rfl) (fun K1 hK => ?_)
      refine wp_store_part 37 (.tmp 3) _ rfl rfl rfl p4.x row2 (by rw [l2, l1]; decide) o2 (fun w5 b5 g5 => ?_)
      rw [overV_all _ _ (by rw [l2, l1])] at b5
      have p5 := p4.setx b5 g5
      refine hK _ _ ?_
      clear hK K1 iv4 p4 b5 g5
      (try simp only [Act.put])
      repeat ((first
        | (refine SeqS.k0 (v := ?_) ?_ ?_; rotate_left; focus (intro w' hb'; go_simp; with_reducible rfl))
        | (refine SeqS.u0 ?_)); simp only [Act.put, List.setIfInBounds_toArray, List.set_cons_zero, List.set_cons_succ])
      refine SeqS.done (by decide +kernel) ?_
      clear pV iv IV S1 S2 S3
      have hR := RH.out
      by_cases he2 : e2 = 0
      · rw [if_pos he2] at hR
        subst he2
        dsimp only at hR
        have cS := p5.sync ok2H.out (by have := hTH.out; omega) 2 A3H.out
        have x5 := p5.x
        clear p5
        go_wp2_with ((with_reducible refine wpList_load_blk rfl 37 (.tmp 3) rfl ?_ x5 rowDd l2 ?_); rfl)
        refine cS.mono ?_
        rintro q w6 ⟨cs3, rfl, p6⟩
        have l3 := p6.ddc.l
        have o3 := p6.ddc.o
        clear cS x5
        go_wp2_with ((with_reducible refine store_row rfl 37 (.tmp 3) _ rfl ?_ ?_ p6.x rowDd l3 l2 o3 ?_); rfl; rfl; intro w7 bx gx; refine RowKit.Hid.out ?_)
        refine Lib.hid ?_
        have p7 := p6.setx bx gx
        clear p6 bx gx
        by_cases he3 : e3 = 0
        · rw [if_neg (by omega)] at hR
          injection hR with hR1 hR2
          injection hR2 with hR2 hR3
          subst hR1; subst hR2; subst hR3; subst he3
          have k2 := (p7.s.cell 2).trans s2H.out
          have k3 := (p7.s.cell 3).trans s3H.out
          have f2 := p7.s.frozen 2
          have f3 := p7.s.frozen 3
          have k4 : w7.cell? ⟨G + 1, 4, none⟩ = some (.slice aa nn cc) := (p7.s.cell 4).trans (by rw [scH.out]; rfl)
          have f4 := p7.s.frozen 4
          have hz7 := p7.z.lt
          have p8 := p7.sets (p7.s.set 2 (.int .i64 2)) (grown_setCell _ _ _ _)
          have p9 := p8.sets (p8.s.set 3 (.int .u64 (TU + 1))) (grown_setCell _ _ _ _)
          obtain ⟨U2, hU2⟩ : ∃ U, (w7.setCell ⟨G + 1, 2, none⟩ (.int .i64 2)).setCell ⟨G + 1, 3, none⟩ (.int .u64 (TU + 1)) = U := ⟨_, rfl⟩
          have sz : U2.heap.size = w7.heap.size := by rw [← hU2]; simp
          rw [hU2] at p9
          have UH := Lib.hid hU2
          have szH := Lib.hid sz
          have q3 : Below U2.heap.size U2 (U2.alloc (.cells #[] 5)) := below1 _ _
          have own0 : (U2.alloc (.cells #[] 5)).ownsRow U2.heap.size 5 1 (.slice (some ⟨U2.heap.size, 0, none⟩) 0 0) 0 [] := World.ownsRow_made U2 #[] 0 (Nat.le_refl _) (Nat.zero_le _) rfl
          have I9 := (IH.out.keep p9.b).keep q3
          have q3s := q3.size
          rw [sz] at own0 q3s
          clear hU2 sz p7 p8 row1 l1 row2 l2 o2 l3 o3 k4 f4
          go_wp2_with (at_builtin; rw [UH.out]; refine wpList_append_ints rfl (.tmp 103) (.tmp 104) 22 rfl w7.heap.size 5 i0 (.int .u8 0) 1 Tryz.underlying22 hi hz0 hz1 hz2 rfl rfl own0 rfl I9 ?_ ?_ q3s ?_; (have := hnH.out; unfold maxLen; omega); (have := hnH.out; omega); intro v10 w10 own10 g10; refine RowKit.Hid.out ?_)
          refine Lib.hid ?_
          rw [List.nil_append, Nat.zero_add] at own10
          have q10 : Below U2.heap.size U2 w10 := q3.grown g10 q3.size (fun k hk => by injection hk with hk; rw [← hk, szH.out]; exact Nat.le_refl _)
          have p10 := p9.keep q10
          obtain ⟨b10, d10, hv10⟩ := own_slice32 own10
          subst hv10
          have hlo : ∀ y, b10 = some y → w7.heap.size ≤ y.block := fun y hy => (own10.lt y.block (by rw [hy]; rfl)).1
          have I10 := own_ints' own10
          have k4 : w10.cell? ⟨G + 1, 4, none⟩ = some (.slice aa nn cc) := (p10.s.cell 4).trans (by rw [scH.out]; rfl)
          have f4 := p10.s.frozen 4
          have p := p10.sets (p10.s.set 4 (.slice b10 n d10)) (grown_setCell _ _ _ _)
          have I11 : Ints .u8 (w10.setCell ⟨G + 1, 4, none⟩ (.slice b10 n d10)) b10 n d10 xs := ints_from (B := G + 4) I10 (fun y hy _ => by have := hlo y hy; omega) (fun b h1 h2 => (grown_setCell w10 (G + 1) 4 (.slice b10 n d10)).block b h2 (fun e => by injection e with e; omega))
          obtain ⟨SN, hSN⟩ : ∃ C, ((SC.set 2 (.int .i64 2)).set 3 (.int .u64 (TU + 1))).set 4 (.slice b10 n d10) = C := ⟨_, rfl⟩
          rw [hSN] at p
          have hS2 : SN = slC ⟨s.a, s.b, 2, s.turn + 1, xs⟩ b10 n d10 := by rw [← hSN, scH.out, ← TUH.out]; rfl
          have lS : SN.length = 5 := by rw [hS2]; rfl
          have oS : ∀ v ∈ SN, v.oneCell' = true := by rw [hS2]; exact slC_one _ _ _ _
          have rowS : IsRow Tryz.prog 46 SN.length := by rw [lS]; exact rowSl
          have hBG : w.heap.size ≤ G := by rw [hGH.out]; exact Nat.le_refl _
          clear q3 q3s own0 I9 own10 g10 q10 p9 p10 I10 hSN k2 k3 f2 f3
          obtain ⟨cs1, rfl⟩ : ∃ x, x = cs3 := ⟨_, rfl⟩
          obtain ⟨SC, rfl⟩ : ∃ x, x = SN := ⟨_, rfl⟩
          have p' := p.keep (Below.refl _ _).drew
          have row1 := p.row
          have l1 := p.ddc.l
          have o1 := p.ddc.o
          go_wp2_with fail
          refine region_seqS (fun w' => Blk w' G 37 cs1 ∧ Blk w' (G + 1) 46 SC) (by kernel_rfl) ⟨p'.x, p'.s⟩ ?_
          have iv := And.intro p'.x p'.s
          simp only [pairs, Nat.reduceAdd]
          repeat ((first
            | (refine SeqS.y0 (v := .agg (cs1).toArray) (yields_blk (by rfl) 37 (.tmp 3) rfl rfl (fun w' h => h.1) (row1)) ?_)
            | (refine SeqS.y0 (v := .agg (SC).toArray) (yields_blk (by rfl) 46 (.tmp 4) rfl rfl (fun w' h => h.2) (rowS)) ?_)
            | (refine SeqS.k0 (v := ?_) ?_ ?_; rotate_left; focus (intro w' hb'; go_simp; with_reducible rfl))
            | (refine SeqS.u0 ?_)); simp only [Act.put, List.setIfInBounds_toArray, List.set_cons_zero, List.set_cons_succ])
          refine SeqS.alone (by decide +kernel) (by rfl) (fun K1 hK => ?_)
          refine wp_store_part 37 (.tmp 6) _ rfl rfl rfl p'.y row1 (by rw [l1, hzl]; decide) o1 (fun wa ba ga => ?_)
          rw [overV_all _ _ (by rw [l1, hzl])] at ba
          have pa := p'.sety ba ga
          refine hK _ _ ⟨pa.x, pa.s⟩ ?_
          clear hK K1
          have iv1 := And.intro pa.x pa.s
          repeat ((first
            | (refine SeqS.y0 (v := .agg (SC).toArray) (yields_blk (by rfl) 46 (.tmp 4) rfl rfl (fun w' h => h.2) (rowS)) ?_)
            | (refine SeqS.k0 (v := ?_) ?_ ?_; rotate_left; focus (intro w' hb'; go_simp; with_reducible rfl))
            | (refine SeqS.u0 ?_)); simp only [Act.put, List.setIfInBounds_toArray, List.set_cons_zero, List.set_cons_succ])
          refine SeqS.alone (by decide +kernel) (by rfl) (fun K2 hK => ?_)
          refine wp_store_part 46 (.tmp 7) _ rfl rfl rfl pa.z rowS (by rw [lS, hzs]; decide) oS (fun wb bb gb => ?_)
          rw [overV_all _ _ (by rw [lS, hzs])] at bb
          have pb := pa.setz bb gb
          refine hK _ _ ⟨pb.x, pb.s⟩ ?_
          clear hK K2
          have iv2 := And.intro pb.x pb.s
          repeat ((first
            | (refine SeqS.k0 (v := ?_) ?_ ?_; rotate_left; focus (intro w' hb'; go_simp; with_reducible rfl))
            | (refine SeqS.u0 ?_)); simp only [Act.put, List.setIfInBounds_toArray, List.set_cons_zero, List.set_cons_succ])
          refine SeqS.done (by decide +kernel) ?_
          have fin := pb.done
          have yb := pb.y
          have zb := pb.z
          have fs := fun (b : Nat) (h1 : G + 4 ≤ b) h2 => (gb.block b (Nat.lt_of_lt_of_le h2 ga.size) (fun e => by injection e with e; omega)).trans (ga.block b h2 (fun e => by injection e with e; omega))
          have sl : SlAt wb (fun b => Q b ∨ w.heap.size ≤ b) SC ⟨s.a, s.b, 2, s.turn + 1, xs⟩ := ⟨_, _, _, hS2, ints_from (B := G + 4) I11 (fun y hy _ => by have := hlo y hy; omega) fs, fun y hy _ => .inr (by have := hlo y hy; omega)⟩
          clear iv iv1 iv2 p p' pa ba ga bb gb pb o1 l1
          go_wp2
          refine bodyPost_ret (results_bbt21 rfl rfl yb row1 rfl zb rowS) rfl ?_
          exact ⟨cs1, SC, rfl, fin.1, sl, fin.2⟩
        · rw [if_pos he3] at hR
          injection hR with hR1 hR2
          injection hR2 with hR2 hR3
          subst hR1; subst hR2; subst hR3
          have p := p7
          obtain ⟨cs1, rfl⟩ : ∃ x, x = cs3 := ⟨_, rfl⟩
          clear p7 row1 l1 row2 l2 o2 l3 o3
          have p' := p.keep (Below.refl _ _).drew
          have row1 := p.row
          have l1 := p.ddc.l
          have o1 := p.ddc.o
          go_wp2_with fail
          refine region_seqS (fun w' => Blk w' G 37 cs1 ∧ Blk w' (G + 1) 46 SC) (by kernel_rfl) ⟨p'.x, p'.s⟩ ?_
          have iv := And.intro p'.x p'.s
          simp only [pairs, Nat.reduceAdd]
          repeat ((first
            | (refine SeqS.y0 (v := .agg (cs1).toArray) (yields_blk (by rfl) 37 (.tmp 3) rfl rfl (fun w' h => h.1) (row1)) ?_)
            | (refine SeqS.y0 (v := .agg (SC).toArray) (yields_blk (by rfl) 46 (.tmp 4) rfl rfl (fun w' h => h.2) (rowS)) ?_)
            | (refine SeqS.k0 (v := ?_) ?_ ?_; rotate_left; focus (intro w' hb'; go_simp; with_reducible rfl))
            | (refine SeqS.u0 ?_)); simp only [Act.put, List.setIfInBounds_toArray, List.set_cons_zero, List.set_cons_succ])
          refine SeqS.alone (by decide +kernel) (by rfl) (fun K1 hK => ?_)
          refine wp_store_part 37 (.tmp 6) _ rfl rfl rfl p'.y row1 (by rw [l1, hzl]; decide) o1 (fun wa ba ga => ?_)
          rw [overV_all _ _ (by rw [l1, hzl])] at ba
          have pa := p'.sety ba ga
          refine hK _ _ ⟨pa.x, pa.s⟩ ?_
          clear hK K1
          have iv1 := And.intro pa.x pa.s
          repeat ((first
            | (refine SeqS.y0 (v := .agg (SC).toArray) (yields_blk (by rfl) 46 (.tmp 4) rfl rfl (fun w' h => h.2) (rowS)) ?_)
            | (refine SeqS.k0 (v := ?_) ?_ ?_; rotate_left; focus (intro w' hb'; go_simp; with_reducible rfl))
            | (refine SeqS.u0 ?_)); simp only [Act.put, List.setIfInBounds_toArray, List.set_cons_zero, List.set_cons_succ])
          refine SeqS.alone (by decide +kernel) (by rfl) (fun K2 hK => ?_)
          refine wp_store_part 46 (.tmp 7) _ rfl rfl rfl pa.z rowS (by rw [lS, hzs]; decide) oS (fun wb bb gb => ?_)
          rw [overV_all _ _ (by rw [lS, hzs])] at bb
          have pb := pa.setz bb gb
          refine hK _ _ ⟨pb.x, pb.s⟩ ?_
          clear hK K2
          have iv2 := And.intro pb.x pb.s
          repeat ((first
            | (refine SeqS.k0 (v := ?_) ?_ ?_; rotate_left; focus (intro w' hb'; go_simp; with_reducible rfl))
            | (refine SeqS.u0 ?_)); simp only [Act.put, List.setIfInBounds_toArray, List.set_cons_zero, List.set_cons_succ])
          refine SeqS.done (by decide +kernel) ?_
          have fin := pb.done
          have yb := pb.y
          have zb := pb.z
          have sl := SLH.out wb fin.2
          clear iv iv1 iv2 p p' pa ba ga bb gb pb o1 l1
          go_wp2
          refine bodyPost_ret (results_bbt21 rfl rfl yb row1 rfl zb rowS) rfl ?_
          exact ⟨cs1, SC, rfl, fin.1, sl, fin.2⟩
      · rw [if_neg he2] at hR
        dsimp only at hR
        rw [if_pos he2] at hR
        injection hR with hR1 hR2
        injection hR2 with hR2 hR3
        subst hR1; subst hR2; subst hR3
        have p := p5
        obtain ⟨cs1, rfl⟩ : ∃ x, x = cs2 := ⟨_, rfl⟩
        clear p5 row1 l1 row2 l2 o2
        have p' := p.keep (Below.refl _ _).drew
        have row1 := p.row
        have l1 := p.ddc.l
        have o1 := p.ddc.o
        go_wp2_with fail
        refine region_seqS (fun w' => Blk w' G 37 cs1 ∧ Blk w' (G + 1) 46 SC) (by kernel_rfl) ⟨p'.x, p'.s⟩ ?_
        have iv := And.intro p'.x p'.s
        simp only [pairs, Nat.reduceAdd]
        repeat ((first
          | (refine SeqS.y0 (v := .agg (cs1).toArray) (yields_blk (by rfl) 37 (.tmp 3) rfl rfl (fun w' h => h.1) (row1)) ?_)
          | (refine SeqS.y0 (v := .agg (SC).toArray) (yields_blk (by rfl) 46 (.tmp 4) rfl rfl (fun w' h => h.2) (rowS)) ?_)
          | (refine SeqS.k0 (v := ?_) ?_ ?_; rotate_left; focus (intro w' hb'; go_simp; with_reducible rfl))
          | (refine SeqS.u0 ?_)); simp only [Act.put, List.setIfInBounds_toArray, List.set_cons_zero, List.set_cons_succ])
        refine SeqS.alone (by decide +kernel) (by rfl) (fun K1 hK => ?_)
        refine wp_store_part 37 (.tmp 6) _ rfl rfl rfl p'.y row1 (by rw [l1, hzl]; decide) o1 (fun wa ba ga => ?_)
        rw [overV_all _ _ (by rw [l1, hzl])] at ba
        have pa := p'.sety ba ga
        refine hK _ _ ⟨pa.x, pa.s⟩ ?_
        clear hK K1
        have iv1 := And.intro pa.x pa.s
        repeat ((first
          | (refine SeqS.y0 (v := .agg (SC).toArray) (yields_blk (by rfl) 46 (.tmp 4) rfl rfl (fun w' h => h.2) (rowS)) ?_)
          | (refine SeqS.k0 (v := ?_) ?_ ?_; rotate_left; focus (intro w' hb'; go_simp; with_reducible rfl))
          | (refine SeqS.u0 ?_)); simp only [Act.put, List.setIfInBounds_toArray, List.set_cons_zero, List.set_cons_succ])
        refine SeqS.alone (by decide +kernel) (by rfl) (fun K2 hK => ?_)
        refine wp_store_part 46 (.tmp 7) _ rfl rfl rfl pa.z rowS (by rw [lS, hzs]; decide) oS (fun wb bb gb => ?_)
        rw [overV_all _ _ (by rw [lS, hzs])] at bb
        have pb := pa.setz bb gb
        refine hK _ _ ⟨pb.x, pb.s⟩ ?_
        clear hK K2
        have iv2 := And.intro pb.x pb.s
        repeat ((first
          | (refine SeqS.k0 (v := ?_) ?_ ?_; rotate_left; focus (intro w' hb'; go_simp; with_reducible rfl))
          | (refine SeqS.u0 ?_)); simp only [Act.put, List.setIfInBounds_toArray, List.set_cons_zero, List.set_cons_succ])
        refine SeqS.done (by decide +kernel) ?_
        have fin := pb.done
        have yb := pb.y
        have zb := pb.z
        have sl := SLH.out wb fin.2
        clear iv iv1 iv2 p p' pa ba ga bb gb pb o1 l1
        go_wp2
        refine bodyPost_ret (results_bbt21 rfl rfl yb row1 rfl zb rowS) rfl ?_
        exact ⟨cs1, SC, rfl, fin.1, sl, fin.2⟩
    · have g4 : (0 : Int) < (U : Int) := by omega
      have p1 := pk1.keep q2
      clear cU1 pk1 q2 fr1 p0
      have hcl := clH.out
      rw [if_pos (by omega)] at hcl
      obtain ⟨Dc, ec, hc⟩ : ∃ Dc ec, ctD D 2 0 = (Dc, ec) := ⟨_, _, rfl⟩
      have okc := ctD_ok okH.out 2 0
      unfold keD at hcl
      rw [hc] at okc hcl
      dsimp only at hcl
      have cC := p1.cut okH.out (by have := hTH.out; omega) 2 0 hc
      have x1 := p1.x
      clear p1
      go_wp2_with ((with_reducible refine wpList_load_blk rfl 37 (.tmp 3) rfl ?_ x1 rowDd hl ?_); rfl)
      refine cC.mono ?_
      rintro q wa ⟨csa, rfl, pa⟩
      have la := pa.ddc.l
      have oa := pa.ddc.o
      clear cC x1
      go_wp2_with ((with_reducible refine store_row rfl 37 (.tmp 3) _ rfl ?_ ?_ pa.x rowDd la hl oa ?_); rfl; rfl; intro wb bx gx; refine RowKit.Hid.out ?_)
      refine Lib.hid ?_
      have pb := pa.setx bx gx
      clear pa bx gx
      have hR := RH.out
      by_cases hec : ec = 0
      · rw [if_pos hec] at hcl
        subst hec
        have cS := pb.sync okc (by have := hTH.out; omega) 2 hcl.symm
        have xb := pb.x
        clear pb
        go_wp2_with ((with_reducible refine wpList_load_blk rfl 37 (.tmp 3) rfl ?_ xb rowDd la ?_); rfl)
        refine cS.mono ?_
        rintro q wc ⟨csc, rfl, pc⟩
        have lc := pc.ddc.l
        have oc := pc.ddc.o
        clear cS xb
        go_wp2_with ((with_reducible refine store_row rfl 37 (.tmp 3) _ rfl ?_ ?_ pc.x rowDd lc la oc ?_); rfl; rfl; intro wd bx gx; refine RowKit.Hid.out ?_)
        refine Lib.hid ?_
        have p1 := pc.setx bx gx
        clear pc bx gx la oa lc oc hc okc
        obtain ⟨cs1, rfl⟩ : ∃ x, x = csc := ⟨_, rfl⟩
        by_cases he1 : e1 = 0
        · subst he1
          rw [if_neg (by decide)] at hR
          have RH := Lib.hid hR
          clear hR hcl
          obtain ⟨W1, rfl⟩ : ∃ x, x = wd := ⟨_, rfl⟩
          have p1' := p1.keep (Below.refl _ _).drew
          obtain ⟨V, hV⟩ : ∃ V, W1.drew = V := ⟨_, rfl⟩
          rw [hV] at p1'
          have pV := Lib.hid (fun W' (q : Below V.heap.size V W') => p1'.keep q)
          have s3V := s3H.out
          have IV := IH.out.keep p1'.b
          have row1 := p1'.row
          have l1 := p1'.ddc.l
          have iv := And.intro p1'.x p1'.s
          have hnn := hnH.out
          obtain ⟨i0, hi, hz0, hz1, hz2⟩ := info_u8l21
          clear p1 p1'
          go_wp2_with fail
          refine region_seqT 13 (fun w' => Blk w' G 37 cs1 ∧ Blk w' (G + 1) 46 SC) (by kernel_rfl) ?_
          simp only [pairs, Nat.reduceAdd]
          rw [hV]
          repeat ((first
            | (refine SeqT.take (v := .agg (cs1).toArray) (by first | assumption | trivial) (by kernel_rfl) (by decide +kernel) (by decide +kernel) (yields_blk (by rfl) 37 (.tmp 3) rfl rfl (fun w' h => h.1) (row1)) ?_)
            | (refine SeqT.take (v := ?_) (by first | assumption | trivial) (by kernel_rfl) (by decide +kernel) (by decide +kernel) (Or.inl ⟨by rfl, ?_⟩) ?_; rotate_left; focus (intro w' hb'; go_simp; with_reducible rfl))
            | (refine SeqT.take (v := ?_) (by first | assumption | trivial) (by kernel_rfl) (by decide +kernel) (by decide +kernel) (Or.inl ⟨by rfl, ?_⟩) ?_; rotate_left; focus (intro w' hb'; have d0 := (hb'.2.cell 3).trans s3V; go_simp; with_reducible rfl))
            | (refine SeqT.take (v := undef) (by first | assumption | trivial) (by kernel_rfl) (by decide +kernel) (by decide +kernel) (Or.inr ⟨by rfl, rfl⟩) ?_)
            | (refine SeqT.take1 (v := .agg (cs1).toArray) (by first | assumption | trivial) (by kernel_rfl) (by decide +kernel) (by decide +kernel) (yields_blk (by rfl) 37 (.tmp 3) rfl rfl (fun w' h => h.1) (row1)) ?_)
            | (refine SeqT.take1 (v := ?_) (by first | assumption | trivial) (by kernel_rfl) (by decide +kernel) (by decide +kernel) (Or.inl ⟨by rfl, ?_⟩) ?_; rotate_left; focus (intro w' hb'; go_simp; with_reducible rfl))
            | (refine SeqT.take1 (v := ?_) (by first | assumption | trivial) (by kernel_rfl) (by decide +kernel) (by decide +kernel) (Or.inl ⟨by rfl, ?_⟩) ?_; rotate_left; focus (intro w' hb'; have d0 := (hb'.2.cell 3).trans s3V; go_simp; with_reducible rfl))
            | (refine SeqT.take1 (v := undef) (by first | assumption | trivial) (by kernel_rfl) (by decide +kernel) (by decide +kernel) (Or.inr ⟨by rfl, rfl⟩) ?_)); simp only [Act.put, List.setIfInBounds_toArray, List.set_cons_zero, List.set_cons_succ])
          refine SeqT.alone (by decide +kernel) (by rfl) (by decide) (fun K1 hK => ?_)
          go_simp
          go_at_call 62
          refine (rNumber_any (TU + 1) 8 V (by decide)).mono ?_
          rintro q w1 ⟨b1, d1, rfl, own1, S1⟩
          go_simp
          have iv1 := And.intro (pV.out w1 S1).x (pV.out w1 S1).s
          refine hK _ _ iv1 ?_
          clear hK K1
          (try simp only [Act.put, List.setIfInBounds_toArray, List.set_cons_zero, List.set_cons_succ])
          repeat ((first
            | (refine SeqT.take (v := ?_) (by first | assumption | trivial) (by kernel_rfl) (by decide +kernel) (by decide +kernel) (Or.inl ⟨by rfl, ?_⟩) ?_; rotate_left; focus (intro w' hb'; go_simp; with_reducible rfl))
            | (refine SeqT.take (v := undef) (by first | assumption | trivial) (by kernel_rfl) (by decide +kernel) (by decide +kernel) (Or.inr ⟨by rfl, rfl⟩) ?_)); simp only [Act.put, List.setIfInBounds_toArray, List.set_cons_zero, List.set_cons_succ])
          refine SeqT.alone (by decide +kernel) (by rfl) (by decide) (fun K1 hK => ?_)
          refine wp_append_ints (.tmp 74) (.tmp 75) 22 rfl V.heap.size 5 i0 (.int .u8 0) 1 Tryz.underlying22 hi hz0 hz1 hz2 rfl rfl own1 rfl (IV.keep S1) ?_ ?_ S1.size ?_
          · unfold maxLen; omega
          · omega
          intro v2 w2 own2 g2
          have S2 : Below V.heap.size V w2 := S1.grown g2 S1.size (fun q hq => (own1.lt q hq).1)
          have iv2 := And.intro (pV.out w2 S2).x (pV.out w2 S2).s
          refine hK _ _ iv2 ?_
          clear hK K1 g2 own1 iv1
          rw [← List.map_append, BeH.out] at own2
          obtain ⟨b2, d2, hv2⟩ := own_slice32 own2
          subst hv2
          have I2 := own_ints' own2
          (try simp only [Act.put, List.setIfInBounds_toArray, List.set_cons_zero, List.set_cons_succ])
          refine SeqT.alone (by decide +kernel) (by rfl) (by decide) (fun K1 hK => ?_)
          go_simp
          go_at_call 61
          refine (r19Bytes_any b2 (8 + n) d2 B' w2 I2 BbH.out (by omega)).mono ?_
          rintro q w3 ⟨b3, d3, rfl, own3, q3⟩
          go_simp
          have S3 := S2.trans (q3.mono S2.size)
          have iv3 := And.intro (pV.out w3 S3).x (pV.out w3 S3).s
          refine hK _ _ iv3 ?_
          clear hK K1 I2 own2 iv2 q3
          have cA := (pV.out w3 S3).append ok1H.out (by have := hTH.out; omega) 2 (own_ints' own3) (by rw [BfH.out]; omega) A2H.out
          (try simp only [Act.put, List.setIfInBounds_toArray, List.set_cons_zero, List.set_cons_succ])
          refine SeqT.alone (by decide +kernel) (by rfl) (by decide) (fun K1 hK => ?_)
          go_simp
          go_at_call 8
          refine cA.mono ?_
          rintro q w4 ⟨cs2, rfl, p4⟩
          go_simp
          have iv4 := And.intro p4.x p4.s
          refine hK _ _ iv4 ?_
          clear hK K1 own3 iv3 cA
          have row2 := p4.row
          have l2 := p4.ddc.l
          have o2 := p4.ddc.o
          (try simp only [Act.put, List.setIfInBounds_toArray, List.set_cons_zero, List.set_cons_succ])
          repeat ((first
            | (refine SeqT.take (v := ?_) (by first | assumption | trivial) (by kernel_rfl) (by decide +kernel) (by decide +kernel) (Or.inl ⟨by rfl, ?_⟩) ?_; rotate_left; focus (intro w' hb'; go_simp; with_reducible rfl))
            | (refine SeqT.take (v := undef) (by first | assumption | trivial) (by kernel_rfl) (by decide +kernel) (by decide +kernel) (Or.inr ⟨by rfl, rfl⟩) ?_)); simp only [Act.put, List.setIfInBounds_toArray, List.set_cons_zero, List.set_cons_succ])
          repeat ((first
            | (refine SeqT.free (v := ?_) (by first | assumption | trivial) (by kernel_rfl) (by decide +kernel) (by decide +kernel) (Or.inl ⟨by rfl, ?_⟩) ?_; rotate_left; focus (intro w' hb'; go_simp; with_reducible rfl))
            | (refine SeqT.free (v := undef) (by first | assumption | trivial) (by kernel_rfl) (by decide +kernel) (by decide +kernel) (Or.inr ⟨by rfl, rfl⟩) ?_)); simp only [Act.put, List.setIfInBounds_toArray, List.set_cons_zero, List.set_cons_succ])
          refine SeqT.last (by decide +kernel) (by rfl) (fun K1 hK => ?_)
          refine wp_store_part 37 (.tmp 3) _ rfl rfl rfl p4.x row2 (by rw [l2, l1]; decide) o2 (fun w5 b5 g5 => ?_)
          rw [overV_all _ _ (by rw [l2, l1])] at b5
          have p5 := p4.setx b5 g5
          refine hK _ _ ?_
          clear hK K1 iv4 p4 b5 g5
          (try simp only [Act.put])
          repeat ((first
            | (refine SeqS.k0 (v := ?_) ?_ ?_; rotate_left; focus (intro w' hb'; go_simp; with_reducible rfl))
            | (refine SeqS.u0 ?_)); simp only [Act.put, List.setIfInBounds_toArray, List.set_cons_zero, List.set_cons_succ])
          refine SeqS.done (by decide +kernel) ?_
          clear pV iv IV S1 S2 S3
          have hR := RH.out
          by_cases he2 : e2 = 0
          · rw [if_pos he2] at hR
            subst he2
            dsimp only at hR
            have cS := p5.sync ok2H.out (by have := hTH.out; omega) 2 A3H.out
            have x5 := p5.x
            clear p5
            go_wp2_with ((with_reducible refine wpList_load_blk rfl 37 (.tmp 3) rfl ?_ x5 rowDd l2 ?_); rfl)
            refine cS.mono ?_
            rintro q w6 ⟨cs3, rfl, p6⟩
            have l3 := p6.ddc.l
            have o3 := p6.ddc.o
            clear cS x5
            go_wp2_with ((with_reducible refine store_row rfl 37 (.tmp 3) _ rfl ?_ ?_ p6.x rowDd l3 l2 o3 ?_); rfl; rfl; intro w7 bx gx; refine RowKit.Hid.out ?_)
            refine Lib.hid ?_
            have p7 := p6.setx bx gx
            clear p6 bx gx
            by_cases he3 : e3 = 0
            · rw [if_neg (by omega)] at hR
              injection hR with hR1 hR2
              injection hR2 with hR2 hR3
              subst hR1; subst hR2; subst hR3; subst he3
              have k2 := (p7.s.cell 2).trans s2H.out
              have k3 := (p7.s.cell 3).trans s3H.out
              have f2 := p7.s.frozen 2
              have f3 := p7.s.frozen 3
              have k4 : w7.cell? ⟨G + 1, 4, none⟩ = some (.slice aa nn cc) := (p7.s.cell 4).trans (by rw [scH.out]; rfl)
              have f4 := p7.s.frozen 4
              have hz7 := p7.z.lt
              have p8 := p7.sets (p7.s.set 2 (.int .i64 2)) (grown_setCell _ _ _ _)
              have p9 := p8.sets (p8.s.set 3 (.int .u64 (TU + 1))) (grown_setCell _ _ _ _)
              obtain ⟨U2, hU2⟩ : ∃ U, (w7.setCell ⟨G + 1, 2, none⟩ (.int .i64 2)).setCell ⟨G + 1, 3, none⟩ (.int .u64 (TU + 1)) = U := ⟨_, rfl⟩
              have sz : U2.heap.size = w7.heap.size := by rw [← hU2]; simp
              rw [hU2] at p9
              have UH := Lib.hid hU2
              have szH := Lib.hid sz
              have q3 : Below U2.heap.size U2 (U2.alloc (.cells #[] 5)) := below1 _ _
              have own0 : (U2.alloc (.cells #[] 5)).ownsRow U2.heap.size 5 1 (.slice (some ⟨U2.heap.size, 0, none⟩) 0 0) 0 [] := World.ownsRow_made U2 #[] 0 (Nat.le_refl _) (Nat.zero_le _) rfl
              have I9 := (IH.out.keep p9.b).keep q3
              have q3s := q3.size
              rw [sz] at own0 q3s
              clear hU2 sz p7 p8 row1 l1 row2 l2 o2 l3 o3 k4 f4
              go_wp2_with (at_builtin; rw [UH.out]; refine wpList_append_ints rfl (.tmp 103) (.tmp 104) 22 rfl w7.heap.size 5 i0 (.int .u8 0) 1 Tryz.underlying22 hi hz0 hz1 hz2 rfl rfl own0 rfl I9 ?_ ?_ q3s ?_; (have := hnH.out; unfold maxLen; omega); (have := hnH.out; omega); intro v10 w10 own10 g10; refine RowKit.Hid.out ?_)
              refine Lib.hid ?_
              rw [List.nil_append, Nat.zero_add] at own10
              have q10 : Below U2.heap.size U2 w10 := q3.grown g10 q3.size (fun k hk => by injection hk with hk; rw [← hk, szH.out]; exact Nat.le_refl _)
              have p10 := p9.keep q10
              obtain ⟨b10, d10, hv10⟩ := own_slice32 own10
              subst hv10
              have hlo : ∀ y, b10 = some y → w7.heap.size ≤ y.block := fun y hy => (own10.lt y.block (by rw [hy]; rfl)).1
              have I10 := own_ints' own10
              have k4 : w10.cell? ⟨G + 1, 4, none⟩ = some (.slice aa nn cc) := (p10.s.cell 4).trans (by rw [scH.out]; rfl)
              have f4 := p10.s.frozen 4
              have p := p10.sets (p10.s.set 4 (.slice b10 n d10)) (grown_setCell _ _ _ _)
              have I11 : Ints .u8 (w10.setCell ⟨G + 1, 4, none⟩ (.slice b10 n d10)) b10 n d10 xs := ints_from (B := G + 4) I10 (fun y hy _ => by have := hlo y hy; omega) (fun b h1 h2 => (grown_setCell w10 (G + 1) 4 (.slice b10 n d10)).block b h2 (fun e => by injection e with e; omega))
              obtain ⟨SN, hSN⟩ : ∃ C, ((SC.set 2 (.int .i64 2)).set 3 (.int .u64 (TU + 1))).set 4 (.slice b10 n d10) = C := ⟨_, rfl⟩
              rw [hSN] at p
              have hS2 : SN = slC ⟨s.a, s.b, 2, s.turn + 1, xs⟩ b10 n d10 := by rw [← hSN, scH.out, ← TUH.out]; rfl
              have lS : SN.length = 5 := by rw [hS2]; rfl
              have oS : ∀ v ∈ SN, v.oneCell' = true := by rw [hS2]; exact slC_one _ _ _ _
              have rowS : IsRow Tryz.prog 46 SN.length := by rw [lS]; exact rowSl
              have hBG : w.heap.size ≤ G := by rw [hGH.out]; exact Nat.le_refl _
              clear q3 q3s own0 I9 own10 g10 q10 p9 p10 I10 hSN k2 k3 f2 f3
              obtain ⟨cs1, rfl⟩ : ∃ x, x = cs3 := ⟨_, rfl⟩
              obtain ⟨SC, rfl⟩ : ∃ x, x = SN := ⟨_, rfl⟩
              have p' := p.keep (Below.refl _ _).drew
              have row1 := p.row
              have l1 := p.ddc.l
              have o1 := p.ddc.o
              go_wp2_with fail
              refine region_seqS (fun w' => Blk w' G 37 cs1 ∧ Blk w' (G + 1) 46 SC) (by kernel_rfl) ⟨p'.x, p'.s⟩ ?_
              have iv := And.intro p'.x p'.s
              simp only [pairs, Nat.reduceAdd]
              repeat ((first
                | (refine SeqS.y0 (v := .agg (cs1).toArray) (yields_blk (by rfl) 37 (.tmp 3) rfl rfl (fun w' h => h.1) (row1)) ?_)
                | (refine SeqS.y0 (v := .agg (SC).toArray) (yields_blk (by rfl) 46 (.tmp 4) rfl rfl (fun w' h => h.2) (rowS)) ?_)
                | (refine SeqS.k0 (v := ?_) ?_ ?_; rotate_left; focus (intro w' hb'; go_simp; with_reducible rfl))
                | (refine SeqS.u0 ?_)); simp only [Act.put, List.setIfInBounds_toArray, List.set_cons_zero, List.set_cons_succ])
              refine SeqS.alone (by decide +kernel) (by rfl) (fun K1 hK => ?_)
              refine wp_store_part 37 (.tmp 6) _ rfl rfl rfl p'.y row1 (by rw [l1, hzl]; decide) o1 (fun wa ba ga => ?_)
              rw [overV_all _ _ (by rw [l1, hzl])] at ba
              have pa := p'.sety ba ga
              refine hK _ _ ⟨pa.x, pa.s⟩ ?_
              clear hK K1
              have iv1 := And.intro pa.x pa.s
              repeat ((first
                | (refine SeqS.y0 (v := .agg (SC).toArray) (yields_blk (by rfl) 46 (.tmp 4) rfl rfl (fun w' h => h.2) (rowS)) ?_)
                | (refine SeqS.k0 (v := ?_) ?_ ?_; rotate_left; focus (intro w' hb'; go_simp; with_reducible rfl))
                | (refine SeqS.u0 ?_)); simp only [Act.put, List.setIfInBounds_toArray, List.set_cons_zero, List.set_cons_succ])
              refine SeqS.alone (by decide +kernel) (by rfl) (fun K2 hK => ?_)
              refine wp_store_part 46 (.tmp 7) _ rfl rfl rfl pa.z rowS (by rw [lS, hzs]; decide) oS (fun wb bb gb => ?_)
              rw [overV_all _ _ (by rw [lS, hzs])] at bb
              have pb := pa.setz bb gb
              refine hK _ _ ⟨pb.x, pb.s⟩ ?_
              clear hK K2
              have iv2 := And.intro pb.x pb.s
              repeat ((first
                | (refine SeqS.k0 (v := ?_) ?_ ?_; rotate_left; focus (intro w' hb'; go_simp; with_reducible rfl))
                | (refine SeqS.u0 ?_)); simp only [Act.put, List.setIfInBounds_toArray, List.set_cons_zero, List.set_cons_succ])
              refine SeqS.done (by decide +kernel) ?_
              have fin := pb.done
              have yb := pb.y
              have zb := pb.z
              have fs := fun (b : Nat) (h1 : G + 4 ≤ b) h2 => (gb.block b (Nat.lt_of_lt_of_le h2 ga.size) (fun e => by injection e with e; omega)).trans (ga.block b h2 (fun e => by injection e with e; omega))
              have sl : SlAt wb (fun b => Q b ∨ w.heap.size ≤ b) SC ⟨s.a, s.b, 2, s.turn + 1, xs⟩ := ⟨_, _, _, hS2, ints_from (B := G + 4) I11 (fun y hy _ => by have := hlo y hy; omega) fs, fun y hy _ => .inr (by have := hlo y hy; omega)⟩
              clear iv iv1 iv2 p p' pa ba ga bb gb pb o1 l1
              go_wp2
              refine bodyPost_ret (results_bbt21 rfl rfl yb row1 rfl zb rowS) rfl ?_
              exact ⟨cs1, SC, rfl, fin.1, sl, fin.2⟩
            · rw [if_pos he3] at hR
              injection hR with hR1 hR2
              injection hR2 with hR2 hR3
              subst hR1; subst hR2; subst hR3
              have p := p7
              obtain ⟨cs1, rfl⟩ : ∃ x, x = cs3 := ⟨_, rfl⟩
              clear p7 row1 l1 row2 l2 o2 l3 o3
              have p' := p.keep (Below.refl _ _).drew
              have row1 := p.row
              have l1 := p.ddc.l
              have o1 := p.ddc.o
              go_wp2_with fail
              refine region_seqS (fun w' => Blk w' G 37 cs1 ∧ Blk w' (G + 1) 46 SC) (by kernel_rfl) ⟨p'.x, p'.s⟩ ?_
              have iv := And.intro p'.x p'.s
              simp only [pairs, Nat.reduceAdd]
              repeat ((first
                | (refine SeqS.y0 (v := .agg (cs1).toArray) (yields_blk (by rfl) 37 (.tmp 3) rfl rfl (fun w' h => h.1) (row1)) ?_)
                | (refine SeqS.y0 (v := .agg (SC).toArray) (yields_blk (by rfl) 46 (.tmp 4) rfl rfl (fun w' h => h.2) (rowS)) ?_)
                | (refine SeqS.k0 (v := ?_) ?_ ?_; rotate_left; focus (intro w' hb'; go_simp; with_reducible rfl))
                | (refine SeqS.u0 ?_)); simp only [Act.put, List.setIfInBounds_toArray, List.set_cons_zero, List.set_cons_succ])
              refine SeqS.alone (by decide +kernel) (by rfl) (fun K1 hK => ?_)
              refine wp_store_part 37 (.tmp 6) _ rfl rfl rfl p'.y row1 (by rw [l1, hzl]; decide) o1 (fun wa ba ga => ?_)
              rw [overV_all _ _ (by rw [l1, hzl])] at ba
              have pa := p'.sety ba ga
              refine hK _ _ ⟨pa.x, pa.s⟩ ?_
              clear hK K1
              have iv1 := And.intro pa.x pa.s
              repeat ((first
                | (refine SeqS.y0 (v := .agg (SC).toArray) (yields_blk (by rfl) 46 (.tmp 4) rfl rfl (fun w' h => h.2) (rowS)) ?_)
                | (refine SeqS.k0 (v := ?_) ?_ ?_; rotate_left; focus (intro w' hb'; go_simp; with_reducible rfl))
                | (refine SeqS.u0 ?_)); simp only [Act.put, List.setIfInBounds_toArray, List.set_cons_zero, List.set_cons_succ])
              refine SeqS.alone (by decide +kernel) (by rfl) (fun K2 hK => ?_)
              refine wp_store_part 46 (.tmp 7) _ rfl rfl rfl pa.z rowS (by rw [lS, hzs]; decide) oS (fun wb bb gb => ?_)
              rw [overV_all _ _ (by rw [lS, hzs])] at bb
              have pb := pa.setz bb gb
              refine hK _ _ ⟨pb.x, pb.s⟩ ?_
              clear hK K2
              have iv2 := And.intro pb.x pb.s
              repeat ((first
                | (refine SeqS.k0 (v := ?_) ?_ ?_; rotate_left; focus (intro w' hb'; go_simp; with_reducible rfl))
                | (refine SeqS.u0 ?_)); simp only [Act.put, List.setIfInBounds_toArray, List.set_cons_zero, List.set_cons_succ])
              refine SeqS.done (by decide +kernel) ?_
              have fin := pb.done
              have yb := pb.y
              have zb := pb.z
              have sl := SLH.out wb fin.2
              clear iv iv1 iv2 p p' pa ba ga bb gb pb o1 l1
              go_wp2
              refine bodyPost_ret (results_bbt21 rfl rfl yb row1 rfl zb rowS) rfl ?_
              exact ⟨cs1, SC, rfl, fin.1, sl, fin.2⟩
          · rw [if_neg he2] at hR
            dsimp only at hR
            rw [if_pos he2] at hR
            injection hR with hR1 hR2
            injection hR2 with hR2 hR3
            subst hR1; subst hR2; subst hR3
            have p := p5
            obtain ⟨cs1, rfl⟩ : ∃ x, x = cs2 := ⟨_, rfl⟩
            clear p5 row1 l1 row2 l2 o2
            have p' := p.keep (Below.refl _ _).drew
            have row1 := p.row
            have l1 := p.ddc.l
            have o1 := p.ddc.o
            go_wp2_with fail
            refine region_seqS (fun w' => Blk w' G 37 cs1 ∧ Blk w' (G + 1) 46 SC) (by kernel_rfl) ⟨p'.x, p'.s⟩ ?_
            have iv := And.intro p'.x p'.s
            simp only [pairs, Nat.reduceAdd]
            repeat ((first
              | (refine SeqS.y0 (v := .agg (cs1).toArray) (yields_blk (by rfl) 37 (.tmp 3) rfl rfl (fun w' h => h.1) (row1)) ?_)
              | (refine SeqS.y0 (v := .agg (SC).toArray) (yields_blk (by rfl) 46 (.tmp 4) rfl rfl (fun w' h => h.2) (rowS)) ?_)
              | (refine SeqS.k0 (v := ?_) ?_ ?_; rotate_left; focus (intro w' hb'; go_simp; with_reducible rfl))
              | (refine SeqS.u0 ?_)); simp only [Act.put, List.setIfInBounds_toArray, List.set_cons_zero, List.set_cons_succ])
            refine SeqS.alone (by decide +kernel) (by rfl) (fun K1 hK => ?_)
            refine wp_store_part 37 (.tmp 6) _ rfl rfl rfl p'.y row1 (by rw [l1, hzl]; decide) o1 (fun wa ba ga => ?_)
            rw [overV_all _ _ (by rw [l1, hzl])] at ba
            have pa := p'.sety ba ga
            refine hK _ _ ⟨pa.x, pa.s⟩ ?_
            clear hK K1
            have iv1 := And.intro pa.x pa.s
            repeat ((first
              | (refine SeqS.y0 (v := .agg (SC).toArray) (yields_blk (by rfl) 46 (.tmp 4) rfl rfl (fun w' h => h.2) (rowS)) ?_)
              | (refine SeqS.k0 (v := ?_) ?_ ?_; rotate_left; focus (intro w' hb'; go_simp; with_reducible rfl))
              | (refine SeqS.u0 ?_)); simp only [Act.put, List.setIfInBounds_toArray, List.set_cons_zero, List.set_cons_succ])
            refine SeqS.alone (by decide +kernel) (by rfl) (fun K2 hK => ?_)
            refine wp_store_part 46 (.tmp 7) _ rfl rfl rfl pa.z rowS (by rw [lS, hzs]; decide) oS (fun wb bb gb => ?_)
            rw [overV_all _ _ (by rw [lS, hzs])] at bb
            have pb := pa.setz bb gb
            refine hK _ _ ⟨pb.x, pb.s⟩ ?_
            clear hK K2
            have iv2 := And.intro pb.x pb.s
            repeat ((first
              | (refine SeqS.k0 (v := ?_) ?_ ?_; rotate_left; focus (intro w' hb'; go_simp; with_reducible rfl))
              | (refine SeqS.u0 ?_)); simp only [Act.put, List.setIfInBounds_toArray, List.set_cons_zero, List.set_cons_succ])
            refine SeqS.done (by decide +kernel) ?_
            have fin := pb.done
            have yb := pb.y
            have zb := pb.z
            have sl := SLH.out wb fin.2
            clear iv iv1 iv2 p p' pa ba ga bb gb pb o1 l1
            go_wp2
            refine bodyPost_ret (results_bbt21 rfl rfl yb row1 rfl zb rowS) rfl ?_
            exact ⟨cs1, SC, rfl, fin.1, sl, fin.2⟩
        · rw [if_pos he1] at hR
          injection hR with hR1 hR2
          injection hR2 with hR2 hR3
          subst hR1; subst hR2; subst hR3
          have p := p1
          clear p1
          have p' := p.keep (Below.refl _ _).drew
          have row1 := p.row
          have l1 := p.ddc.l
          have o1 := p.ddc.o
          go_wp2_with fail
          refine region_seqS (fun w' => Blk w' G 37 cs1 ∧ Blk w' (G + 1) 46 SC) (by kernel_rfl) ⟨p'.x, p'.s⟩ ?_
          have iv := And.intro p'.x p'.s
          simp only [pairs, Nat.reduceAdd]
          repeat ((first
            | (refine SeqS.y0 (v := .agg (cs1).toArray) (yields_blk (by rfl) 37 (.tmp 3) rfl rfl (fun w' h => h.1) (row1)) ?_)
            | (refine SeqS.y0 (v := .agg (SC).toArray) (yields_blk (by rfl) 46 (.tmp 4) rfl rfl (fun w' h => h.2) (rowS)) ?_)
            | (refine SeqS.k0 (v := ?_) ?_ ?_; rotate_left; focus (intro w' hb'; go_simp; with_reducible rfl))
            | (refine SeqS.u0 ?_)); simp only [Act.put, List.setIfInBounds_toArray, List.set_cons_zero, List.set_cons_succ])
          refine SeqS.alone (by decide +kernel) (by rfl) (fun K1 hK => ?_)
          refine wp_store_part 37 (.tmp 6) _ rfl rfl rfl p'.y row1 (by rw [l1, hzl]; decide) o1 (fun wa ba ga => ?_)
          rw [overV_all _ _ (by rw [l1, hzl])] at ba
          have pa := p'.sety ba ga
          refine hK _ _ ⟨pa.x, pa.s⟩ ?_
          clear hK K1
          have iv1 := And.intro pa.x pa.s
          repeat ((first
            | (refine SeqS.y0 (v := .agg (SC).toArray) (yields_blk (by rfl) 46 (.tmp 4) rfl rfl (fun w' h => h.2) (rowS)) ?_)
            | (refine SeqS.k0 (v := ?_) ?_ ?_; rotate_left; focus (intro w' hb'; go_simp; with_reducible rfl))
            | (refine SeqS.u0 ?_)); simp only [Act.put, List.setIfInBounds_toArray, List.set_cons_zero, List.set_cons_succ])
          refine SeqS.alone (by decide +kernel) (by rfl) (fun K2 hK => ?_)
          refine wp_store_part 46 (.tmp 7) _ rfl rfl rfl pa.z rowS (by rw [lS, hzs]; decide) oS (fun wb bb gb => ?_)
          rw [overV_all _ _ (by rw [lS, hzs])] at bb
          have pb := pa.setz bb gb
          refine hK _ _ ⟨pb.x, pb.s⟩ ?_
          clear hK K2
          have iv2 := And.intro pb.x pb.s
          repeat ((first
            | (refine SeqS.k0 (v := ?_) ?_ ?_; rotate_left; focus (intro w' hb'; go_simp; with_reducible rfl))
            | (refine SeqS.u0 ?_)); simp only [Act.put, List.setIfInBounds_toArray, List.set_cons_zero, List.set_cons_succ])
          refine SeqS.done (by decide +kernel) ?_
          have fin := pb.done
          have yb := pb.y
          have zb := pb.z
          have sl := SLH.out wb fin.2
          clear iv iv1 iv2 p p' pa ba ga bb gb pb o1 l1
          go_wp2
          refine bodyPost_ret (results_bbt21 rfl rfl yb row1 rfl zb rowS) rfl ?_
          exact ⟨cs1, SC, rfl, fin.1, sl, fin.2⟩
      · rw [if_neg hec] at hcl
        injection hcl with hc1 hc2
        subst hc1; subst hc2
        rw [if_pos hec] at hR
        injection hR with hR1 hR2
        injection hR2 with hR2 hR3
        subst hR1; subst hR2; subst hR3
        have p := pb
        obtain ⟨cs1, rfl⟩ : ∃ x, x = csa := ⟨_, rfl⟩
        clear pb la oa
        have p' := p.keep (Below.refl _ _).drew
        have row1 := p.row
        have l1 := p.ddc.l
        have o1 := p.ddc.o
        go_wp2_with fail
        refine region_seqS (fun w' => Blk w' G 37 cs1 ∧ Blk w' (G + 1) 46 SC) (by kernel_rfl) ⟨p'.x, p'.s⟩ ?_
        have iv := And.intro p'.x p'.s
        simp only [pairs, Nat.reduceAdd]
        repeat ((first
          | (refine SeqS.y0 (v := .agg (cs1).toArray) (yields_blk (by rfl) 37 (.tmp 3) rfl rfl (fun w' h => h.1) (row1)) ?_)
          | (refine SeqS.y0 (v := .agg (SC).toArray) (yields_blk (by rfl) 46 (.tmp 4) rfl rfl (fun w' h => h.2) (rowS)) ?_)
          | (refine SeqS.k0 (v := ?_) ?_ ?_; rotate_left; focus (intro w' hb'; go_simp; with_reducible rfl))
          | (refine SeqS.u0 ?_)); simp only [Act.put, List.setIfInBounds_toArray, List.set_cons_zero, List.set_cons_succ])
        refine SeqS.alone (by decide +kernel) (by rfl) (fun K1 hK => ?_)
        refine wp_store_part 37 (.tmp 6) _ rfl rfl rfl p'.y row1 (by rw [l1, hzl]; decide) o1 (fun wa ba ga => ?_)
        rw [overV_all _ _ (by rw [l1, hzl])] at ba
        have pa := p'.sety ba ga
        refine hK _ _ ⟨pa.x, pa.s⟩ ?_
        clear hK K1
        have iv1 := And.intro pa.x pa.s
        repeat ((first
          | (refine SeqS.y0 (v := .agg (SC).toArray) (yields_blk (by rfl) 46 (.tmp 4) rfl rfl (fun w' h => h.2) (rowS)) ?_)
          | (refine SeqS.k0 (v := ?_) ?_ ?_; rotate_left; focus (intro w' hb'; go_simp; with_reducible rfl))
          | (refine SeqS.u0 ?_)); simp only [Act.put, List.setIfInBounds_toArray, List.set_cons_zero, List.set_cons_succ])
        refine SeqS.alone (by decide +kernel) (by rfl) (fun K2 hK => ?_)
        refine wp_store_part 46 (.tmp 7) _ rfl rfl rfl pa.z rowS (by rw [lS, hzs]; decide) oS (fun wb bb gb => ?_)
        rw [overV_all _ _ (by rw [lS, hzs])] at bb
        have pb := pa.setz bb gb
        refine hK _ _ ⟨pb.x, pb.s⟩ ?_
        clear hK K2
        have iv2 := And.intro pb.x pb.s
        repeat ((first
          | (refine SeqS.k0 (v := ?_) ?_ ?_; rotate_left; focus (intro w' hb'; go_simp; with_reducible rfl))
          | (refine SeqS.u0 ?_)); simp only [Act.put, List.setIfInBounds_toArray, List.set_cons_zero, List.set_cons_succ])
        refine SeqS.done (by decide +kernel) ?_
        have fin := pb.done
        have yb := pb.y
        have zb := pb.z
        have sl := SLH.out wb fin.2
        clear iv iv1 iv2 p p' pa ba ga bb gb pb o1 l1
        go_wp2
        refine bodyPost_ret (results_bbt21 rfl rfl yb row1 rfl zb rowS) rfl ?_
        exact ⟨cs1, SC, rfl, fin.1, sl, fin.2⟩
  · have g3 : (0 : Int) < (N : Int) := by omega
    have p1 := pk.out W1 q1
    clear cH cU frH pk q1 p0
    have hcl := clH.out
    rw [if_pos (by omega)] at hcl
    obtain ⟨Dc, ec, hc⟩ : ∃ Dc ec, ctD D 2 0 = (Dc, ec) := ⟨_, _, rfl⟩
    have okc := ctD_ok okH.out 2 0
    unfold keD at hcl
    rw [hc] at okc hcl
    dsimp only at hcl
    have cC := p1.cut okH.out (by have := hTH.out; omega) 2 0 hc
    have x1 := p1.x
    clear p1
    go_wp2_with ((with_reducible refine wpList_load_blk rfl 37 (.tmp 3) rfl ?_ x1 rowDd hl ?_); rfl)
    refine cC.mono ?_
    rintro q wa ⟨csa, rfl, pa⟩
    have la := pa.ddc.l
    have oa := pa.ddc.o
    clear cC x1
    go_wp2_with ((with_reducible refine store_row rfl 37 (.tmp 3) _ rfl ?_ ?_ pa.x rowDd la hl oa ?_); rfl; rfl; intro wb bx gx; refine RowKit.Hid.out ?_)
    refine Lib.hid ?_
    have pb := pa.setx bx gx
    clear pa bx gx
    have hR := RH.out
    by_cases hec : ec = 0
    · rw [if_pos hec] at hcl
      subst hec
      have cS := pb.sync okc (by have := hTH.out; omega) 2 hcl.symm
      have xb := pb.x
      clear pb
      go_wp2_with ((with_reducible refine wpList_load_blk rfl 37 (.tmp 3) rfl ?_ xb rowDd la ?_); rfl)
      refine cS.mono ?_
      rintro q wc ⟨csc, rfl, pc⟩
      have lc := pc.ddc.l
      have oc := pc.ddc.o
      clear cS xb
      go_wp2_with ((with_reducible refine store_row rfl 37 (.tmp 3) _ rfl ?_ ?_ pc.x rowDd lc la oc ?_); rfl; rfl; intro wd bx gx; refine RowKit.Hid.out ?_)
      refine Lib.hid ?_
      have p1 := pc.setx bx gx
      clear pc bx gx la oa lc oc hc okc
      obtain ⟨cs1, rfl⟩ : ∃ x, x = csc := ⟨_, rfl⟩
      by_cases he1 : e1 = 0
      · subst he1
        rw [if_neg (by decide)] at hR
        have RH := Lib.hid hR
        clear hR hcl
        obtain ⟨W1, rfl⟩ : ∃ x, x = wd := ⟨_, rfl⟩
        have p1' := p1.keep (Below.refl _ _).drew
        obtain ⟨V, hV⟩ : ∃ V, W1.drew = V := ⟨_, rfl⟩
        rw [hV] at p1'
        have pV := Lib.hid (fun W' (q : Below V.heap.size V W') => p1'.keep q)
        have s3V := s3H.out
        have IV := IH.out.keep p1'.b
        have row1 := p1'.row
        have l1 := p1'.ddc.l
        have iv := And.intro p1'.x p1'.s
        have hnn := hnH.out
        obtain ⟨i0, hi, hz0, hz1, hz2⟩ := info_u8l21
        clear p1 p1'
        go_wp2_with fail
        refine region_seqT 13 (fun w' => Blk w' G 37 cs1 ∧ Blk w' (G + 1) 46 SC) (by kernel_rfl) ?_
        simp only [pairs, Nat.reduceAdd]
        rw [hV]
        repeat ((first
          | (refine SeqT.take (v := .agg (cs1).toArray) (by first | assumption | trivial) (by kernel_rfl) (by decide +kernel) (by decide +kernel) (yields_blk (by rfl) 37 (.tmp 3) rfl rfl (fun w' h => h.1) (row1)) ?_)
          | (refine SeqT.take (v := ?_) (by first | assumption | trivial) (by kernel_rfl) (by decide +kernel) (by decide +kernel) (Or.inl ⟨by rfl, ?_⟩) ?_; rotate_left; focus (intro w' hb'; go_simp; with_reducible rfl))
          | (refine SeqT.take (v := ?_) (by first | assumption | trivial) (by kernel_rfl) (by decide +kernel) (by decide +kernel) (Or.inl ⟨by rfl, ?_⟩) ?_; rotate_left; focus (intro w' hb'; have d0 := (hb'.2.cell 3).trans s3V; go_simp; with_reducible rfl))
          | (refine SeqT.take (v := undef) (by first | assumption | trivial) (by kernel_rfl) (by decide +kernel) (by decide +kernel) (Or.inr ⟨by rfl, rfl⟩) ?_)
          | (refine SeqT.take1 (v := .agg (cs1).toArray) (by first | assumption | trivial) (by kernel_rfl) (by decide +kernel) (by decide +kernel) (yields_blk (by rfl) 37 (.tmp 3) rfl rfl (fun w' h => h.1) (row1)) ?_)
          | (refine SeqT.take1 (v := ?_) (by first | assumption | trivial) (by kernel_rfl) (by decide +kernel) (by decide +kernel) (Or.inl ⟨by rfl, ?_⟩) ?_; rotate_left; focus (intro w' hb'; go_simp; with_reducible rfl))
          | (refine SeqT.take1 (v := ?_) (by first | assumption | trivial) (by kernel_rfl) (by decide +kernel) (by decide +kernel) (Or.inl ⟨by rfl, ?_⟩) ?_; rotate_left; focus (intro w' hb'; have d0 := (hb'.2.cell 3).trans s3V; go_simp; with_reducible rfl))
          | (refine SeqT.take1 (v := undef) (by first | assumption | trivial) (by kernel_rfl) (by decide +kernel) (by decide +kernel) (Or.inr ⟨by rfl, rfl⟩) ?_)); simp only [Act.put, List.setIfInBounds_toArray, List.set_cons_zero, List.set_cons_succ])
        refine SeqT.alone (by decide +kernel) (by rfl) (by decide) (fun K1 hK => ?_)
        go_simp
        go_at_call 62
        refine (rNumber_any (TU + 1) 8 V (by decide)).mono ?_
        rintro q w1 ⟨b1, d1, rfl, own1, S1⟩
        go_simp
        have iv1 := And.intro (pV.out w1 S1).x (pV.out w1 S1).s
        refine hK _ _ iv1 ?_
        clear hK K1
        (try simp only [Act.put, List.setIfInBounds_toArray, List.set_cons_zero, List.set_cons_succ])
        repeat ((first
          | (refine SeqT.take (v := ?_) (by first | assumption | trivial) (by kernel_rfl) (by decide +kernel) (by decide +kernel) (Or.inl ⟨by rfl, ?_⟩) ?_; rotate_left; focus (intro w' hb'; go_simp; with_reducible rfl))
          | (refine SeqT.take (v := undef) (by first | assumption | trivial) (by kernel_rfl) (by decide +kernel) (by decide +kernel) (Or.inr ⟨by rfl, rfl⟩) ?_)); simp only [Act.put, List.setIfInBounds_toArray, List.set_cons_zero, List.set_cons_succ])
        refine SeqT.alone (by decide +kernel) (by rfl) (by decide) (fun K1 hK => ?_)
        refine wp_append_ints (.tmp 74) (.tmp 75) 22 rfl V.heap.size 5 i0 (.int .u8 0) 1 Tryz.underlying22 hi hz0 hz1 hz2 rfl rfl own1 rfl (IV.keep S1) ?_ ?_ S1.size ?_
        · unfold maxLen; omega
        · omega
        intro v2 w2 own2 g2
        have S2 : Below V.heap.size V w2 := S1.grown g2 S1.size (fun q hq => (own1.lt q hq).1)
        have iv2 := And.intro (pV.out w2 S2).x (pV.out w2 S2).s
        refine hK _ _ iv2 ?_
        clear hK K1 g2 own1 iv1
        rw [← List.map_append, BeH.out] at own2
        obtain ⟨b2, d2, hv2⟩ := own_slice32 own2
        subst hv2
        have I2 := own_ints' own2
        (try simp only [Act.put, List.setIfInBounds_toArray, List.set_cons_zero, List.set_cons_succ])
        refine SeqT.alone (by decide +kernel) (by rfl) (by decide) (fun K1 hK => ?_)
        go_simp
        go_at_call 61
        refine (r19Bytes_any b2 (8 + n) d2 B' w2 I2 BbH.out (by omega)).mono ?_
        rintro q w3 ⟨b3, d3, rfl, own3, q3⟩
        go_simp
        have S3 := S2.trans (q3.mono S2.size)
        have iv3 := And.intro (pV.out w3 S3).x (pV.out w3 S3).s
        refine hK _ _ iv3 ?_
        clear hK K1 I2 own2 iv2 q3
        have cA := (pV.out w3 S3).append ok1H.out (by have := hTH.out; omega) 2 (own_ints' own3) (by rw [BfH.out]; omega) A2H.out
        (try simp only [Act.put, List.setIfInBounds_toArray, List.set_cons_zero, List.set_cons_succ])
        refine SeqT.alone (by decide +kernel) (by rfl) (by decide) (fun K1 hK => ?_)
        go_simp
        go_at_call 8
        refine cA.mono ?_
        rintro q w4 ⟨cs2, rfl, p4⟩
        go_simp
        have iv4 := And.intro p4.x p4.s
        refine hK _ _ iv4 ?_
        clear hK K1 own3 iv3 cA
        have row2 := p4.row
        have l2 := p4.ddc.l
        have o2 := p4.ddc.o
        (try simp only [Act.put, List.setIfInBounds_toArray, List.set_cons_zero, List.set_cons_succ])
        repeat ((first
          | (refine SeqT.take (v := ?_) (by first | assumption | trivial) (by kernel_rfl) (by decide +kernel) (by decide +kernel) (Or.inl ⟨by rfl, ?_⟩) ?_; rotate_left; focus (intro w' hb'; go_simp; with_reducible rfl))
          | (refine SeqT.take (v := undef) (by first | assumption | trivial) (by kernel_rfl) (by decide +kernel) (by decide +kernel) (Or.inr ⟨by rfl, rfl⟩) ?_)); simp only [Act.put, List.setIfInBounds_toArray, List.set_cons_zero, List.set_cons_succ])
        repeat ((first
          | (refine SeqT.free (v := ?_) (by first | assumption | trivial) (by kernel_rfl) (by decide +kernel) (by decide +kernel) (Or.inl ⟨by rfl, ?_⟩) ?_; rotate_left; focus (intro w' hb'; go_simp; with_reducible rfl))
          | (refine SeqT.free (v := undef) (by first | assumption | trivial) (by kernel_rfl) (by decide +kernel) (by decide +kernel) (Or.inr ⟨by rfl, rfl⟩) ?_)); simp only [Act.put, List.setIfInBounds_toArray, List.set_cons_zero, List.set_cons_succ])
        refine SeqT.last (by decide +kernel) (by rfl) (fun K1 hK => ?_)
        refine wp_store_part 37 (.tmp 3) _ rfl rfl rfl p4.x row2 (by rw [l2, l1]; decide) o2 (fun w5 b5 g5 => ?_)
        rw [overV_all _ _ (by rw [l2, l1])] at b5
        have p5 := p4.setx b5 g5
        refine hK _ _ ?_
        clear hK K1 iv4 p4 b5 g5
        (try simp only [Act.put])
        repeat ((first
          | (refine SeqS.k0 (v := ?_) ?_ ?_; rotate_left; focus (intro w' hb'; go_simp; with_reducible rfl))
          | (refine SeqS.u0 ?_)); simp only [Act.put, List.setIfInBounds_toArray, List.set_cons_zero, List.set_cons_succ])
        refine SeqS.done (by decide +kernel) ?_
        clear pV iv IV S1 S2 S3
        have hR := RH.out
        by_cases he2 : e2 = 0
        · rw [if_pos he2] at hR
          subst he2
          dsimp only at hR
          have cS := p5.sync ok2H.out (by have := hTH.out; omega) 2 A3H.out
          have x5 := p5.x
          clear p5
          go_wp2_with ((with_reducible refine wpList_load_blk rfl 37 (.tmp 3) rfl ?_ x5 rowDd l2 ?_); rfl)
          refine cS.mono ?_
          rintro q w6 ⟨cs3, rfl, p6⟩
          have l3 := p6.ddc.l
          have o3 := p6.ddc.o
          clear cS x5
          go_wp2_with ((with_reducible refine store_row rfl 37 (.tmp 3) _ rfl ?_ ?_ p6.x rowDd l3 l2 o3 ?_); rfl; rfl; intro w7 bx gx; refine RowKit.Hid.out ?_)
          refine Lib.hid ?_
          have p7 := p6.setx bx gx
          clear p6 bx gx
          by_cases he3 : e3 = 0
          · rw [if_neg (by omega)] at hR
            injection hR with hR1 hR2
            injection hR2 with hR2 hR3
            subst hR1; subst hR2; subst hR3; subst he3
            have k2 := (p7.s.cell 2).trans s2H.out
            have k3 := (p7.s.cell 3).trans s3H.out
            have f2 := p7.s.frozen 2
            have f3 := p7.s.frozen 3
            have k4 : w7.cell? ⟨G + 1, 4, none⟩ = some (.slice aa nn cc) := (p7.s.cell 4).trans (by rw [scH.out]; rfl)
            have f4 := p7.s.frozen 4
            have hz7 := p7.z.lt
            have p8 := p7.sets (p7.s.set 2 (.int .i64 2)) (grown_setCell _ _ _ _)
            have p9 := p8.sets (p8.s.set 3 (.int .u64 (TU + 1))) (grown_setCell _ _ _ _)
            obtain ⟨U2, hU2⟩ : ∃ U, (w7.setCell ⟨G + 1, 2, none⟩ (.int .i64 2)).setCell ⟨G + 1, 3, none⟩ (.int .u64 (TU + 1)) = U := ⟨_, rfl⟩
            have sz : U2.heap.size = w7.heap.size := by rw [← hU2]; simp
            rw [hU2] at p9
            have UH := Lib.hid hU2
            have szH := Lib.hid sz
            have q3 : Below U2.heap.size U2 (U2.alloc (.cells #[] 5)) := below1 _ _
            have own0 : (U2.alloc (.cells #[] 5)).ownsRow U2.heap.size 5 1 (.slice (some ⟨U2.heap.size, 0, none⟩) 0 0) 0 [] := World.ownsRow_made U2 #[] 0 (Nat.le_refl _) (Nat.zero_le _) rfl
            have I9 := (IH.out.keep p9.b).keep q3
            have q3s := q3.size
            rw [sz] at own0 q3s
            clear hU2 sz p7 p8 row1 l1 row2 l2 o2 l3 o3 k4 f4
            go_wp2_with (at_builtin; rw [UH.out]; refine wpList_append_ints rfl (.tmp 103) (.tmp 104) 22 rfl w7.heap.size 5 i0 (.int .u8 0) 1 Tryz.underlying22 hi hz0 hz1 hz2 rfl rfl own0 rfl I9 ?_ ?_ q3s ?_; (have := hnH.out; unfold maxLen; omega); (have := hnH.out; omega); intro v10 w10 own10 g10; refine RowKit.Hid.out ?_)
            refine Lib.hid ?_
            rw [List.nil_append, Nat.zero_add] at own10
            have q10 : Below U2.heap.size U2 w10 := q3.grown g10 q3.size (fun k hk => by injection hk with hk; rw [← hk, szH.out]; exact Nat.le_refl _)
            have p10 := p9.keep q10
            obtain ⟨b10, d10, hv10⟩ := own_slice32 own10
            subst hv10
            have hlo : ∀ y, b10 = some y → w7.heap.size ≤ y.block := fun y hy => (own10.lt y.block (by rw [hy]; rfl)).1
            have I10 := own_ints' own10
            have k4 : w10.cell? ⟨G + 1, 4, none⟩ = some (.slice aa nn cc) := (p10.s.cell 4).trans (by rw [scH.out]; rfl)
            have f4 := p10.s.frozen 4
            have p := p10.sets (p10.s.set 4 (.slice b10 n d10)) (grown_setCell _ _ _ _)
            have I11 : Ints .u8 (w10.setCell ⟨G + 1, 4, none⟩ (.slice b10 n d10)) b10 n d10 xs := ints_from (B := G + 4) I10 (fun y hy _ => by have := hlo y hy; omega) (fun b h1 h2 => (grown_setCell w10 (G + 1) 4 (.slice b10 n d10)).block b h2 (fun e => by injection e with e; omega))
            obtain ⟨SN, hSN⟩ : ∃ C, ((SC.set 2 (.int .i64 2)).set 3 (.int .u64 (TU + 1))).set 4 (.slice b10 n d10) = C := ⟨_, rfl⟩
            rw [hSN] at p
            have hS2 : SN = slC ⟨s.a, s.b, 2, s.turn + 1, xs⟩ b10 n d10 := by rw [← hSN, scH.out, ← TUH.out]; rfl
            have lS : SN.length = 5 := by rw [hS2]; rfl
            have oS : ∀ v ∈ SN, v.oneCell' = true := by rw [hS2]; exact slC_one _ _ _ _
            have rowS : IsRow Tryz.prog 46 SN.length := by rw [lS]; exact rowSl
            have hBG : w.heap.size ≤ G := by rw [hGH.out]; exact Nat.le_refl _
            clear q3 q3s own0 I9 own10 g10 q10 p9 p10 I10 hSN k2 k3 f2 f3
            obtain ⟨cs1, rfl⟩ : ∃ x, x = cs3 := ⟨_, rfl⟩
            obtain ⟨SC, rfl⟩ : ∃ x, x = SN := ⟨_, rfl⟩
            have p' := p.keep (Below.refl _ _).drew
            have row1 := p.row
            have l1 := p.ddc.l
            have o1 := p.ddc.o
            go_wp2_with fail
            refine region_seqS (fun w' => Blk w' G 37 cs1 ∧ Blk w' (G + 1) 46 SC) (by kernel_rfl) ⟨p'.x, p'.s⟩ ?_
            have iv := And.intro p'.x p'.s
            simp only [pairs, Nat.reduceAdd]
            repeat ((first
              | (refine SeqS.y0 (v := .agg (cs1).toArray) (yields_blk (by rfl) 37 (.tmp 3) rfl rfl (fun w' h => h.1) (row1)) ?_)
              | (refine SeqS.y0 (v := .agg (SC).toArray) (yields_blk (by rfl) 46 (.tmp 4) rfl rfl (fun w' h => h.2) (rowS)) ?_)
              | (refine SeqS.k0 (v := ?_) ?_ ?_; rotate_left; focus (intro w' hb'; go_simp; with_reducible rfl))
              | (refine SeqS.u0 ?_)); simp only [Act.put, List.setIfInBounds_toArray, List.set_cons_zero, List.set_cons_succ])
            refine SeqS.alone (by decide +kernel) (by rfl) (fun K1 hK => ?_)
            refine wp_store_part 37 (.tmp 6) _ rfl rfl rfl p'.y row1 (by rw [l1, hzl]; decide) o1 (fun wa ba ga => ?_)
            rw [overV_all _ _ (by rw [l1, hzl])] at ba
            have pa := p'.sety ba ga
            refine hK _ _ ⟨pa.x, pa.s⟩ ?_
            clear hK K1
            have iv1 := And.intro pa.x pa.s
            repeat ((first
              | (refine SeqS.y0 (v := .agg (SC).toArray) (yields_blk (by rfl) 46 (.tmp 4) rfl rfl (fun w' h => h.2) (rowS)) ?_)
              | (refine SeqS.k0 (v := ?_) ?_ ?_; rotate_left; focus (intro w' hb'; go_simp; with_reducible rfl))
              | (refine SeqS.u0 ?_)); simp only [Act.put, List.setIfInBounds_toArray, List.set_cons_zero, List.set_cons_succ])
            refine SeqS.alone (by decide +kernel) (by rfl) (fun K2 hK => ?_)
            refine wp_store_part 46 (.tmp 7) _ rfl rfl rfl pa.z rowS (by rw [lS, hzs]; decide) oS (fun wb bb gb => ?_)
            rw [overV_all _ _ (by rw [lS, hzs])] at bb
            have pb := pa.setz bb gb
            refine hK _ _ ⟨pb.x, pb.s⟩ ?_
            clear hK K2
            have iv2 := And.intro pb.x pb.s
            repeat ((first
              | (refine SeqS.k0 (v := ?_) ?_ ?_; rotate_left; focus (intro w' hb'; go_simp; with_reducible rfl))
              | (refine SeqS.u0 ?_)); simp only [Act.put, List.setIfInBounds_toArray, List.set_cons_zero, List.set_cons_succ])
            refine SeqS.done (by decide +kernel) ?_
            have fin := pb.done
            have yb := pb.y
            have zb := pb.z
            have fs := fun (b : Nat) (h1 : G + 4 ≤ b) h2 => (gb.block b (Nat.lt_of_lt_of_le h2 ga.size) (fun e => by injection e with e; omega)).trans (ga.block b h2 (fun e => by injection e with e; omega))
            have sl : SlAt wb (fun b => Q b ∨ w.heap.size ≤ b) SC ⟨s.a, s.b, 2, s.turn + 1, xs⟩ := ⟨_, _, _, hS2, ints_from (B := G + 4) I11 (fun y hy _ => by have := hlo y hy; omega) fs, fun y hy _ => .inr (by have := hlo y hy; omega)⟩
            clear iv iv1 iv2 p p' pa ba ga bb gb pb o1 l1
            go_wp2
            refine bodyPost_ret (results_bbt21 rfl rfl yb row1 rfl zb rowS) rfl ?_
            exact ⟨cs1, SC, rfl, fin.1, sl, fin.2⟩
          · rw [if_pos he3] at hR
            injection hR with hR1 hR2
            injection hR2 with hR2 hR3
            subst hR1; subst hR2; subst hR3
            have p := p7
            obtain ⟨cs1, rfl⟩ : ∃ x, x = cs3 := ⟨_, rfl⟩
            clear p7 row1 l1 row2 l2 o2 l3 o3
            have p' := p.keep (Below.refl _ _).drew
            have row1 := p.row
            have l1 := p.ddc.l
            have o1 := p.ddc.o
            go_wp2_with fail
            refine region_seqS (fun w' => Blk w' G 37 cs1 ∧ Blk w' (G + 1) 46 SC) (by kernel_rfl) ⟨p'.x, p'.s⟩ ?_
            have iv := And.intro p'.x p'.s
            simp only [pairs, Nat.reduceAdd]
            repeat ((first
              | (refine SeqS.y0 (v := .agg (cs1).toArray) (yields_blk (by rfl) 37 (.tmp 3) rfl rfl (fun w' h => h.1) (row1)) ?_)
              | (refine SeqS.y0 (v := .agg (SC).toArray) (yields_blk (by rfl) 46 (.tmp 4) rfl rfl (fun w' h => h.2) (rowS)) ?_)
              | (refine SeqS.k0 (v := ?_) ?_ ?_; rotate_left; focus (intro w' hb'; go_simp; with_reducible rfl))
              | (refine SeqS.u0 ?_)); simp only [Act.put, List.setIfInBounds_toArray, List.set_cons_zero, List.set_cons_succ])
            refine SeqS.alone (by decide +kernel) (by rfl) (fun K1 hK => ?_)
            refine wp_store_part 37 (.tmp 6) _ rfl rfl rfl p'.y row1 (by rw [l1, hzl]; decide) o1 (fun wa ba ga => ?_)
            rw [overV_all _ _ (by rw [l1, hzl])] at ba
            have pa := p'.sety ba ga
            refine hK _ _ ⟨pa.x, pa.s⟩ ?_
            clear hK K1
            have iv1 := And.intro pa.x pa.s
            repeat ((first
              | (refine SeqS.y0 (v := .agg (SC).toArray) (yields_blk (by rfl) 46 (.tmp 4) rfl rfl (fun w' h => h.2) (rowS)) ?_)
              | (refine SeqS.k0 (v := ?_) ?_ ?_; rotate_left; focus (intro w' hb'; go_simp; with_reducible rfl))
              | (refine SeqS.u0 ?_)); simp only [Act.put, List.setIfInBounds_toArray, List.set_cons_zero, List.set_cons_succ])
            refine SeqS.alone (by decide +kernel) (by rfl) (fun K2 hK => ?_)
            refine wp_store_part 46 (.tmp 7) _ rfl rfl rfl pa.z rowS (by rw [lS, hzs]; decide) oS (fun wb bb gb => ?_)
            rw [overV_all _ _ (by rw [lS, hzs])] at bb
            have pb := pa.setz bb gb
            refine hK _ _ ⟨pb.x, pb.s⟩ ?_
            clear hK K2
            have iv2 := And.intro pb.x pb.s
            repeat ((first
              | (refine SeqS.k0 (v := ?_) ?_ ?_; rotate_left; focus (intro w' hb'; go_simp; with_reducible rfl))
              | (refine SeqS.u0 ?_)); simp only [Act.put, List.setIfInBounds_toArray, List.set_cons_zero, List.set_cons_succ])
            refine SeqS.done (by decide +kernel) ?_
            have fin := pb.done
            have yb := pb.y
            have zb := pb.z
            have sl := SLH.out wb fin.2
            clear iv iv1 iv2 p p' pa ba ga bb gb pb o1 l1
            go_wp2
            refine bodyPost_ret (results_bbt21 rfl rfl yb row1 rfl zb rowS) rfl ?_
            exact ⟨cs1, SC, rfl, fin.1, sl, fin.2⟩
        · rw [if_neg he2] at hR
          dsimp only at hR
          rw [if_pos he2] at hR
          injection hR with hR1 hR2
          injection hR2 with hR2 hR3
          subst hR1; subst hR2; subst hR3
          have p := p5
          obtain ⟨cs1, rfl⟩ : ∃ x, x = cs2 := ⟨_, rfl⟩
          clear p5 row1 l1 row2 l2 o2
          have p' := p.keep (Below.refl _ _).drew
          have row1 := p.row
          have l1 := p.ddc.l
          have o1 := p.ddc.o
          go_wp2_with fail
          refine region_seqS (fun w' => Blk w' G 37 cs1 ∧ Blk w' (G + 1) 46 SC) (by kernel_rfl) ⟨p'.x, p'.s⟩ ?_
          have iv := And.intro p'.x p'.s
          simp only [pairs, Nat.reduceAdd]
          repeat ((first
            | (refine SeqS.y0 (v := .agg (cs1).toArray) (yields_blk (by rfl) 37 (.tmp 3) rfl rfl (fun w' h => h.1) (row1)) ?_)
            | (refine SeqS.y0 (v := .agg (SC).toArray) (yields_blk (by rfl) 46 (.tmp 4) rfl rfl (fun w' h => h.2) (rowS)) ?_)
            | (refine SeqS.k0 (v := ?_) ?_ ?_; rotate_left; focus (intro w' hb'; go_simp; with_reducible rfl))
            | (refine SeqS.u0 ?_)); simp only [Act.put, List.setIfInBounds_toArray, List.set_cons_zero, List.set_cons_succ])
          refine SeqS.alone (by decide +kernel) (by rfl) (fun K1 hK => ?_)
          refine wp_store_part 37 (.tmp 6) _ rfl rfl rfl p'.y row1 (by rw [l1, hzl]; decide) o1 (fun wa ba ga => ?_)
          rw [overV_all _ _ (by rw [l1, hzl])] at ba
          have pa := p'.sety ba ga
          refine hK _ _ ⟨pa.x, pa.s⟩ ?_
          clear hK K1
          have iv1 := And.intro pa.x pa.s
          repeat ((first
            | (refine SeqS.y0 (v := .agg (SC).toArray) (yields_blk (by rfl) 46 (.tmp 4) rfl rfl (fun w' h => h.2) (rowS)) ?_)
            | (refine SeqS.k0 (v := ?_) ?_ ?_; rotate_left; focus (intro w' hb'; go_simp; with_reducible rfl))
            | (refine SeqS.u0 ?_)); simp only [Act.put, List.setIfInBounds_toArray, List.set_cons_zero, List.set_cons_succ])
          refine SeqS.alone (by decide +kernel) (by rfl) (fun K2 hK => ?_)
          refine wp_store_part 46 (.tmp 7) _ rfl rfl rfl pa.z rowS (by rw [lS, hzs]; decide) oS (fun wb bb gb => ?_)
          rw [overV_all _ _ (by rw [lS, hzs])] at bb
          have pb := pa.setz bb gb
          refine hK _ _ ⟨pb.x, pb.s⟩ ?_
          clear hK K2
          have iv2 := And.intro pb.x pb.s
          repeat ((first
            | (refine SeqS.k0 (v := ?_) ?_ ?_; rotate_left; focus (intro w' hb'; go_simp; with_reducible rfl))
            | (refine SeqS.u0 ?_)); simp only [Act.put, List.setIfInBounds_toArray, List.set_cons_zero, List.set_cons_succ])
          refine SeqS.done (by decide +kernel) ?_
          have fin := pb.done
          have yb := pb.y
          have zb := pb.z
          have sl := SLH.out wb fin.2
          clear iv iv1 iv2 p p' pa ba ga bb gb pb o1 l1
          go_wp2
          refine bodyPost_ret (results_bbt21 rfl rfl yb row1 rfl zb rowS) rfl ?_
          exact ⟨cs1, SC, rfl, fin.1, sl, fin.2⟩
      · rw [if_pos he1] at hR
        injection hR with hR1 hR2
        injection hR2 with hR2 hR3
        subst hR1; subst hR2; subst hR3
        have p := p1
        clear p1
        have p' := p.keep (Below.refl _ _).drew
        have row1 := p.row
        have l1 := p.ddc.l
        have o1 := p.ddc.o
        go_wp2_with fail
        refine region_seqS (fun w' => Blk w' G 37 cs1 ∧ Blk w' (G + 1) 46 SC) (by kernel_rfl) ⟨p'.x, p'.s⟩ ?_
        have iv := And.intro p'.x p'.s
        simp only [pairs, Nat.reduceAdd]
        repeat ((first
          | (refine SeqS.y0 (v := .agg (cs1).toArray) (yields_blk (by rfl) 37 (.tmp 3) rfl rfl (fun w' h => h.1) (row1)) ?_)
          | (refine SeqS.y0 (v := .agg (SC).toArray) (yields_blk (by rfl) 46 (.tmp 4) rfl rfl (fun w' h => h.2) (rowS)) ?_)
          | (refine SeqS.k0 (v := ?_) ?_ ?_; rotate_left; focus (intro w' hb'; go_simp; with_reducible rfl))
          | (refine SeqS.u0 ?_)); simp only [Act.put, List.setIfInBounds_toArray, List.set_cons_zero, List.set_cons_succ])
        refine SeqS.alone (by decide +kernel) (by rfl) (fun K1 hK => ?_)
        refine wp_store_part 37 (.tmp 6) _ rfl rfl rfl p'.y row1 (by rw [l1, hzl]; decide) o1 (fun wa ba ga => ?_)
        rw [overV_all _ _ (by rw [l1, hzl])] at ba
        have pa := p'.sety ba ga
        refine hK _ _ ⟨pa.x, pa.s⟩ ?_
        clear hK K1
        have iv1 := And.intro pa.x pa.s
        repeat ((first
          | (refine SeqS.y0 (v := .agg (SC).toArray) (yields_blk (by rfl) 46 (.tmp 4) rfl rfl (fun w' h => h.2) (rowS)) ?_)
          | (refine SeqS.k0 (v := ?_) ?_ ?_; rotate_left; focus (intro w' hb'; go_simp; with_reducible rfl))
          | (refine SeqS.u0 ?_)); simp only [Act.put, List.setIfInBounds_toArray, List.set_cons_zero, List.set_cons_succ])
        refine SeqS.alone (by decide +kernel) (by rfl) (fun K2 hK => ?_)
        refine wp_store_part 46 (.tmp 7) _ rfl rfl rfl pa.z rowS (by rw [lS, hzs]; decide) oS (fun wb bb gb => ?_)
        rw [overV_all _ _ (by rw [lS, hzs])] at bb
        have pb := pa.setz bb gb
        refine hK _ _ ⟨pb.x, pb.s⟩ ?_
        clear hK K2
        have iv2 := And.intro pb.x pb.s
        repeat ((first
          | (refine SeqS.k0 (v := ?_) ?_ ?_; rotate_left; focus (intro w' hb'; go_simp; with_reducible rfl))
          | (refine SeqS.u0 ?_)); simp only [Act.put, List.setIfInBounds_toArray, List.set_cons_zero, List.set_cons_succ])
        refine SeqS.done (by decide +kernel) ?_
        have fin := pb.done
        have yb := pb.y
        have zb := pb.z
        have sl := SLH.out wb fin.2
        clear iv iv1 iv2 p p' pa ba ga bb gb pb o1 l1
        go_wp2
        refine bodyPost_ret (results_bbt21 rfl rfl yb row1 rfl zb rowS) rfl ?_
        exact ⟨cs1, SC, rfl, fin.1, sl, fin.2⟩
    · rw [if_neg hec] at hcl
      injection hcl with hc1 hc2
      subst hc1; subst hc2
      rw [if_pos hec] at hR
      injection hR with hR1 hR2
      injection hR2 with hR2 hR3
      subst hR1; subst hR2; subst hR3
      have p := pb
      obtain ⟨cs1, rfl⟩ : ∃ x, x = csa := ⟨_, rfl⟩
      clear pb la oa
      have p' := p.keep (Below.refl _ _).drew
      have row1 := p.row
      have l1 := p.ddc.l
      have o1 := p.ddc.o
      go_wp2_with fail
      refine region_seqS (fun w' => Blk w' G 37 cs1 ∧ Blk w' (G + 1) 46 SC) (by kernel_rfl) ⟨p'.x, p'.s⟩ ?_
      have iv := And.intro p'.x p'.s
      simp only [pairs, Nat.reduceAdd]
      repeat ((first
        | (refine SeqS.y0 (v := .agg (cs1).toArray) (yields_blk (by rfl) 37 (.tmp 3) rfl rfl (fun w' h => h.1) (row1)) ?_)
        | (refine SeqS.y0 (v := .agg (SC).toArray) (yields_blk (by rfl) 46 (.tmp 4) rfl rfl (fun w' h => h.2) (rowS)) ?_)
        | (refine SeqS.k0 (v := ?_) ?_ ?_; rotate_left; focus (intro w' hb'; go_simp; with_reducible rfl))
        | (refine SeqS.u0 ?_)); simp only [Act.put, List.setIfInBounds_toArray, List.set_cons_zero, List.set_cons_succ])
      refine SeqS.alone (by decide +kernel) (by rfl) (fun K1 hK => ?_)
      refine wp_store_part 37 (.tmp 6) _ rfl rfl rfl p'.y row1 (by rw [l1, hzl]; decide) o1 (fun wa ba ga => ?_)
      rw [overV_all _ _ (by rw [l1, hzl])] at ba
      have pa := p'.sety ba ga
      refine hK _ _ ⟨pa.x, pa.s⟩ ?_
      clear hK K1
      have iv1 := And.intro pa.x pa.s
      repeat ((first
        | (refine SeqS.y0 (v := .agg (SC).toArray) (yields_blk (by rfl) 46 (.tmp 4) rfl rfl (fun w' h => h.2) (rowS)) ?_)
        | (refine SeqS.k0 (v := ?_) ?_ ?_; rotate_left; focus (intro w' hb'; go_simp; with_reducible rfl))
        | (refine SeqS.u0 ?_)); simp only [Act.put, List.setIfInBounds_toArray, List.set_cons_zero, List.set_cons_succ])
      refine SeqS.alone (by decide +kernel) (by rfl) (fun K2 hK => ?_)
      refine wp_store_part 46 (.tmp 7) _ rfl rfl rfl pa.z rowS (by rw [lS, hzs]; decide) oS (fun wb bb gb => ?_)
      rw [overV_all _ _ (by rw [lS, hzs])] at bb
      have pb := pa.setz bb gb
      refine hK _ _ ⟨pb.x, pb.s⟩ ?_
      clear hK K2
      have iv2 := And.intro pb.x pb.s
      repeat ((first
        | (refine SeqS.k0 (v := ?_) ?_ ?_; rotate_left; focus (intro w' hb'; go_simp; with_reducible rfl))
        | (refine SeqS.u0 ?_)); simp only [Act.put, List.setIfInBounds_toArray, List.set_cons_zero, List.set_cons_succ])
      refine SeqS.done (by decide +kernel) ?_
      have fin := pb.done
      have yb := pb.y
      have zb := pb.z
      have sl := SLH.out wb fin.2
      clear iv iv1 iv2 p p' pa ba ga bb gb pb o1 l1
      go_wp2
      refine bodyPost_ret (results_bbt21 rfl rfl yb row1 rfl zb rowS) rfl ?_
      exact ⟨cs1, SC, rfl, fin.1, sl, fin.2⟩
end Go.Proofs.YtcohbhimhacedaaGreatDoor

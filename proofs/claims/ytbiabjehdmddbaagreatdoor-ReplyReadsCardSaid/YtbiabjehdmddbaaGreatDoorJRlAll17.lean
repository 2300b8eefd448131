/-
  Texts of stages that were proved on their own, joined: RlParse, RlAlive. Each begins with its own words.
-/
import Derived.Test.YtbiabjehdmddbaaGreatDoorJRlAll15
import Derived.Test.YtbiabjehdmddbaaGreatDoorJRlAll16

/-
  What reply's Parse (layer 15) comes to. New memory alone is written. Conditions: at most a thousand signs; the library's table of powers of ten as its text lays it.
-/
namespace Go.Proofs.YtbiabjehdmddbaaGreatDoor
open Go.RowKit

theorem rlSplit_any (s : ByteArray) (w : World) (hs : s.size ≤ 1000) :
    Calls Tryz.prog 32 #[.string s, .string { data := #[32] }, .int .i64 7] w fun q w' => ∃ c xs, q = .returned (.slice (some ⟨w.heap.size, 0, none⟩) (pieces s).length c) ∧ (pieces s).length ≤ c ∧ Blk w' w.heap.size 9 xs ∧ (∀ j, j < (pieces s).length → xs[j]? = some (.string ((pieces s).getD j ByteArray.empty))) ∧ Below w.heap.size w w' := by
  refine (str_splitN s 32 7 w (by omega) (by decide) (by decide)).mono ?_
  rintro q w' ⟨rfl, rfl⟩
  refine ⟨min 7 (s.size + 1), (pieces s).map Value.string ++ List.replicate (min 7 (s.size + 1) - (pieces s).length) (Value.string ByteArray.empty), rfl, (pieces_len s).2, Blk.new w _ _, fun j hj => ?_, below1 w _⟩
  rw [List.getElem?_append_left (by rw [List.length_map]; exact hj), List.getElem?_map, List.getElem?_eq_getElem hj, List.getD_eq_getElem?_getD, List.getElem?_eq_getElem hj]
  rfl
/-- Five numbers of which the first j are told. -/
def arP (f : Nat → Int) (j : Nat) : List Value := arC (if 0 < j then f 0 else 0) (if 1 < j then f 1 else 0) (if 2 < j then f 2 else 0) (if 3 < j then f 3 else 0) (if 4 < j then f 4 else 0)
theorem arP_set (f : Nat → Int) (j : Nat) (h : j < 5) : (arP f j).set j (.int .u32 (f j)) = arP f (j + 1) := by
  match j, h with
  | 0, _ => rfl
  | 1, _ => rfl
  | 2, _ => rfl
  | 3, _ => rfl
  | 4, _ => rfl
theorem arP_get (f : Nat → Int) (j : Nat) (h : j < 5) : ∃ v, (arP f j)[j]? = some v := by
  rw [List.getElem?_eq_getElem (show j < (arP f j).length from h)]
  exact ⟨_, rfl⟩
def numP (ps : List ByteArray) (i : Nat) : Int := numW (numsOf (ps.getD (i + 2) ByteArray.empty))
theorem getD_nums (ps : List ByteArray) (i : Nat) : (ps.map numsOf).getD i [] = numsOf (ps.getD i ByteArray.empty) := by
  rw [List.getD_eq_getElem?_getD, List.getElem?_map, List.getD_eq_getElem?_getD]
  cases ps[i]? with
  | none => rfl
  | some x => rfl
theorem arP_cand (ps : List ByteArray) (N : Nat) (h : ps.length = N + 2) : arP (numP ps) N = arV (candW (ps.map numsOf)) := by
  have hi : ∀ i : Nat, (if i < N then numP ps i else 0) = (if i + 2 < (ps.map numsOf).length then numW ((ps.map numsOf).getD (i + 2) []) else 0) := fun i => by
    rw [List.length_map, h, getD_nums]
    by_cases h1 : i < N
    · rw [if_pos h1, if_pos (by omega)]
      rfl
    · rw [if_neg h1, if_neg (by omega)]
  have h0 := hi 0
  have h1 := hi 1
  have h2 := hi 2
  have h3 := hi 3
  have h4 := hi 4
  unfold arP
  rw [h0, h1, h2, h3, h4]
  rfl
theorem size_str : (Tryz.prog.info? 9).map (·.size) = some 1 := by kernel_rfl

set_option maxRecDepth 100000 in
set_option maxHeartbeats 4000000 in
theorem rlParse_any (s : ByteArray) (w : World) (hG : Pow12 w) (hs : s.size ≤ 1000) :
    Calls Tryz.prog 12 #[.string s] w fun q w' => q = .returned (.tuple #[.agg (rpV (parseR (numsOf s)).1).toArray, .int .i64 (parseR (numsOf s)).2]) ∧ Below w.heap.size w w' := by
  have hsp := fun w' => rlSplit_any s w' hs
  have hfew := parse_few (s := s)
  have hcp := cand_parse s
  have hpl := pieces_len s
  have hpz := pieces_sizes s
  obtain ⟨ps, hps⟩ : ∃ ps, pieces s = ps := ⟨_, rfl⟩
  rw [hps] at hsp hfew hcp hpl hpz
  have hcand := arP_cand ps
  have hqs := str_eqB' s (lineR_ok (candW (ps.map numsOf)))
  have hck := getD_nums ps 0
  have hce := getD_nums ps 1
  obtain ⟨cr, hcr⟩ : ∃ r, candW (ps.map numsOf) = r := ⟨_, rfl⟩
  have hco : RplOk cr := by rw [← hcr]; exact candW_ok _
  have hkk : (placeL (numsOf (ps.getD 0 ByteArray.empty)) kindsL 0).1 = cr.kind := by rw [← hck, ← hcr]; rfl
  have hee : (placeL (numsOf (ps.getD 1 ByteArray.empty)) errsL 0).1 = cr.err := by rw [← hce, ← hcr]; rfl
  rw [hcr] at hcp hcand hqs
  obtain ⟨R, hR⟩ : ∃ R, parseR (numsOf s) = R := ⟨_, rfl⟩
  rw [hR] at hfew hcp ⊢
  have hne : 2 ≤ ps.length → s ≠ ByteArray.empty := fun h e => by
    rw [e] at hpl
    have : (ByteArray.empty).size = 0 := rfl
    omega
  have hK := fun w' => rlKindOf_any (ps.getD 0 ByteArray.empty) w'
  have hE := fun w' => rlErrOf_any (ps.getD 1 ByteArray.empty) w'
  rw [hkk] at hK
  rw [hee] at hE
  have hN := fun j w' (h : j < ps.length) => hNumOf_any (ps.getD j ByteArray.empty) 4294967295 w' (by have := hpz _ (show ps.getD j ByteArray.empty ∈ ps by rw [List.getD_eq_getElem?_getD, List.getElem?_eq_getElem h]; exact List.getElem_mem h); omega) (by decide)
  have hO := fun w' => rlOf_any cr w'
  have hGH := Lib.hid (And.intro hG hG.le)
  have hLi := Lib.hid (fun w' (h : Below w.heap.size w w') => rlLine_any cr w' (hG.keep h hG.le) hco)
  have hz0 := Blk.new w 26 (rpC 0 0 0 0 0 0 0)
  have hb0 := below1 w (.cells (rpC 0 0 0 0 0 0 0).toArray 26)
  obtain ⟨W, hW⟩ : ∃ W, w.alloc (.cells (rpC 0 0 0 0 0 0 0).toArray 26) = W := ⟨_, rfl⟩
  obtain ⟨G, hGe⟩ : ∃ G, w.heap.size = G := ⟨_, rfl⟩
  rw [hW] at hz0 hb0
  rw [hGe] at hz0
  have gH := Lib.hid hGe
  have hMx : ps.length ≤ 7 := by omega
  replace hsp := Lib.hid hsp
  replace hK := Lib.hid hK
  replace hE := Lib.hid hE
  replace hN := Lib.hid hN
  replace hO := Lib.hid hO
  have hbt := built_rp0
  have hqsH := Lib.hid hqs
  have hcpH := Lib.hid hcp
  clear hG hs hps hpl hpz hck hce hcr hkk hee hR hqs hcp
  go_enter Tryz.func12, Tryz.ntmps12
  go_wp2_with ((with_reducible refine wpList_alloc_blk rfl 26 rfl zeroRp ?_); refine RowKit.Hid.out ?_)
  refine Lib.hid ?_
  try simp only [Act.put, List.setIfInBounds_toArray, List.set_cons_zero, List.set_cons_succ]
  try rw [hW]
  try rw [hGe]
  clear hW hGe
  go_wp2_with fail
  refine (hsp.out W).mono ?_
  rintro q w1 ⟨c, xs, rfl, hMc, hx, hxc, b1⟩
  have hz1 := hz0.keep b1 hz0.lt
  have hB1 := hb0.trans (b1.mono hb0.size)
  have hGg : G < W.heap.size := hz0.lt
  obtain ⟨g, hg⟩ : ∃ g, W.heap.size = g := ⟨_, rfl⟩
  rw [hg] at hx hGg ⊢
  clear b1 hz0 hb0 hsp hg
  obtain ⟨M, hM⟩ : ∃ M, ps.length = M := ⟨_, rfl⟩
  rw [hM] at hMc hxc hfew hMx hne hN ⊢
  by_cases hM2 : M < 2
  · obtain rfl := hfew hM2
    have hMi : (M : Int) < 2 := by omega
    clear hfew hM2 hMx
    go_wp2_with ((with_reducible refine build_row rfl 26 #[] rfl (cells := (rpC 0 0 0 0 0 0 0).toArray) ?_ ?_); (refine Eq.trans (congrArg _ ?_) hbt; kernel_rfl); refine RowKit.Hid.out ?_)
    refine Lib.hid ?_
    try simp only [Act.put, List.setIfInBounds_toArray, List.set_cons_zero, List.set_cons_succ]
    refine store_row rfl 26 (.tmp 2) (.tmp 20) rfl rfl rfl hz1 rowRp rfl rfl (rpC_one _ _ _ _ _ _ _) ?_
    intro w2 hz2 hg2
    have hr2 : IsRow Tryz.prog 26 (rpC 0 0 0 0 0 0 0).length := rowRp
    go_wp2_with fail
    refine bodyPost_ret (results_blk_tmp rfl rfl hz2 hr2) rfl ?_
    exact ⟨rfl, hB1.grown hg2 hB1.size (fun q hq => by injection hq with hq; have := gH.out; omega)⟩
  obtain ⟨N, rfl⟩ : ∃ N, M = N + 2 := ⟨M - 2, by omega⟩
  have hMi : ¬ ((N + 2 : Nat) : Int) < 2 := by omega
  have hNx : (N : Int) ≤ 5 := by omega
  replace hcand := hcand N hM
  replace hne := Lib.hid (hne (by omega))
  have hmH := Lib.hid hMx
  have hMcH := Lib.hid hMc
  have hxcH := Lib.hid hxc
  have c0 := (hx.cell 0).trans (hxc 0 (by omega))
  clear hfew hM2 hMx hM hxc hMc
  go_wp2_with fail
  refine (hK.out w1).mono ?_
  rintro q w2 ⟨rfl, b2⟩
  have hx2 := hx.keep b2 hx.lt
  have hz2 := hz1.keep b2 hz1.lt
  have hB2 := hB1.trans (b2.mono hB1.size)
  have c1 := (hx2.cell 1).trans (hxcH.out 1 (by omega))
  clear hx hz1 hB1 b2 c0 hK
  go_wp2_with fail
  refine (hE.out w2).mono ?_
  rintro q w3 ⟨rfl, b3⟩
  have hx3 := hx2.keep b3 hx2.lt
  have hz3 := hz2.keep b3 hz2.lt
  have hB3 := hB2.trans (b3.mono hB2.size)
  clear hx2 hz2 hB2 b3 c1 hE
  have hxV := hx3.alloc (.cells (arC 0 0 0 0 0).toArray 42)
  have hzV := hz3.alloc (.cells (arC 0 0 0 0 0).toArray 42)
  have hBV := hB3.alloc hB3.size (.cells (arC 0 0 0 0 0).toArray 42)
  have hAV := Blk.new w3 42 (arC 0 0 0 0 0)
  have hgA : g < w3.heap.size := hx3.lt
  obtain ⟨V, hV⟩ : ∃ W, w3.alloc (.cells (arC 0 0 0 0 0).toArray 42) = W := ⟨_, rfl⟩
  obtain ⟨A, hAe⟩ : ∃ G, w3.heap.size = G := ⟨_, rfl⟩
  rw [hV] at hxV hzV hBV hAV
  rw [hAe] at hAV hgA
  clear hx3 hz3 hB3
  go_wp2_with (first
    | ((with_reducible refine wpList_alloc_blk rfl 42 rfl zeroAr ?_); refine RowKit.Hid.out ?_))
  refine Lib.hid ?_
  try simp only [Act.put, List.setIfInBounds_toArray, List.set_cons_zero, List.set_cons_succ]
  try rw [hV]
  try rw [hAe]
  clear hV hAe
  go_wp2_with ((with_reducible refine wpList_cut rfl 47 9 (.tmp 35) _ rfl Tryz.underlying47 size_str (A := some ⟨g, 0, none⟩) (m := N + 2) (c := c) ?_ (k := .i64) (l := 2) ?_ (Nat.le_add_left 2 N) ?_); rfl; rfl; refine RowKit.Hid.out ?_)
  refine Lib.hid ?_
  obtain ⟨ca, hca⟩ : ∃ a, cutAddr (some ⟨g, 0, none⟩) c 2 = a := ⟨_, rfl⟩
  rw [hca]
  try rw [Nat.add_sub_cancel]
  have hcaH := Lib.hid hca
  clear hca
  go_wp2_with fail
  go_loopw [38] (fun i wr => ∃ j : Nat, j ≤ N ∧ i = .int .i64 j ∧ Blk wr A 42 (arP (numP ps) j) ∧ V.grownBy wr (some A)) (fun i _ => N - (intOf i).toNat)
  case atStart => exact ⟨0, Nat.zero_le _, rfl, hAV, grown_refl _ _⟩
  case round =>
    clear hAV
    obtain ⟨j, hj, rfl, hA, hgr⟩ := hrel
    by_cases hlt : j < N
    · have hji : (j : Int) < (N : Int) := by omega
      have hj5 : (j : Int) < 5 := by omega
      have hxr := hxV.grown hgr (fun e => by injection e with e; omega)
      have cj : wr.cell? ⟨g, 2 + j, none⟩ = some (.string (ps.getD (j + 2) ByteArray.empty)) := by rw [hxr.cell, hxcH.out (2 + j) (by omega), Nat.add_comm 2 j]
      have hca : ca = some ⟨g, 2, none⟩ := by
        rw [← hcaH.out]
        unfold cutAddr
        have := hMcH.out
        rw [if_neg (by omega)]
        rfl
      subst hca
      have hc := hN.out (j + 2) wr (by omega)
      rw [show ((4294967295 : Nat) : Int) = 4294967295 from rfl] at hc
      have hst := arP_set (numP ps) j (by omega)
      obtain ⟨v0, hv0⟩ := arP_get (numP ps) j (by omega)
      have hv0H := Lib.hid hv0
      have hrg := numW_range (numsOf (ps.getD (j + 2) ByteArray.empty))
      have hnp : numP ps j = ((unNum (numsOf (ps.getD (j + 2) ByteArray.empty)) 4294967295).1 : Int) := rfl
      have hnw : numW (numsOf (ps.getD (j + 2) ByteArray.empty)) = ((unNum (numsOf (ps.getD (j + 2) ByteArray.empty)) 4294967295).1 : Int) := rfl
      obtain ⟨px, hpx⟩ : ∃ p, ps.getD (j + 2) ByteArray.empty = p := ⟨_, rfl⟩
      rw [hpx] at hc hrg hnp hnw cj
      rw [hnw] at hrg
      obtain ⟨v, hv⟩ : ∃ v, ((unNum (numsOf px) 4294967295).1 : Int) = v := ⟨_, rfl⟩
      rw [hv] at hc hrg hnp
      rw [hnp] at hst
      have u1 : IntKind.u32.wrap v = v := by rw [IntKind.wrap_u32]; omega
      have u2 : v % 4294967296 = v := by omega
      have hcH := Lib.hid hc
      have hstH := Lib.hid hst
      have hltH := Lib.hid hlt
      have hgH := Lib.hid hgr
      clear hlt hj hc hst hgr hv0 hrg hnp hnw hpx hv hxr
      go_wp2_with fail
      refine hcH.out.mono ?_
      rintro q w5 ⟨rfl, b5⟩
      have hA5 := hA.keep b5 hA.lt
      have hg5 := grown_trans hgH.out (grown_of_below b5 (some A))
      have d0 := (hA5.cell j).trans hv0H.out
      have f0 := hA5.frozen j
      have hA6 := Lib.hid ((hA5.set j (.int .u32 v)).cast hstH.out)
      have hg6 := Lib.hid (grown_trans hg5 (grown_setCell w5 A j (.int .u32 v)))
      clear hA hcH hA5 hg5 b5 cj hgH
      go_wp2
      exact ⟨⟨j + 1, by have := hltH.out; omega, by congr 1, hA6.out, hg6.out⟩, by simp only [intOf]; have := hltH.out; omega⟩
    · obtain rfl : j = N := by omega
      have hji : ¬ (j : Int) < (j : Int) := by omega
      rw [hcand] at hA
      have hzr := hzV.grown hgr (fun e => by injection e with e; omega)
      have hBr := hBV.grown hgr hBV.size (fun q hq => by injection hq with hq; have := gH.out; omega)
      have hAr5 : IsRow Tryz.prog 42 (arV cr).length := rowAr
      clear hxV hzV hBV hgr hlt hj
      go_wp2_with ((with_reducible refine wpList_load_blk rfl 42 (.tmp 9) rfl ?_ hA hAr5 rfl ?_); rfl)
      refine (hO.out wr).mono ?_
      rintro q w6 ⟨rfl, b6⟩
      have hz6 := hzr.keep b6 hzr.lt
      have hB6 := hBr.trans (b6.mono hBr.size)
      have hzA := hz6.alloc (.cells (rpC 0 0 0 0 0 0 0).toArray 26)
      have hnA := Blk.new w6 26 (rpC 0 0 0 0 0 0 0)
      have hBA := hB6.alloc hB6.size (.cells (rpC 0 0 0 0 0 0 0).toArray 26)
      have hnG : G < w6.heap.size := hz6.lt
      obtain ⟨D, hD⟩ : ∃ D, w6.heap.size = D := ⟨_, rfl⟩
      obtain ⟨Z, hZ⟩ : ∃ Z, w6.alloc (.cells (rpC 0 0 0 0 0 0 0).toArray 26) = Z := ⟨_, rfl⟩
      rw [hD] at hnA hnG
      rw [hZ] at hzA hnA hBA
      clear hA hzr hBr b6 hz6 hB6
      go_wp2_with ((with_reducible refine wpList_alloc_blk rfl 26 rfl zeroRp ?_); refine RowKit.Hid.out ?_)
      refine Lib.hid ?_
      try simp only [Act.put, List.setIfInBounds_toArray, List.set_cons_zero, List.set_cons_succ]
      try rw [hZ]
      try rw [hD]
      clear hZ hD
      refine store_row rfl 26 (.tmp 14) (.tmp 56) rfl rfl rfl hnA rowRp (rpV_len cr) rfl (rpV_one cr) ?_
      intro w7 hn7 hg7
      have hz7 := hzA.grown hg7 (fun e => by injection e with e; omega)
      have hB7 := hBA.grown hg7 hBA.size (fun q hq => by injection hq with hq; have := gH.out; omega)
      clear hzA hnA hBA hg7
      go_wp2_with ((with_reducible refine wpList_load_blk rfl 26 (.tmp 14) rfl ?_ hn7 rowRp (rpV_len cr) ?_); rfl)
      refine (hLi.out w7 hB7).mono ?_
      rintro q w8 ⟨rfl, b8⟩
      have hz8 := hz7.keep b8 hz7.lt
      have hn8 := hn7.keep b8 hn7.lt
      have hB8 := hB7.trans (b8.mono hB7.size)
      clear hz7 hn7 hB7 b8
      have hqs := hqsH.out
      obtain ⟨LS, hLS⟩ : ∃ S, strOfNums (lineR cr) = S := ⟨_, rfl⟩
      rw [hLS] at hqs ⊢
      clear hLS
      by_cases hq : lineR cr = numsOf s
      · obtain rfl := hcpH.out.1 hq hne.out
        rw [decide_eq_true hq] at hqs
        have hqn : (LS.toList != s.toList) = false := by rw [bne, hqs]; rfl
        have hqe : LS.toList = s.toList := beq_iff_eq.1 hqs
        clear hq
        go_wp2_with ((with_reducible refine wpList_load_blk rfl 26 (.tmp 14) rfl ?_ hn8 rowRp (rpV_len cr) ?_); rfl; refine RowKit.Hid.out ?_)
        refine Lib.hid ?_
        try simp only [Act.put, List.setIfInBounds_toArray, List.set_cons_zero, List.set_cons_succ]
        refine store_row rfl 26 (.tmp 2) (.tmp 62) rfl rfl rfl hz8 rowRp (rpV_len cr) rfl (rpV_one cr) ?_
        intro w9 hz9 hg9
        have hr9 : IsRow Tryz.prog 26 (rpV cr).length := rowRp
        go_wp2_with fail
        refine bodyPost_ret (results_blk_tmp rfl rfl hz9 hr9) rfl ?_
        exact ⟨rfl, hB8.grown hg9 hB8.size (fun q hq => by injection hq with hq; have := gH.out; omega)⟩
      · obtain rfl := hcpH.out.2 hq
        rw [decide_eq_false hq] at hqs
        have hqn : (LS.toList != s.toList) = true := by rw [bne, hqs]; rfl
        have hqe : ¬ LS.toList = s.toList := fun e => by rw [e, beq_self_eq_true] at hqs; cases hqs
        clear hq
        go_wp2_with ((with_reducible refine build_row rfl 26 #[] rfl (cells := (rpC 0 0 0 0 0 0 0).toArray) ?_ ?_); (refine Eq.trans (congrArg _ ?_) hbt; kernel_rfl); refine RowKit.Hid.out ?_)
        refine Lib.hid ?_
        try simp only [Act.put, List.setIfInBounds_toArray, List.set_cons_zero, List.set_cons_succ]
        refine store_row rfl 26 (.tmp 2) (.tmp 61) rfl rfl rfl hz8 rowRp rfl rfl (rpC_one _ _ _ _ _ _ _) ?_
        intro w9 hz9 hg9
        have hr9 : IsRow Tryz.prog 26 (rpC 0 0 0 0 0 0 0).length := rowRp
        go_wp2_with fail
        refine bodyPost_ret (results_blk_tmp rfl rfl hz9 hr9) rfl ?_
        exact ⟨rfl, hB8.grown hg9 hB8.size (fun q hq => by injection hq with hq; have := gH.out; omega)⟩
end Go.Proofs.YtbiabjehdmddbaaGreatDoor

/-
  The laws' 'alive' of layer 15: the document's examples. New memory alone is written. Conditions: the library's table of powers of ten as its text lays it.
-/
namespace Go.Proofs.YtbiabjehdmddbaaGreatDoor
open Go.RowKit

def ex15 : RplV := ⟨2, 0, 3, 1, 5, 2, 100⟩
theorem ex15_words : wordsR ex15 = [[117, 112, 108, 111, 97, 100], [111, 107], [51], [49], [53], [50], [49, 48, 48]] := by
  show [nameL kindsL 2, nameL errsL 0, numL 3, numL 1, numL 5, numL 2, numL 100] = _
  rw [numL_small (n := 3) (by decide), numL_small (n := 1) (by decide), numL_small (n := 5) (by decide), numL_small (n := 2) (by decide), numL_big (n := 100) (by decide), numL_big (n := 100 / 10) (by decide), numL_small (n := 100 / 10 / 10) (by decide)]
  rfl
theorem ex15_parse : parseR (numsOf { data := #[117, 112, 108, 111, 97, 100, 32, 111, 107, 32, 51, 32, 49, 32, 53, 32, 50, 32, 49, 48, 48] }) = (ex15, 0) := by
  refine parseR_is (by decide) (by unfold RplOk; decide) ?_
  unfold lineR
  rw [if_pos (by decide), ex15_words]
  decide +kernel
def ex15b : RplV := ⟨2, 13, 0, 0, 0, 0, 0⟩
theorem ex15_line : (strOfNums (lineR ex15b)).toList = [117, 112, 108, 111, 97, 100, 32, 101, 120, 112, 105, 114, 101, 100] := by decide +kernel
theorem ex15_err : (strOfNums (nameL errsL 20)).toList = [100, 101, 101, 112] := by decide +kernel
theorem ex15_kind : (strOfNums (nameL kindsL 77)).toList = [63] := by decide +kernel

set_option maxRecDepth 100000 in
set_option maxHeartbeats 2000000 in
theorem alive15_any (w : World) (hG : Pow12 w) : Calls Tryz.prog 10 #[] w fun q w' => q = .returned (.bool true) ∧ Below w.heap.size w w' := by
  have hP := rlParse_any { data := #[117, 112, 108, 111, 97, 100, 32, 111, 107, 32, 51, 32, 49, 32, 53, 32, 50, 32, 49, 48, 48] } w hG (by decide)
  rw [ex15_parse] at hP
  dsimp only at hP
  have hLi := Lib.hid (fun w' (h : Below w.heap.size w w') => rlLine_any ex15b w' (hG.keep h hG.le) (by unfold RplOk; decide))
  have hEn := Lib.hid (fun w' => rlErrName_any 20 w')
  have hKn := Lib.hid (fun w' => rlKindName_any 77 w')
  have x1 := ex15_line
  have x2 := ex15_err
  have x3 := ex15_kind
  obtain ⟨S1, hS1⟩ : ∃ S, strOfNums (lineR ex15b) = S := ⟨_, rfl⟩
  obtain ⟨S2, hS2⟩ : ∃ S, strOfNums (nameL errsL 20) = S := ⟨_, rfl⟩
  obtain ⟨S3, hS3⟩ : ∃ S, strOfNums (nameL kindsL 77) = S := ⟨_, rfl⟩
  rw [hS1] at hLi x1
  rw [hS2] at hEn x2
  rw [hS3] at hKn x3
  have y1 := beq_iff_eq.2 x1
  have y2 := beq_iff_eq.2 x2
  have y3 := beq_iff_eq.2 x3
  have hbt := built_rp2 2 13
  obtain ⟨D, hD⟩ : ∃ D, rpC 2 13 0 0 0 0 0 = D := ⟨_, rfl⟩
  rw [hD] at hbt
  rw [show rpV ex15b = D from hD] at hLi
  have c5 := fun w' g (h : Blk w' g 26 (rpV ex15)) => rp5 h
  obtain ⟨C, hC⟩ : ∃ D, rpV ex15 = D := ⟨_, rfl⟩
  have hCl : C.length = 7 := by rw [← hC]; rfl
  have hC1 : ∀ v ∈ C, v.oneCell' = true := by rw [← hC]; exact rpV_one _
  rw [hC] at hP c5
  have c5 := Lib.hid (show ∀ w' g, Blk w' g 26 C → w'.cell? ⟨g, 5, none⟩ = some (.int .u32 2) from c5)
  clear hS1 hS2 hS3 hD hC hG
  go_enter Tryz.func10, Tryz.ntmps10
  go_wp2_with fail
  refine hP.mono ?_
  rintro q w1 ⟨rfl, b1⟩
  have hz := Blk.new w1 26 (rpC 0 0 0 0 0 0 0)
  have hB2 := b1.alloc b1.size (.cells (rpC 0 0 0 0 0 0 0).toArray 26)
  have hGl := b1.size
  obtain ⟨W, hW⟩ : ∃ W, w1.alloc (.cells (rpC 0 0 0 0 0 0 0).toArray 26) = W := ⟨_, rfl⟩
  obtain ⟨G, hGe⟩ : ∃ G, w1.heap.size = G := ⟨_, rfl⟩
  rw [hW] at hz hB2
  rw [hGe] at hz hGl
  clear b1 hP
  go_wp2_with (first
    | ((with_reducible refine wpList_alloc_blk rfl 26 rfl zeroRp ?_); refine RowKit.Hid.out ?_))
  refine Lib.hid ?_
  try simp only [Act.put, List.setIfInBounds_toArray, List.set_cons_zero, List.set_cons_succ]
  try rw [hW]
  try rw [hGe]
  clear hW hGe
  refine store_row rfl 26 (.tmp 1) (.tmp 5) rfl rfl rfl hz rowRp hCl rfl hC1 ?_
  intro w3 hk3 hg3
  have hB3 := hB2.grown hg3 hB2.size (fun q hq => by injection hq with hq; omega)
  have d5 := c5.out w3 G hk3
  clear hz hB2 hg3 c5
  go_wp2_with ((with_reducible refine build_if rfl 26 _ rfl (cells := D.toArray) ?_ ?_); (refine Eq.trans (congrArg _ ?_) hbt; kernel_rfl))
  refine (hLi.out w3 hB3).mono ?_
  rintro q w4 ⟨rfl, b4⟩
  have hB4 := hB3.trans (b4.mono hB3.size)
  clear hB3 b4 d5 hk3 hLi
  go_wp2_with fail
  refine (hEn.out w4).mono ?_
  rintro q w5 ⟨rfl, b5⟩
  have hB5 := hB4.trans (b5.mono hB4.size)
  clear hB4 b5 hEn
  go_wp2_with fail
  refine (hKn.out w5).mono ?_
  rintro q w6 ⟨rfl, b6⟩
  have hB6 := hB5.trans (b6.mono hB5.size)
  clear hB5 b6 hKn
  go_wp2
  go_ret
  exact ⟨by first | rfl | (rw [y3]), hB6⟩
end Go.Proofs.YtbiabjehdmddbaaGreatDoor

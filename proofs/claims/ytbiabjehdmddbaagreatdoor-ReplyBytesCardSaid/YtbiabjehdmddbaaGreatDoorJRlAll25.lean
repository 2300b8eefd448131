/-
  Texts of stages that were proved on their own, joined: RlDecode, RlLawB. Each begins with its own words.
-/
import Derived.Test.YtbiabjehdmddbaaGreatDoorJRlAll23
import Derived.Test.YtbiabjehdmddbaaGreatDoorJRlAll24
import Derived.Test.YtbiabjehdmddbaaGreatDoorJRlAll22
import Derived.Test.YtbiabjehdmddbaaGreatDoorJRlAll17
import Derived.Test.YtbiabjehdmddbaaGreatDoorJRlAll21
import Derived.Test.YtbiabjehdmddbaaGreatDoorJRlAll15

/-
  What reply's Decode (layer 15) comes to. New memory alone is written. Conditions: bytes below 256, at most a million.
-/
namespace Go.Proofs.YtbiabjehdmddbaaGreatDoor
open Go.RowKit

set_option maxRecDepth 100000 in
set_option maxHeartbeats 4000000 in
theorem rlDecode_any (a : Option Addr) (n c : Nat) (xs : List Int) (w : World) (hI : Ints .u8 w a n c xs) (hr : ∀ x ∈ xs, 0 ≤ x ∧ x < 256) (hn : n ≤ 1000000) :
    Calls Tryz.prog 11 #[.slice a n c] w fun q w' => q = .returned (.tuple #[.agg (rpV (decR xs).1).toArray, .int .i64 (decR xs).2]) ∧ Below w.heap.size w w' := by
  have hb := below1 w (.cells (rpC 0 0 0 0 0 0 0).toArray 26)
  have hk : Blk (w.alloc (.cells (rpC 0 0 0 0 0 0 0).toArray 26)) w.heap.size 26 (rpC 0 0 0 0 0 0 0) := Blk.new w _ _
  obtain ⟨V, hV⟩ : ∃ V, w.alloc (.cells (rpC 0 0 0 0 0 0 0).toArray 26) = V := ⟨_, rfl⟩
  rw [hV] at hb hk
  have hnew := Lib.hid (pNew_any a n c xs V (hI.keep hb) hr hn)
  obtain ⟨G, g9⟩ : ∃ G, w.heap.size = G := ⟨_, rfl⟩
  rw [g9] at hk
  have gH := Lib.hid g9
  obtain ⟨⟨P1, E1, k⟩, hq1⟩ : ∃ q, rdNum xs 0 0 1 = q := ⟨_, rfl⟩
  obtain ⟨⟨P2, E2, e⟩, hq2⟩ : ∃ q, rdNum xs P1 E1 1 = q := ⟨_, rfl⟩
  have hkr := rdNum_lim hr 0 0 1 (by decide)
  have her := rdNum_lim hr P1 E1 1 (by decide)
  rw [hq1] at hkr
  rw [hq2] at her
  dsimp only at hkr her
  have k64 : wrap64 k = k := by unfold wrap64; omega
  have k64' : IntKind.i64.wrap k = k := by rw [IntKind.wrap_i64]; omega
  have e64 : wrap64 e = e := by unfold wrap64; omega
  have e64' : IntKind.i64.wrap e = e := by rw [IntKind.wrap_i64]; omega
  have hsp := Lib.hid (read_spec xs hq1 hq2)
  have hvr := Lib.hid (rdV_lim hr P2 E2)
  have hbt := built_rp0
  have hR := Lib.hid (fun r w' => rlRight_any r w')
  have hO := Lib.hid (fun r w' => rlOf_any r w')
  obtain ⟨R, hR0⟩ : ∃ R, decR xs = R := ⟨_, rfl⟩
  rw [hR0]
  have hR0 := Lib.hid hR0
  clear hkr her hr hI hn
  go_enter Tryz.func11, Tryz.ntmps11
  go_wp2_with ((with_reducible refine wpList_alloc_blk rfl 26 rfl zeroRp ?_); refine RowKit.Hid.out ?_)
  refine Lib.hid ?_
  clear hV
  go_wp2_with fail
  refine hnew.out.mono ?_
  rintro r w1 ⟨g, F, rfl, hR1, hF1, b1⟩
  have hG1 := hk.keep b1 hk.lt
  have hB1 := hb.trans (b1.mono hb.size)
  have nG : Hid (¬ F G) := Lib.hid (fun h => by have := hF1 _ h; have := hk.lt; omega)
  have hFg : Hid (∀ b, F b → w.heap.size ≤ b) := Lib.hid (fun b hb' => Nat.le_trans hb.size (hF1 b hb'))
  clear hk hb b1 hnew hF1
  have cn := pNum_any 1 hR1
  rw [hq1] at cn
  dsimp only at cn
  clear hR1
  go_wp2_with fail
  refine cn.mono ?_
  rintro r w2 ⟨rfl, hR2, hm2⟩
  have hG2 : Blk w2 G 26 (rpC 0 0 0 0 0 0 0) := (hm2.2 G hG1.lt nG.out).trans hG1
  have hB2 := hB1.trans (hm2.below hFg.out hB1.size)
  clear cn hG1 hB1 hm2
  have cn := pNum_any 1 hR2
  rw [hq2] at cn
  dsimp only at cn
  clear hR2
  go_wp2_with fail
  refine cn.mono ?_
  rintro r w3 ⟨rfl, hR3, hm3⟩
  have hG3 : Blk w3 G 26 (rpC 0 0 0 0 0 0 0) := (hm3.2 G hG2.lt nG.out).trans hG2
  have hB3 := hB2.trans (hm3.below hFg.out hB2.size)
  clear cn hG2 hB2 hm3 hq1 hq2
  have hGA := hG3.alloc (.cells (arC 0 0 0 0 0).toArray 42)
  have hNA := Blk.new w3 42 (arC 0 0 0 0 0)
  have hBA := hB3.alloc hB3.size (.cells (arC 0 0 0 0 0).toArray 42)
  have hnG : G < w3.heap.size := hG3.lt
  have hRA := hR3.keep (w' := w3.alloc (.cells (arC 0 0 0 0 0).toArray 42)) (fun b hb => Below.heap_alloc w3 _ b (hR3.lt b hb)) (by rw [size1]; omega)
  have nN0 : ¬ F w3.heap.size := fun h => Nat.lt_irrefl _ (hR3.lt _ h)
  obtain ⟨A, hA⟩ : ∃ N, w3.heap.size = N := ⟨_, rfl⟩
  rw [hA] at hNA hnG nN0
  have nA := Lib.hid nN0
  have nGA := Lib.hid hnG
  obtain ⟨U, hU⟩ : ∃ W, w3.alloc (.cells (arC 0 0 0 0 0).toArray 42) = W := ⟨_, rfl⟩
  rw [hU] at hGA hNA hBA hRA
  clear hR3 hG3 hB3 nN0 hnG
  go_wp2_with ((with_reducible refine wpList_alloc_blk rfl 42 rfl zeroAr ?_); refine RowKit.Hid.out ?_)
  refine Lib.hid ?_
  try simp only [Act.put, List.setIfInBounds_toArray, List.set_cons_zero, List.set_cons_succ]
  try rw [hU]
  try rw [hA]
  clear hU hA
  go_wp2_with fail
  go_loopw [19] (fun i wr => ∃ j : Nat, j ≤ 5 ∧ i = .int .i64 j ∧ RdAt F wr g xs (rdP xs P2 E2 j).1 (rdP xs P2 E2 j).2 ∧ Blk wr A 42 (arP (rdV xs P2 E2) j) ∧ Blk wr G 26 (rpC 0 0 0 0 0 0 0) ∧ Below w.heap.size w wr) (fun i _ => 5 - (intOf i).toNat)
  case atStart => exact ⟨0, by decide, rfl, hRA, hNA, hGA, hBA⟩
  case round =>
    clear hRA hNA hGA hBA
    obtain ⟨j, hj, rfl, hRj, hAj, hGj, hBj⟩ := hrel
    by_cases hlt : j < 5
    · have hji : (j : Int) < 5 := by omega
      have cn := pNum_any 4 hRj
      have hst := arP_set (rdV xs P2 E2) j hlt
      obtain ⟨v0, hv0⟩ := arP_get (rdV xs P2 E2) j hlt
      have hv0H := Lib.hid hv0
      have hrg := hvr.out j
      have hve : (rdNum xs (rdP xs P2 E2 j).1 (rdP xs P2 E2 j).2 4).2.2 = rdV xs P2 E2 j := rfl
      have hpe : rdP xs P2 E2 (j + 1) = ((rdNum xs (rdP xs P2 E2 j).1 (rdP xs P2 E2 j).2 4).1, (rdNum xs (rdP xs P2 E2 j).1 (rdP xs P2 E2 j).2 4).2.1) := rfl
      rw [hve] at cn
      obtain ⟨v, hv⟩ : ∃ v, rdV xs P2 E2 j = v := ⟨_, rfl⟩
      rw [hv] at cn hst hrg
      obtain ⟨q, hq⟩ : ∃ q, rdNum xs (rdP xs P2 E2 j).1 (rdP xs P2 E2 j).2 4 = q := ⟨_, rfl⟩
      rw [hq] at cn hpe
      have u1 : IntKind.u32.wrap v = v := by rw [IntKind.wrap_u32]; omega
      have u2 : v % 4294967296 = v := by omega
      have hltH := Lib.hid hlt
      have hstH := Lib.hid hst
      have hpH := Lib.hid hpe
      have hkH := Lib.hid (And.intro hAj (And.intro hGj hBj))
      clear hlt hj hv hve hpe hq hst hRj hAj hGj hBj hrg hv0
      go_wp2_with fail
      refine cn.mono ?_
      rintro r w5 ⟨rfl, hR5, hm5⟩
      have hA5 : Blk w5 A 42 (arP (rdV xs P2 E2) j) := (hm5.2 A hkH.out.1.lt nA.out).trans hkH.out.1
      have hG5 : Blk w5 G 26 (rpC 0 0 0 0 0 0 0) := (hm5.2 G hkH.out.2.1.lt nG.out).trans hkH.out.2.1
      have hB5 := hkH.out.2.2.trans (hm5.below hFg.out hkH.out.2.2.size)
      have d0 := (hA5.cell j).trans hv0H.out
      have f0 := hA5.frozen j
      have hg6 := grown_setCell w5 A j (.int .u32 v)
      have hA6 := Lib.hid ((hA5.set j (.int .u32 v)).cast hstH.out)
      have hG6 := Lib.hid (hG5.grown hg6 (fun e => by injection e with e; have := nGA.out; omega))
      have hR6 := Lib.hid (hR5.keep (fun b hb => hg6.block b (hR5.lt b hb) (fun e => by injection e with e; subst e; exact nA.out hb)) hg6.size)
      have hB6 := Lib.hid (hB5.grown hg6 hB5.size (fun q hq => by injection hq with hq; have := gH.out; have := nGA.out; omega))
      clear cn hm5 hA5 hG5 hB5 hR5 hg6 hkH
      go_wp2
      exact ⟨⟨j + 1, by have := hltH.out; omega, by congr 1, by rw [hpH.out]; exact hR6.out, hA6.out, hG6.out, hB6.out⟩, by simp only [intOf]; have := hltH.out; omega⟩
    · obtain rfl : j = 5 := by omega
      have hji : ¬ ((5 : Nat) : Int) < 5 := by omega
      have cd := pDone_any hRj
      have hsp := hsp.out
      obtain ⟨D, hD⟩ : ∃ D, doneOf xs.length ((rdP xs P2 E2 5).1 : Int) (rdP xs P2 E2 5).2 = D := ⟨_, rfl⟩
      rw [hD] at cd hsp
      have hR0 := hR0.out
      have hGl : G < A := nGA.out
      by_cases hD0 : D = 0
      · have h22 : xs.length = 22 := by
          by_cases h1 : xs.length < 22
          · have := hsp.1 h1; omega
          · by_cases h2 : 22 < xs.length
            · have := hsp.2.1 h2; omega
            · omega
        obtain ⟨_, hke, hee, hP2, hE2⟩ := hsp.2.2 h22
        subst hP2; subst hE2
        rw [arP_read xs h22] at hAj
        rw [decR_fine h22] at hR0
        have hkx : (rplOf xs).kind = k := hke.symm
        have hex : (rplOf xs).err = e := hee.symm
        have hO := hO.out (rplOf xs)
        have hR := hR.out (rplOf xs)
        rw [hkx, hex] at hO
        obtain ⟨r, hrr⟩ : ∃ r, rplOf xs = r := ⟨_, rfl⟩
        rw [hrr] at hO hR hR0 hAj
        have hDb : (D == 0) = true := beq_iff_eq.2 hD0
        have hDn : (D != 0) = false := by rw [bne, hDb]; rfl
        replace hO := Lib.hid hO
        replace hR := Lib.hid hR
        replace hR0 := Lib.hid hR0
        subst hD0
        clear hsp hD hke hee hkx hex hrr hRj h22 hvr hlt hj
        go_wp2_with fail
        refine cd.mono ?_
        rintro q w5 ⟨rfl, b5⟩
        have hA5 := hAj.keep b5 hAj.lt
        have hG5 := hGj.keep b5 hGj.lt
        have hB5 := hBj.trans (b5.mono hBj.size)
        clear cd hAj hGj hBj b5
        go_wp2_with ((with_reducible refine wpList_load_blk rfl 42 (.tmp 7) rfl ?_ hA5 rowAr rfl ?_); rfl)
        refine (hO.out w5).mono ?_
        rintro q w6 ⟨rfl, b6⟩
        have hz6 := hG5.keep b6 hG5.lt
        have hB6 := hB5.trans (b6.mono hB5.size)
        have hzA := hz6.alloc (.cells (rpC 0 0 0 0 0 0 0).toArray 26)
        have hnA := Blk.new w6 26 (rpC 0 0 0 0 0 0 0)
        have hBA := hB6.alloc hB6.size (.cells (rpC 0 0 0 0 0 0 0).toArray 26)
        have hnG : G < w6.heap.size := hz6.lt
        obtain ⟨T, hT⟩ : ∃ D, w6.heap.size = D := ⟨_, rfl⟩
        obtain ⟨Z, hZ⟩ : ∃ Z, w6.alloc (.cells (rpC 0 0 0 0 0 0 0).toArray 26) = Z := ⟨_, rfl⟩
        rw [hT] at hnA hnG
        rw [hZ] at hzA hnA hBA
        clear hA5 hG5 hB5 b6 hz6 hB6
        go_wp2_with ((with_reducible refine wpList_alloc_blk rfl 26 rfl zeroRp ?_); refine RowKit.Hid.out ?_)
        refine Lib.hid ?_
        try simp only [Act.put, List.setIfInBounds_toArray, List.set_cons_zero, List.set_cons_succ]
        try rw [hZ]
        try rw [hT]
        clear hZ hT
        refine store_row rfl 26 (.tmp 10) (.tmp 37) rfl rfl rfl hnA rowRp (rpV_len r) rfl (rpV_one r) ?_
        intro w7 hn7 hg7
        have hz7 := hzA.grown hg7 (fun e => by injection e with e; omega)
        have hB7 := hBA.grown hg7 hBA.size (fun q hq => by injection hq with hq; have := gH.out; omega)
        clear hzA hnA hBA hg7
        go_wp2_with ((with_reducible refine wpList_load_blk rfl 26 (.tmp 10) rfl ?_ hn7 rowRp (rpV_len r) ?_); rfl)
        refine (hR.out w7).mono ?_
        rintro q w8 ⟨rfl, b8⟩
        have hz8 := hz7.keep b8 hz7.lt
        have hn8 := hn7.keep b8 hn7.lt
        have hB8 := hB7.trans (b8.mono hB7.size)
        clear hz7 hn7 hB7 b8
        cases hrt : rightR r with
        | true =>
          have hR0 := hR0.out
          rw [hrt, if_pos rfl] at hR0
          subst hR0
          clear hrt
          go_wp2_with ((with_reducible refine wpList_load_blk rfl 26 (.tmp 10) rfl ?_ hn8 rowRp (rpV_len r) ?_); rfl; refine RowKit.Hid.out ?_)
          refine Lib.hid ?_
          try simp only [Act.put, List.setIfInBounds_toArray, List.set_cons_zero, List.set_cons_succ]
          refine store_row rfl 26 (.tmp 2) (.tmp 42) rfl rfl rfl hz8 rowRp (rpV_len r) rfl (rpV_one r) ?_
          intro w9 hz9 hg9
          have hr9 : IsRow Tryz.prog 26 (rpV r).length := rowRp
          go_wp2_with fail
          refine bodyPost_ret (results_blk_tmp rfl rfl hz9 hr9) rfl ?_
          have hBf := hB8.grown hg9 hB8.size (fun q hq => by injection hq with hq; have := gH.out; omega)
          exact ⟨rfl, by first | exact hBf | exact gH.out ▸ hBf⟩
        | false =>
          have hR0 := hR0.out
          rw [hrt, if_neg (by decide)] at hR0
          subst hR0
          clear hrt
          go_wp2_with ((with_reducible refine build_row rfl 26 #[] rfl (cells := (rpC 0 0 0 0 0 0 0).toArray) ?_ ?_); (refine Eq.trans (congrArg _ ?_) hbt; kernel_rfl); refine RowKit.Hid.out ?_)
          refine Lib.hid ?_
          try simp only [Act.put, List.setIfInBounds_toArray, List.set_cons_zero, List.set_cons_succ]
          refine store_row rfl 26 (.tmp 2) (.tmp 41) rfl rfl rfl hz8 rowRp rfl rfl (rpC_one _ _ _ _ _ _ _) ?_
          intro w9 hz9 hg9
          have hr9 : IsRow Tryz.prog 26 (rpC 0 0 0 0 0 0 0).length := rowRp
          go_wp2_with fail
          refine bodyPost_ret (results_blk_tmp rfl rfl hz9 hr9) rfl ?_
          have hBf := hB8.grown hg9 hB8.size (fun q hq => by injection hq with hq; have := gH.out; omega)
          exact ⟨rfl, by first | exact hBf | exact gH.out ▸ hBf⟩
      · have hf := decR_fault hsp.1 hsp.2.1 (fun h => (hsp.2.2 h).1) hD0
        rw [hf] at hR0
        subst hR0
        have hDb : (D == 0) = false := beq_false_of_ne hD0
        have hDn : (D != 0) = true := by rw [bne, hDb]; rfl
        clear hsp hD hf hRj hAj hvr hlt hj hR hO
        go_wp2_with fail
        refine cd.mono ?_
        rintro q w5 ⟨rfl, b5⟩
        have hz8 := hGj.keep b5 hGj.lt
        have hB8 := hBj.trans (b5.mono hBj.size)
        clear cd hGj hBj b5
        go_wp2_with ((with_reducible refine build_row rfl 26 #[] rfl (cells := (rpC 0 0 0 0 0 0 0).toArray) ?_ ?_); (refine Eq.trans (congrArg _ ?_) hbt; kernel_rfl); refine RowKit.Hid.out ?_)
        refine Lib.hid ?_
        refine wpList_mv rfl (.tmp 9) rfl rfl ?_
        try simp only [Act.put, List.setIfInBounds_toArray, List.set_cons_zero, List.set_cons_succ]
        refine store_row rfl 26 (.tmp 2) (.tmp 32) rfl rfl rfl hz8 rowRp rfl rfl (rpC_one _ _ _ _ _ _ _) ?_
        intro w9 hz9 hg9
        have hr9 : IsRow Tryz.prog 26 (rpC 0 0 0 0 0 0 0).length := rowRp
        go_wp2_with fail
        refine bodyPost_ret (results_blk_tmp rfl rfl hz9 hr9) rfl ?_
        have hBf := hB8.grown hg9 hB8.size (fun q hq => by injection hq with hq; have := gH.out; omega)
        exact ⟨rfl, by first | exact hBf | exact gH.out ▸ hBf⟩
end Go.Proofs.YtbiabjehdmddbaaGreatDoor

/-
  The law ReplyBytes (layer 15). New memory alone is written. Conditions: the fields' ranges; the library's table of powers of ten as its text lays it.
-/
namespace Go.Proofs.YtbiabjehdmddbaaGreatDoor
open Go.RowKit

theorem beL_range15 : ∀ (k : Nat) (n : Int), ∀ x ∈ beL n k, 0 ≤ x ∧ x < 256
  | 0, _, x, hx => by cases hx
  | k + 1, n, x, hx => by
    rcases List.mem_append.1 hx with hx | hx
    · exact beL_range15 k _ x hx
    · obtain rfl := List.mem_singleton.1 hx
      omega
theorem bytesR_range {r : RplV} (h : RplRight r) : ∀ x ∈ bytesR r, 0 ≤ x ∧ x < 256 := by
  intro x hx
  unfold bytesR at hx
  have h1 := h.1
  have h2 := h.2.1
  rcases List.mem_cons.1 hx with rfl | hx
  · omega
  rcases List.mem_cons.1 hx with rfl | hx
  · omega
  rcases List.mem_append.1 hx with hx | hx
  · exact beL_range15 4 _ x hx
  rcases List.mem_append.1 hx with hx | hx
  · exact beL_range15 4 _ x hx
  rcases List.mem_append.1 hx with hx | hx
  · exact beL_range15 4 _ x hx
  rcases List.mem_append.1 hx with hx | hx
  · exact beL_range15 4 _ x hx
  · exact beL_range15 4 _ x hx
theorem yields_eqR {P : Program} {ops : Array Oper} {S : World → Prop} {o : Oper} {a : Act} {t g : TypeId} {x y : Operand} {C : Array Value} (hw : Region.wanted o (yielded ops a.tmps) = true) (ho : o.op = .binOp .eql t x y g)
    (hx : a.eval x = .agg C) (hy : a.eval y = .agg C) (hm : P.eqGuardType P.depth t = false) (he : ∀ w, (Op.equalIn 10000 t (.agg C) (.agg C)).run P w = .ok true w) : YieldsIf P ops S o (.bool true) a := by
  refine .inl ⟨hw, fun w _ => ?_⟩
  unfold execOp
  simp only [ho, hx, hy, Sem.run_bind, run_eqGuard_agg w _ _ _ _ _ _ hm, run_eql_struct, he, Result.andThen_ok, Sem.run_pure]

set_option maxRecDepth 100000 in
set_option maxHeartbeats 4000000 in
theorem rlBytes_any (r : RplV) (w : World) (hP : Pow12 w) (ho : RplOk r) :
    Calls Tryz.prog 3 #[.agg (rpV r).toArray] w fun q w' => q = .returned (.bool true) ∧ Below w.heap.size w w' := by
  have en := fun w' => rlEncode_any r w' ho
  have li := fun w' (h : Below w.heap.size w w') => rlLine_any r w' (hP.keep h hP.le) ho
  have rg := fun w' => rlRight_any r w'
  have rr := fun w' => rfRight_any r w'
  have rl := fun w' => rfLine_any r w' ho
  have hal := Lib.hid (fun w' (h : Below w.heap.size w w') => alive15_any w' (hP.keep h hP.le))
  cases hF : rightR r with
  | false =>
    have he : encR r = ([], 1) := by unfold encR; rw [hF]; rfl
    rw [he] at en
    rw [hF] at rg rr
    dsimp only [List.length_nil] at en
    obtain ⟨L, hL⟩ : ∃ S, strOfNums (lineR r) = S := ⟨_, rfl⟩
    rw [hL] at li rl
    obtain ⟨C, hC⟩ : ∃ D, rpV r = D := ⟨_, rfl⟩
    rw [hC] at en li rg rr rl ⊢
    have enH := Lib.hid en
    have liH := Lib.hid li
    have rgH := Lib.hid rg
    have rrH := Lib.hid rr
    have rlH := Lib.hid rl
    clear en li rg rr rl he hL hF ho hP
    have hCl : C.length = 7 := by rw [← hC]; rfl
    have hC1 : ∀ v ∈ C, v.oneCell' = true := by rw [← hC]; exact rpV_one _
    have hrC : IsRow Tryz.prog 26 C.length := by rw [hCl]; exact rowRp
    have hb := below1 w (.cells C.toArray 26)
    have hk : Blk (w.alloc (.cells C.toArray 26)) w.heap.size 26 C := Blk.new w _ C
    obtain ⟨W, hW⟩ : ∃ V, w.alloc (.cells C.toArray 26) = V := ⟨_, rfl⟩
    rw [hW] at hb hk
    obtain ⟨G, g9⟩ : ∃ G, w.heap.size = G := ⟨_, rfl⟩
    rw [g9] at hk
    have gH := Lib.hid g9
    clear hC
    go_enter Tryz.func3, Tryz.ntmps3
    go_wp2_with ((with_reducible refine box_row rfl 26 (.tmp 0) rfl C ?_ ?_); rfl; refine RowKit.Hid.out ?_)
    refine Lib.hid ?_
    clear hW
    go_wp2_with ((with_reducible refine wpList_load_blk rfl 26 (.tmp 1) rfl ?_ hk rowRp hCl ?_); rfl)
    refine (enH.out W).mono ?_
    rintro q w1 ⟨b, d, rfl, hI, b1⟩
    have hk1 := hk.keep b1 hk.lt
    have B1 := hb.trans (b1.mono hb.size)
    clear hk hb enH b1
    go_wp2_with ((with_reducible refine wpList_load_blk rfl 26 (.tmp 1) rfl ?_ hk1 rowRp hCl ?_); rfl)
    refine (liH.out w1 B1).mono ?_
    rintro q w2 ⟨rfl, b2⟩
    have hk2 := hk1.keep b2 hk1.lt
    have hI2 := hI.keep b2
    have B2 := B1.trans (b2.mono B1.size)
    clear hk1 hI B1 b2 liH
    go_wp2_with fail
    have bD : Below w2.heap.size w2 w2.drew := (Below.refl _ _).drew
    have KC := Lib.hid (fun w' (h : Below w2.heap.size w2 w') => hk2.keep h hk2.lt)
    have I2H := Lib.hid hI2
    have B2H := Lib.hid B2
    clear hk2 hI2 B2
    refine region_seqS (fun w' => Below w2.heap.size w2 w') (by kernel_rfl) bD ?_
    simp only [pairs, Nat.reduceAdd]
    repeat (first
      | (refine SeqS.take (v := .agg (C).toArray) (by first | assumption | trivial) (by kernel_rfl) (by decide +kernel) (by decide +kernel) (yields_blk (by rfl) 26 (.tmp 1) rfl rfl (fun w' h => KC.out w' h) (hrC)) ?_
         simp only [Act.put, List.setIfInBounds_toArray, List.set_cons_zero, List.set_cons_succ])
      | (refine SeqS.take (v := ?_) (by first | assumption | trivial) (by kernel_rfl) (by decide +kernel) (by decide +kernel) (Or.inl ⟨by rfl, ?_⟩) ?_
         rotate_left
         focus
           intro w' hb'
           go_simp
           with_reducible rfl
         simp only [Act.put, List.setIfInBounds_toArray, List.set_cons_zero, List.set_cons_succ])
      | (refine SeqS.take (v := undef) (by first | assumption | trivial) (by kernel_rfl) (by decide +kernel) (by decide +kernel) (Or.inr ⟨by rfl, rfl⟩) ?_
         simp only [Act.put, List.setIfInBounds_toArray, List.set_cons_zero, List.set_cons_succ])
      | (refine SeqS.take1 (v := .agg (C).toArray) (by first | assumption | trivial) (by kernel_rfl) (by decide +kernel) (by decide +kernel) (yields_blk (by rfl) 26 (.tmp 1) rfl rfl (fun w' h => KC.out w' h) (hrC)) ?_
         simp only [Act.put, List.setIfInBounds_toArray, List.set_cons_zero, List.set_cons_succ])
      | (refine SeqS.take1 (v := ?_) (by first | assumption | trivial) (by kernel_rfl) (by decide +kernel) (by decide +kernel) (Or.inl ⟨by rfl, ?_⟩) ?_
         rotate_left
         focus
           intro w' hb'
           go_simp
           with_reducible rfl
         simp only [Act.put, List.setIfInBounds_toArray, List.set_cons_zero, List.set_cons_succ])
      | (refine SeqS.take1 (v := undef) (by first | assumption | trivial) (by kernel_rfl) (by decide +kernel) (by decide +kernel) (Or.inr ⟨by rfl, rfl⟩) ?_
         simp only [Act.put, List.setIfInBounds_toArray, List.set_cons_zero, List.set_cons_succ])
      | (refine SeqS.take2 (v := .agg (C).toArray) (by first | assumption | trivial) (by kernel_rfl) (by decide +kernel) (by decide +kernel) (yields_blk (by rfl) 26 (.tmp 1) rfl rfl (fun w' h => KC.out w' h) (hrC)) ?_
         simp only [Act.put, List.setIfInBounds_toArray, List.set_cons_zero, List.set_cons_succ])
      | (refine SeqS.take2 (v := ?_) (by first | assumption | trivial) (by kernel_rfl) (by decide +kernel) (by decide +kernel) (Or.inl ⟨by rfl, ?_⟩) ?_
         rotate_left
         focus
           intro w' hb'
           go_simp
           with_reducible rfl
         simp only [Act.put, List.setIfInBounds_toArray, List.set_cons_zero, List.set_cons_succ])
      | (refine SeqS.take2 (v := undef) (by first | assumption | trivial) (by kernel_rfl) (by decide +kernel) (by decide +kernel) (Or.inr ⟨by rfl, rfl⟩) ?_
         simp only [Act.put, List.setIfInBounds_toArray, List.set_cons_zero, List.set_cons_succ]))
    refine SeqS.alone (by decide +kernel) (by rfl) (fun K hK => ?_)
    go_simp
    go_at_call 7
    refine (rgH.out _).mono ?_
    rintro e w3 ⟨rfl, b3⟩
    go_simp
    have S3 : Below w2.heap.size w2 w3 := bD.trans (b3.mono bD.size)
    refine hK _ _ S3 ?_
    clear hK K
    refine SeqS.alone (by decide +kernel) (by rfl) (fun K hK => ?_)
    go_simp
    go_at_call 8
    refine (rrH.out _).mono ?_
    rintro e w4 ⟨rfl, b4⟩
    go_simp
    have S4 : Below w2.heap.size w2 w4 := S3.trans (b4.mono S3.size)
    refine hK _ _ S4 ?_
    clear hK K
    repeat (first
      | (refine SeqS.take (v := .agg (C).toArray) (by first | assumption | trivial) (by kernel_rfl) (by decide +kernel) (by decide +kernel) (yields_blk (by rfl) 26 (.tmp 1) rfl rfl (fun w' h => KC.out w' h) (hrC)) ?_
         simp only [Act.put, List.setIfInBounds_toArray, List.set_cons_zero, List.set_cons_succ])
      | (refine SeqS.take (v := ?_) (by first | assumption | trivial) (by kernel_rfl) (by decide +kernel) (by decide +kernel) (Or.inl ⟨by rfl, ?_⟩) ?_
         rotate_left
         focus
           intro w' hb'
           go_simp
           with_reducible rfl
         simp only [Act.put, List.setIfInBounds_toArray, List.set_cons_zero, List.set_cons_succ])
      | (refine SeqS.take (v := undef) (by first | assumption | trivial) (by kernel_rfl) (by decide +kernel) (by decide +kernel) (Or.inr ⟨by rfl, rfl⟩) ?_
         simp only [Act.put, List.setIfInBounds_toArray, List.set_cons_zero, List.set_cons_succ])
      | (refine SeqS.take1 (v := .agg (C).toArray) (by first | assumption | trivial) (by kernel_rfl) (by decide +kernel) (by decide +kernel) (yields_blk (by rfl) 26 (.tmp 1) rfl rfl (fun w' h => KC.out w' h) (hrC)) ?_
         simp only [Act.put, List.setIfInBounds_toArray, List.set_cons_zero, List.set_cons_succ])
      | (refine SeqS.take1 (v := ?_) (by first | assumption | trivial) (by kernel_rfl) (by decide +kernel) (by decide +kernel) (Or.inl ⟨by rfl, ?_⟩) ?_
         rotate_left
         focus
           intro w' hb'
           go_simp
           with_reducible rfl
         simp only [Act.put, List.setIfInBounds_toArray, List.set_cons_zero, List.set_cons_succ])
      | (refine SeqS.take1 (v := undef) (by first | assumption | trivial) (by kernel_rfl) (by decide +kernel) (by decide +kernel) (Or.inr ⟨by rfl, rfl⟩) ?_
         simp only [Act.put, List.setIfInBounds_toArray, List.set_cons_zero, List.set_cons_succ])
      | (refine SeqS.take2 (v := .agg (C).toArray) (by first | assumption | trivial) (by kernel_rfl) (by decide +kernel) (by decide +kernel) (yields_blk (by rfl) 26 (.tmp 1) rfl rfl (fun w' h => KC.out w' h) (hrC)) ?_
         simp only [Act.put, List.setIfInBounds_toArray, List.set_cons_zero, List.set_cons_succ])
      | (refine SeqS.take2 (v := ?_) (by first | assumption | trivial) (by kernel_rfl) (by decide +kernel) (by decide +kernel) (Or.inl ⟨by rfl, ?_⟩) ?_
         rotate_left
         focus
           intro w' hb'
           go_simp
           with_reducible rfl
         simp only [Act.put, List.setIfInBounds_toArray, List.set_cons_zero, List.set_cons_succ])
      | (refine SeqS.take2 (v := undef) (by first | assumption | trivial) (by kernel_rfl) (by decide +kernel) (by decide +kernel) (Or.inr ⟨by rfl, rfl⟩) ?_
         simp only [Act.put, List.setIfInBounds_toArray, List.set_cons_zero, List.set_cons_succ]))
    refine SeqS.alone (by decide +kernel) (by rfl) (fun K hK => ?_)
    go_simp
    go_at_call 8
    refine (rrH.out _).mono ?_
    rintro e w5 ⟨rfl, b5⟩
    go_simp
    have S5 : Below w2.heap.size w2 w5 := S4.trans (b5.mono S4.size)
    refine hK _ _ S5 ?_
    clear hK K
    repeat (first
      | (refine SeqS.take (v := .agg (C).toArray) (by first | assumption | trivial) (by kernel_rfl) (by decide +kernel) (by decide +kernel) (yields_blk (by rfl) 26 (.tmp 1) rfl rfl (fun w' h => KC.out w' h) (hrC)) ?_
         simp only [Act.put, List.setIfInBounds_toArray, List.set_cons_zero, List.set_cons_succ])
      | (refine SeqS.take (v := ?_) (by first | assumption | trivial) (by kernel_rfl) (by decide +kernel) (by decide +kernel) (Or.inl ⟨by rfl, ?_⟩) ?_
         rotate_left
         focus
           intro w' hb'
           go_simp
           with_reducible rfl
         simp only [Act.put, List.setIfInBounds_toArray, List.set_cons_zero, List.set_cons_succ])
      | (refine SeqS.take (v := undef) (by first | assumption | trivial) (by kernel_rfl) (by decide +kernel) (by decide +kernel) (Or.inr ⟨by rfl, rfl⟩) ?_
         simp only [Act.put, List.setIfInBounds_toArray, List.set_cons_zero, List.set_cons_succ])
      | (refine SeqS.take1 (v := .agg (C).toArray) (by first | assumption | trivial) (by kernel_rfl) (by decide +kernel) (by decide +kernel) (yields_blk (by rfl) 26 (.tmp 1) rfl rfl (fun w' h => KC.out w' h) (hrC)) ?_
         simp only [Act.put, List.setIfInBounds_toArray, List.set_cons_zero, List.set_cons_succ])
      | (refine SeqS.take1 (v := ?_) (by first | assumption | trivial) (by kernel_rfl) (by decide +kernel) (by decide +kernel) (Or.inl ⟨by rfl, ?_⟩) ?_
         rotate_left
         focus
           intro w' hb'
           go_simp
           with_reducible rfl
         simp only [Act.put, List.setIfInBounds_toArray, List.set_cons_zero, List.set_cons_succ])
      | (refine SeqS.take1 (v := undef) (by first | assumption | trivial) (by kernel_rfl) (by decide +kernel) (by decide +kernel) (Or.inr ⟨by rfl, rfl⟩) ?_
         simp only [Act.put, List.setIfInBounds_toArray, List.set_cons_zero, List.set_cons_succ])
      | (refine SeqS.take2 (v := .agg (C).toArray) (by first | assumption | trivial) (by kernel_rfl) (by decide +kernel) (by decide +kernel) (yields_blk (by rfl) 26 (.tmp 1) rfl rfl (fun w' h => KC.out w' h) (hrC)) ?_
         simp only [Act.put, List.setIfInBounds_toArray, List.set_cons_zero, List.set_cons_succ])
      | (refine SeqS.take2 (v := ?_) (by first | assumption | trivial) (by kernel_rfl) (by decide +kernel) (by decide +kernel) (Or.inl ⟨by rfl, ?_⟩) ?_
         rotate_left
         focus
           intro w' hb'
           go_simp
           with_reducible rfl
         simp only [Act.put, List.setIfInBounds_toArray, List.set_cons_zero, List.set_cons_succ])
      | (refine SeqS.take2 (v := undef) (by first | assumption | trivial) (by kernel_rfl) (by decide +kernel) (by decide +kernel) (Or.inr ⟨by rfl, rfl⟩) ?_
         simp only [Act.put, List.setIfInBounds_toArray, List.set_cons_zero, List.set_cons_succ]))
    refine SeqS.alone (by decide +kernel) (by rfl) (fun K hK => ?_)
    go_simp
    go_at_call 9
    refine (rlH.out _).mono ?_
    rintro e w6 ⟨rfl, b6⟩
    go_simp
    have S6 : Below w2.heap.size w2 w6 := S5.trans (b6.mono S5.size)
    refine hK _ _ S6 ?_
    clear hK K
    repeat (first
      | (refine SeqS.take (v := ?_) (by first | assumption | trivial) (by kernel_rfl) (by decide +kernel) (by decide +kernel) (Or.inl ⟨by rfl, ?_⟩) ?_
         rotate_left
         focus
           intro w' hb'
           go_simp
           with_reducible rfl
         simp only [Act.put, List.setIfInBounds_toArray, List.set_cons_zero, List.set_cons_succ])
      | (refine SeqS.take (v := undef) (by first | assumption | trivial) (by kernel_rfl) (by decide +kernel) (by decide +kernel) (Or.inr ⟨by rfl, rfl⟩) ?_
         simp only [Act.put, List.setIfInBounds_toArray, List.set_cons_zero, List.set_cons_succ])
      | (refine SeqS.take1 (v := ?_) (by first | assumption | trivial) (by kernel_rfl) (by decide +kernel) (by decide +kernel) (Or.inl ⟨by rfl, ?_⟩) ?_
         rotate_left
         focus
           intro w' hb'
           go_simp
           with_reducible rfl
         simp only [Act.put, List.setIfInBounds_toArray, List.set_cons_zero, List.set_cons_succ])
      | (refine SeqS.take1 (v := undef) (by first | assumption | trivial) (by kernel_rfl) (by decide +kernel) (by decide +kernel) (Or.inr ⟨by rfl, rfl⟩) ?_
         simp only [Act.put, List.setIfInBounds_toArray, List.set_cons_zero, List.set_cons_succ])
      | (refine SeqS.take2 (v := ?_) (by first | assumption | trivial) (by kernel_rfl) (by decide +kernel) (by decide +kernel) (Or.inl ⟨by rfl, ?_⟩) ?_
         rotate_left
         focus
           intro w' hb'
           go_simp
           with_reducible rfl
         simp only [Act.put, List.setIfInBounds_toArray, List.set_cons_zero, List.set_cons_succ])
      | (refine SeqS.take2 (v := undef) (by first | assumption | trivial) (by kernel_rfl) (by decide +kernel) (by decide +kernel) (Or.inr ⟨by rfl, rfl⟩) ?_
         simp only [Act.put, List.setIfInBounds_toArray, List.set_cons_zero, List.set_cons_succ]))
    refine SeqS.done (by decide +kernel) ?_
    have B6 := B2H.out.trans (S6.mono B2H.out.size)
    have hI6 := I2H.out.keep S6
    have hG6 := KC.out w6 S6
    clear bD b3 b4 b5 b6 S3 S4 S5 S6 KC B2H I2H rgH rrH rlH
    go_wp2_with fail
    refine (hal.out w6 B6).mono ?_
    rintro q w7 ⟨rfl, b7⟩
    go_wp2
    go_ret
    exact ⟨rfl, B6.trans (b7.mono B6.size)⟩
  | true =>
    have hrt := (rightR_iff r).1 hF
    have he : encR r = (bytesR r, 0) := by unfold encR; rw [hF, if_pos rfl]
    have hxr : ∀ x ∈ bytesR r, 0 ≤ x ∧ x < 256 := bytesR_range hrt
    rw [he] at en
    rw [hF] at rg rr
    dsimp only at en
    rw [bytesR_len] at en
    have hbt := fun w' => rfBytes_any r w' hrt ho
    have hde := fun w' b d (h : Ints .u8 w' b 22 d (bytesR r)) => rlDecode_any b 22 d (bytesR r) w' h hxr (by decide)
    rw [decR_bytesR ho hrt] at hde
    have hpa := fun w' (h : Below w.heap.size w w') => rlParse_any (strOfNums (lineR r)) w' (hP.keep h hP.le) (by rw [str_size]; have := lineR_len ho; omega)
    rw [nums_str (lineR_ok r), parseR_line hrt ho] at hpa
    dsimp only at hde hpa
    have heq := Lib.hid (eq_rp r r)
    rw [rpSame_self] at heq
    have cv := Lib.hid (fun (w' : World) (b : Option Addr) (d : Nat) (h : Ints .u8 w' b 22 d (bytesR r)) => h.string (P := Tryz.prog) 27 9 5 Tryz.underlying27 Tryz.underlying5 Tryz.underlying9)
    obtain ⟨P, hPP⟩ : ∃ P, bytesR r = P := ⟨_, rfl⟩
    rw [hPP] at en hbt hde cv
    obtain ⟨SA, hSA⟩ : ∃ S, strOfNums P = S := ⟨_, rfl⟩
    rw [hSA] at cv
    obtain ⟨L, hL⟩ : ∃ S, strOfNums (lineR r) = S := ⟨_, rfl⟩
    rw [hL] at li rl hpa
    obtain ⟨M, hM⟩ : ∃ M : Nat, 22 = M := ⟨_, rfl⟩
    rw [hM] at en hbt hde cv
    obtain ⟨C, hC⟩ : ∃ D, rpV r = D := ⟨_, rfl⟩
    rw [hC] at en li rg rr rl hbt hde hpa heq ⊢
    have enH := Lib.hid en
    have liH := Lib.hid li
    have rgH := Lib.hid rg
    have rrH := Lib.hid rr
    have rlH := Lib.hid rl
    have bH := Lib.hid hbt
    have deH := Lib.hid hde
    have paH := Lib.hid hpa
    have hng := noGuardRp
    clear en li rg rr rl he hL hF ho hP hrt hxr hbt hde hpa hPP hSA hM
    have hCl : C.length = 7 := by rw [← hC]; rfl
    have hC1 : ∀ v ∈ C, v.oneCell' = true := by rw [← hC]; exact rpV_one _
    have hrC : IsRow Tryz.prog 26 C.length := by rw [hCl]; exact rowRp
    have hb := below1 w (.cells C.toArray 26)
    have hk : Blk (w.alloc (.cells C.toArray 26)) w.heap.size 26 C := Blk.new w _ C
    obtain ⟨W, hW⟩ : ∃ V, w.alloc (.cells C.toArray 26) = V := ⟨_, rfl⟩
    rw [hW] at hb hk
    obtain ⟨G, g9⟩ : ∃ G, w.heap.size = G := ⟨_, rfl⟩
    rw [g9] at hk
    have gH := Lib.hid g9
    clear hC
    go_enter Tryz.func3, Tryz.ntmps3
    go_wp2_with ((with_reducible refine box_row rfl 26 (.tmp 0) rfl C ?_ ?_); rfl; refine RowKit.Hid.out ?_)
    refine Lib.hid ?_
    clear hW
    go_wp2_with ((with_reducible refine wpList_load_blk rfl 26 (.tmp 1) rfl ?_ hk rowRp hCl ?_); rfl)
    refine (enH.out W).mono ?_
    rintro q w1 ⟨b, d, rfl, hI, b1⟩
    have hk1 := hk.keep b1 hk.lt
    have B1 := hb.trans (b1.mono hb.size)
    clear hk hb enH b1
    go_wp2_with ((with_reducible refine wpList_load_blk rfl 26 (.tmp 1) rfl ?_ hk1 rowRp hCl ?_); rfl)
    refine (liH.out w1 B1).mono ?_
    rintro q w2 ⟨rfl, b2⟩
    have hk2 := hk1.keep b2 hk1.lt
    have hI2 := hI.keep b2
    have B2 := B1.trans (b2.mono B1.size)
    clear hk1 hI B1 b2 liH
    go_wp2_with fail
    have bD : Below w2.heap.size w2 w2.drew := (Below.refl _ _).drew
    have KC := Lib.hid (fun w' (h : Below w2.heap.size w2 w') => hk2.keep h hk2.lt)
    have I2H := Lib.hid hI2
    have B2H := Lib.hid B2
    clear hk2 hI2 B2
    refine region_seqS (fun w' => Below w2.heap.size w2 w') (by kernel_rfl) bD ?_
    simp only [pairs, Nat.reduceAdd]
    repeat (first
      | (refine SeqS.take (v := .agg (C).toArray) (by first | assumption | trivial) (by kernel_rfl) (by decide +kernel) (by decide +kernel) (yields_blk (by rfl) 26 (.tmp 1) rfl rfl (fun w' h => KC.out w' h) (hrC)) ?_
         simp only [Act.put, List.setIfInBounds_toArray, List.set_cons_zero, List.set_cons_succ])
      | (refine SeqS.take (v := ?_) (by first | assumption | trivial) (by kernel_rfl) (by decide +kernel) (by decide +kernel) (Or.inl ⟨by rfl, ?_⟩) ?_
         rotate_left
         focus
           intro w' hb'
           go_simp
           with_reducible rfl
         simp only [Act.put, List.setIfInBounds_toArray, List.set_cons_zero, List.set_cons_succ])
      | (refine SeqS.take (v := undef) (by first | assumption | trivial) (by kernel_rfl) (by decide +kernel) (by decide +kernel) (Or.inr ⟨by rfl, rfl⟩) ?_
         simp only [Act.put, List.setIfInBounds_toArray, List.set_cons_zero, List.set_cons_succ])
      | (refine SeqS.take1 (v := .agg (C).toArray) (by first | assumption | trivial) (by kernel_rfl) (by decide +kernel) (by decide +kernel) (yields_blk (by rfl) 26 (.tmp 1) rfl rfl (fun w' h => KC.out w' h) (hrC)) ?_
         simp only [Act.put, List.setIfInBounds_toArray, List.set_cons_zero, List.set_cons_succ])
      | (refine SeqS.take1 (v := ?_) (by first | assumption | trivial) (by kernel_rfl) (by decide +kernel) (by decide +kernel) (Or.inl ⟨by rfl, ?_⟩) ?_
         rotate_left
         focus
           intro w' hb'
           go_simp
           with_reducible rfl
         simp only [Act.put, List.setIfInBounds_toArray, List.set_cons_zero, List.set_cons_succ])
      | (refine SeqS.take1 (v := undef) (by first | assumption | trivial) (by kernel_rfl) (by decide +kernel) (by decide +kernel) (Or.inr ⟨by rfl, rfl⟩) ?_
         simp only [Act.put, List.setIfInBounds_toArray, List.set_cons_zero, List.set_cons_succ])
      | (refine SeqS.take2 (v := .agg (C).toArray) (by first | assumption | trivial) (by kernel_rfl) (by decide +kernel) (by decide +kernel) (yields_blk (by rfl) 26 (.tmp 1) rfl rfl (fun w' h => KC.out w' h) (hrC)) ?_
         simp only [Act.put, List.setIfInBounds_toArray, List.set_cons_zero, List.set_cons_succ])
      | (refine SeqS.take2 (v := ?_) (by first | assumption | trivial) (by kernel_rfl) (by decide +kernel) (by decide +kernel) (Or.inl ⟨by rfl, ?_⟩) ?_
         rotate_left
         focus
           intro w' hb'
           go_simp
           with_reducible rfl
         simp only [Act.put, List.setIfInBounds_toArray, List.set_cons_zero, List.set_cons_succ])
      | (refine SeqS.take2 (v := undef) (by first | assumption | trivial) (by kernel_rfl) (by decide +kernel) (by decide +kernel) (Or.inr ⟨by rfl, rfl⟩) ?_
         simp only [Act.put, List.setIfInBounds_toArray, List.set_cons_zero, List.set_cons_succ]))
    refine SeqS.alone (by decide +kernel) (by rfl) (fun K hK => ?_)
    go_simp
    go_at_call 7
    refine (rgH.out _).mono ?_
    rintro e w3 ⟨rfl, b3⟩
    go_simp
    have S3 : Below w2.heap.size w2 w3 := bD.trans (b3.mono bD.size)
    refine hK _ _ S3 ?_
    clear hK K
    refine SeqS.alone (by decide +kernel) (by rfl) (fun K hK => ?_)
    go_simp
    go_at_call 8
    refine (rrH.out _).mono ?_
    rintro e w4 ⟨rfl, b4⟩
    go_simp
    have S4 : Below w2.heap.size w2 w4 := S3.trans (b4.mono S3.size)
    refine hK _ _ S4 ?_
    clear hK K
    repeat (first
      | (refine SeqS.take (v := .agg (C).toArray) (by first | assumption | trivial) (by kernel_rfl) (by decide +kernel) (by decide +kernel) (yields_blk (by rfl) 26 (.tmp 1) rfl rfl (fun w' h => KC.out w' h) (hrC)) ?_
         simp only [Act.put, List.setIfInBounds_toArray, List.set_cons_zero, List.set_cons_succ])
      | (refine SeqS.take (v := ?_) (by first | assumption | trivial) (by kernel_rfl) (by decide +kernel) (by decide +kernel) (Or.inl ⟨by rfl, ?_⟩) ?_
         rotate_left
         focus
           intro w' hb'
           go_simp
           with_reducible rfl
         simp only [Act.put, List.setIfInBounds_toArray, List.set_cons_zero, List.set_cons_succ])
      | (refine SeqS.take (v := undef) (by first | assumption | trivial) (by kernel_rfl) (by decide +kernel) (by decide +kernel) (Or.inr ⟨by rfl, rfl⟩) ?_
         simp only [Act.put, List.setIfInBounds_toArray, List.set_cons_zero, List.set_cons_succ])
      | (refine SeqS.take1 (v := .agg (C).toArray) (by first | assumption | trivial) (by kernel_rfl) (by decide +kernel) (by decide +kernel) (yields_blk (by rfl) 26 (.tmp 1) rfl rfl (fun w' h => KC.out w' h) (hrC)) ?_
         simp only [Act.put, List.setIfInBounds_toArray, List.set_cons_zero, List.set_cons_succ])
      | (refine SeqS.take1 (v := ?_) (by first | assumption | trivial) (by kernel_rfl) (by decide +kernel) (by decide +kernel) (Or.inl ⟨by rfl, ?_⟩) ?_
         rotate_left
         focus
           intro w' hb'
           go_simp
           with_reducible rfl
         simp only [Act.put, List.setIfInBounds_toArray, List.set_cons_zero, List.set_cons_succ])
      | (refine SeqS.take1 (v := undef) (by first | assumption | trivial) (by kernel_rfl) (by decide +kernel) (by decide +kernel) (Or.inr ⟨by rfl, rfl⟩) ?_
         simp only [Act.put, List.setIfInBounds_toArray, List.set_cons_zero, List.set_cons_succ])
      | (refine SeqS.take2 (v := .agg (C).toArray) (by first | assumption | trivial) (by kernel_rfl) (by decide +kernel) (by decide +kernel) (yields_blk (by rfl) 26 (.tmp 1) rfl rfl (fun w' h => KC.out w' h) (hrC)) ?_
         simp only [Act.put, List.setIfInBounds_toArray, List.set_cons_zero, List.set_cons_succ])
      | (refine SeqS.take2 (v := ?_) (by first | assumption | trivial) (by kernel_rfl) (by decide +kernel) (by decide +kernel) (Or.inl ⟨by rfl, ?_⟩) ?_
         rotate_left
         focus
           intro w' hb'
           go_simp
           with_reducible rfl
         simp only [Act.put, List.setIfInBounds_toArray, List.set_cons_zero, List.set_cons_succ])
      | (refine SeqS.take2 (v := undef) (by first | assumption | trivial) (by kernel_rfl) (by decide +kernel) (by decide +kernel) (Or.inr ⟨by rfl, rfl⟩) ?_
         simp only [Act.put, List.setIfInBounds_toArray, List.set_cons_zero, List.set_cons_succ]))
    refine SeqS.alone (by decide +kernel) (by rfl) (fun K hK => ?_)
    go_simp
    go_at_call 8
    refine (rrH.out _).mono ?_
    rintro e w5 ⟨rfl, b5⟩
    go_simp
    have S5 : Below w2.heap.size w2 w5 := S4.trans (b5.mono S4.size)
    refine hK _ _ S5 ?_
    clear hK K
    repeat (first
      | (refine SeqS.take (v := .agg (C).toArray) (by first | assumption | trivial) (by kernel_rfl) (by decide +kernel) (by decide +kernel) (yields_blk (by rfl) 26 (.tmp 1) rfl rfl (fun w' h => KC.out w' h) (hrC)) ?_
         simp only [Act.put, List.setIfInBounds_toArray, List.set_cons_zero, List.set_cons_succ])
      | (refine SeqS.take (v := ?_) (by first | assumption | trivial) (by kernel_rfl) (by decide +kernel) (by decide +kernel) (Or.inl ⟨by rfl, ?_⟩) ?_
         rotate_left
         focus
           intro w' hb'
           go_simp
           with_reducible rfl
         simp only [Act.put, List.setIfInBounds_toArray, List.set_cons_zero, List.set_cons_succ])
      | (refine SeqS.take (v := undef) (by first | assumption | trivial) (by kernel_rfl) (by decide +kernel) (by decide +kernel) (Or.inr ⟨by rfl, rfl⟩) ?_
         simp only [Act.put, List.setIfInBounds_toArray, List.set_cons_zero, List.set_cons_succ])
      | (refine SeqS.take1 (v := .agg (C).toArray) (by first | assumption | trivial) (by kernel_rfl) (by decide +kernel) (by decide +kernel) (yields_blk (by rfl) 26 (.tmp 1) rfl rfl (fun w' h => KC.out w' h) (hrC)) ?_
         simp only [Act.put, List.setIfInBounds_toArray, List.set_cons_zero, List.set_cons_succ])
      | (refine SeqS.take1 (v := ?_) (by first | assumption | trivial) (by kernel_rfl) (by decide +kernel) (by decide +kernel) (Or.inl ⟨by rfl, ?_⟩) ?_
         rotate_left
         focus
           intro w' hb'
           go_simp
           with_reducible rfl
         simp only [Act.put, List.setIfInBounds_toArray, List.set_cons_zero, List.set_cons_succ])
      | (refine SeqS.take1 (v := undef) (by first | assumption | trivial) (by kernel_rfl) (by decide +kernel) (by decide +kernel) (Or.inr ⟨by rfl, rfl⟩) ?_
         simp only [Act.put, List.setIfInBounds_toArray, List.set_cons_zero, List.set_cons_succ])
      | (refine SeqS.take2 (v := .agg (C).toArray) (by first | assumption | trivial) (by kernel_rfl) (by decide +kernel) (by decide +kernel) (yields_blk (by rfl) 26 (.tmp 1) rfl rfl (fun w' h => KC.out w' h) (hrC)) ?_
         simp only [Act.put, List.setIfInBounds_toArray, List.set_cons_zero, List.set_cons_succ])
      | (refine SeqS.take2 (v := ?_) (by first | assumption | trivial) (by kernel_rfl) (by decide +kernel) (by decide +kernel) (Or.inl ⟨by rfl, ?_⟩) ?_
         rotate_left
         focus
           intro w' hb'
           go_simp
           with_reducible rfl
         simp only [Act.put, List.setIfInBounds_toArray, List.set_cons_zero, List.set_cons_succ])
      | (refine SeqS.take2 (v := undef) (by first | assumption | trivial) (by kernel_rfl) (by decide +kernel) (by decide +kernel) (Or.inr ⟨by rfl, rfl⟩) ?_
         simp only [Act.put, List.setIfInBounds_toArray, List.set_cons_zero, List.set_cons_succ]))
    refine SeqS.alone (by decide +kernel) (by rfl) (fun K hK => ?_)
    go_simp
    go_at_call 9
    refine (rlH.out _).mono ?_
    rintro e w6 ⟨rfl, b6⟩
    go_simp
    have S6 : Below w2.heap.size w2 w6 := S5.trans (b6.mono S5.size)
    refine hK _ _ S6 ?_
    clear hK K
    repeat (first
      | (refine SeqS.take (v := ?_) (by first | assumption | trivial) (by kernel_rfl) (by decide +kernel) (by decide +kernel) (Or.inl ⟨by rfl, ?_⟩) ?_
         rotate_left
         focus
           intro w' hb'
           go_simp
           with_reducible rfl
         simp only [Act.put, List.setIfInBounds_toArray, List.set_cons_zero, List.set_cons_succ])
      | (refine SeqS.take (v := undef) (by first | assumption | trivial) (by kernel_rfl) (by decide +kernel) (by decide +kernel) (Or.inr ⟨by rfl, rfl⟩) ?_
         simp only [Act.put, List.setIfInBounds_toArray, List.set_cons_zero, List.set_cons_succ])
      | (refine SeqS.take1 (v := ?_) (by first | assumption | trivial) (by kernel_rfl) (by decide +kernel) (by decide +kernel) (Or.inl ⟨by rfl, ?_⟩) ?_
         rotate_left
         focus
           intro w' hb'
           go_simp
           with_reducible rfl
         simp only [Act.put, List.setIfInBounds_toArray, List.set_cons_zero, List.set_cons_succ])
      | (refine SeqS.take1 (v := undef) (by first | assumption | trivial) (by kernel_rfl) (by decide +kernel) (by decide +kernel) (Or.inr ⟨by rfl, rfl⟩) ?_
         simp only [Act.put, List.setIfInBounds_toArray, List.set_cons_zero, List.set_cons_succ])
      | (refine SeqS.take2 (v := ?_) (by first | assumption | trivial) (by kernel_rfl) (by decide +kernel) (by decide +kernel) (Or.inl ⟨by rfl, ?_⟩) ?_
         rotate_left
         focus
           intro w' hb'
           go_simp
           with_reducible rfl
         simp only [Act.put, List.setIfInBounds_toArray, List.set_cons_zero, List.set_cons_succ])
      | (refine SeqS.take2 (v := undef) (by first | assumption | trivial) (by kernel_rfl) (by decide +kernel) (by decide +kernel) (Or.inr ⟨by rfl, rfl⟩) ?_
         simp only [Act.put, List.setIfInBounds_toArray, List.set_cons_zero, List.set_cons_succ]))
    refine SeqS.done (by decide +kernel) ?_
    have B6 := B2H.out.trans (S6.mono B2H.out.size)
    have hI6 := I2H.out.keep S6
    have hG6 := KC.out w6 S6
    clear bD b3 b4 b5 b6 S3 S4 S5 S6 KC B2H I2H rgH rrH rlH
    have hdd := Lib.hid (deH.out w6 b d hI6)
    go_wp2_with fail
    refine hdd.out.mono ?_
    rintro q w7 ⟨rfl, b7⟩
    have hG7 := hG6.keep b7 hG6.lt
    have hI7 := hI6.keep b7
    have B7 := B6.trans (b7.mono B6.size)
    have hzA := Blk.new w7 26 (rpC 0 0 0 0 0 0 0)
    have bA := below1 w7 (.cells (rpC 0 0 0 0 0 0 0).toArray 26)
    have hGA := hG7.keep bA hG7.lt
    have hIA := hI7.keep bA
    have BA := B7.trans (bA.mono B7.size)
    have hGN := hG7.lt
    have hIN := hI7.isIn.2
    have hwN := B7.size
    obtain ⟨N, hN⟩ : ∃ N, w7.heap.size = N := ⟨_, rfl⟩
    obtain ⟨U, hU⟩ : ∃ W, w7.alloc (.cells (rpC 0 0 0 0 0 0 0).toArray 26) = W := ⟨_, rfl⟩
    rw [hU] at hzA hGA hIA BA
    rw [hN] at hzA hGN hIN hwN
    clear hdd hG6 hI6 B6 b7 hG7 hI7 B7 bA deH
    go_wp2_with ((with_reducible refine wpList_alloc_blk rfl 26 rfl zeroRp ?_); refine RowKit.Hid.out ?_)
    refine Lib.hid ?_
    try simp only [Act.put, List.setIfInBounds_toArray, List.set_cons_zero, List.set_cons_succ]
    try rw [hU]
    try rw [hN]
    clear hU hN
    refine store_row rfl 26 (.tmp 6) (.tmp 50) rfl rfl rfl hzA rowRp hCl rfl hC1 ?_
    intro w8 hN8 hg8
    have hG8 := hGA.grown hg8 (fun e => by injection e with e; omega)
    have hI8 := hIA.grown hg8 (fun x hx h0 => by have := hIN x hx h0; omega)
    have B8 := BA.grown hg8 BA.size (fun q hq => by injection hq with hq; omega)
    have hpp := Lib.hid (paH.out w8 B8)
    clear hzA hGA hIA BA hg8 hGN hIN hwN paH
    go_wp2_with fail
    refine hpp.out.mono ?_
    rintro q w9 ⟨rfl, b9⟩
    have hG9 := hG8.keep b9 hG8.lt
    have hN9 := hN8.keep b9 hN8.lt
    have hI9 := hI8.keep b9
    have B9 := B8.trans (b9.mono B8.size)
    have hzA := Blk.new w9 26 (rpC 0 0 0 0 0 0 0)
    have bA := below1 w9 (.cells (rpC 0 0 0 0 0 0 0).toArray 26)
    have hGA := hG9.keep bA hG9.lt
    have hNA := hN9.keep bA hN9.lt
    have hIA := hI9.keep bA
    have BA := B9.trans (bA.mono B9.size)
    have hGN := hG9.lt
    have hNN := hN9.lt
    have hIN := hI9.isIn.2
    have hwN := B9.size
    obtain ⟨O, hO⟩ : ∃ N, w9.heap.size = N := ⟨_, rfl⟩
    obtain ⟨U, hU⟩ : ∃ W, w9.alloc (.cells (rpC 0 0 0 0 0 0 0).toArray 26) = W := ⟨_, rfl⟩
    rw [hU] at hzA hGA hNA hIA BA
    rw [hO] at hzA hGN hNN hIN hwN
    clear hpp hG8 hN8 hI8 B8 b9 hG9 hN9 hI9 B9 bA
    go_wp2_with ((with_reducible refine wpList_alloc_blk rfl 26 rfl zeroRp ?_); refine RowKit.Hid.out ?_)
    refine Lib.hid ?_
    try simp only [Act.put, List.setIfInBounds_toArray, List.set_cons_zero, List.set_cons_succ]
    try rw [hU]
    try rw [hO]
    clear hU hO
    refine store_row rfl 26 (.tmp 8) (.tmp 55) rfl rfl rfl hzA rowRp hCl rfl hC1 ?_
    intro wa hOa hga
    have hGa := hGA.grown hga (fun e => by injection e with e; omega)
    have hNa := hNA.grown hga (fun e => by injection e with e; omega)
    have hIa := hIA.grown hga (fun x hx h0 => by have := hIN x hx h0; omega)
    have Ba := BA.grown hga BA.size (fun q hq => by injection hq with hq; omega)
    clear hzA hGA hNA hIA BA hga hGN hNN hIN hwN
    go_wp2_with fail
    have ba : Below wa.heap.size wa wa.drew := (Below.refl _ _).drew
    have KG := Lib.hid (fun w' (h : Below wa.heap.size wa w') => hGa.keep h hGa.lt)
    have KN := Lib.hid (fun w' (h : Below wa.heap.size wa w') => hNa.keep h hNa.lt)
    have KO := Lib.hid (fun w' (h : Below wa.heap.size wa w') => hOa.keep h hOa.lt)
    have v1 := Lib.hid (fun w' (h : Below wa.heap.size wa w') => cv.out w' b d (hIa.keep h))
    have BH := Lib.hid Ba
    clear hGa hNa hOa hIa Ba
    refine region_seqS (fun w' => Below wa.heap.size wa w') (by kernel_rfl) ba ?_
    simp only [pairs, Nat.reduceAdd]
    repeat (first
      | (refine SeqS.take (v := .agg (C).toArray) (by first | assumption | trivial) (by kernel_rfl) (by decide +kernel) (by decide +kernel) (yields_blk (by rfl) 26 (.tmp 1) rfl rfl (fun w' h => KG.out w' h) (hrC)) ?_
         simp only [Act.put, List.setIfInBounds_toArray, List.set_cons_zero, List.set_cons_succ])
      | (refine SeqS.take (v := ?_) (by first | assumption | trivial) (by kernel_rfl) (by decide +kernel) (by decide +kernel) (Or.inl ⟨by rfl, ?_⟩) ?_
         rotate_left
         focus
           intro w' hb'
           go_simp
           with_reducible rfl
         simp only [Act.put, List.setIfInBounds_toArray, List.set_cons_zero, List.set_cons_succ])
      | (refine SeqS.take (v := ?_) (by first | assumption | trivial) (by kernel_rfl) (by decide +kernel) (by decide +kernel) (Or.inl ⟨by rfl, ?_⟩) ?_
         rotate_left
         focus
           intro w' hb'
           have d0 := v1.out w' hb'
           go_simp
           with_reducible rfl
         simp only [Act.put, List.setIfInBounds_toArray, List.set_cons_zero, List.set_cons_succ])
      | (refine SeqS.take (v := undef) (by first | assumption | trivial) (by kernel_rfl) (by decide +kernel) (by decide +kernel) (Or.inr ⟨by rfl, rfl⟩) ?_
         simp only [Act.put, List.setIfInBounds_toArray, List.set_cons_zero, List.set_cons_succ])
      | (refine SeqS.take1 (v := .agg (C).toArray) (by first | assumption | trivial) (by kernel_rfl) (by decide +kernel) (by decide +kernel) (yields_blk (by rfl) 26 (.tmp 1) rfl rfl (fun w' h => KG.out w' h) (hrC)) ?_
         simp only [Act.put, List.setIfInBounds_toArray, List.set_cons_zero, List.set_cons_succ])
      | (refine SeqS.take1 (v := ?_) (by first | assumption | trivial) (by kernel_rfl) (by decide +kernel) (by decide +kernel) (Or.inl ⟨by rfl, ?_⟩) ?_
         rotate_left
         focus
           intro w' hb'
           go_simp
           with_reducible rfl
         simp only [Act.put, List.setIfInBounds_toArray, List.set_cons_zero, List.set_cons_succ])
      | (refine SeqS.take1 (v := ?_) (by first | assumption | trivial) (by kernel_rfl) (by decide +kernel) (by decide +kernel) (Or.inl ⟨by rfl, ?_⟩) ?_
         rotate_left
         focus
           intro w' hb'
           have d0 := v1.out w' hb'
           go_simp
           with_reducible rfl
         simp only [Act.put, List.setIfInBounds_toArray, List.set_cons_zero, List.set_cons_succ])
      | (refine SeqS.take1 (v := undef) (by first | assumption | trivial) (by kernel_rfl) (by decide +kernel) (by decide +kernel) (Or.inr ⟨by rfl, rfl⟩) ?_
         simp only [Act.put, List.setIfInBounds_toArray, List.set_cons_zero, List.set_cons_succ])
      | (refine SeqS.take2 (v := .agg (C).toArray) (by first | assumption | trivial) (by kernel_rfl) (by decide +kernel) (by decide +kernel) (yields_blk (by rfl) 26 (.tmp 1) rfl rfl (fun w' h => KG.out w' h) (hrC)) ?_
         simp only [Act.put, List.setIfInBounds_toArray, List.set_cons_zero, List.set_cons_succ])
      | (refine SeqS.take2 (v := ?_) (by first | assumption | trivial) (by kernel_rfl) (by decide +kernel) (by decide +kernel) (Or.inl ⟨by rfl, ?_⟩) ?_
         rotate_left
         focus
           intro w' hb'
           go_simp
           with_reducible rfl
         simp only [Act.put, List.setIfInBounds_toArray, List.set_cons_zero, List.set_cons_succ])
      | (refine SeqS.take2 (v := ?_) (by first | assumption | trivial) (by kernel_rfl) (by decide +kernel) (by decide +kernel) (Or.inl ⟨by rfl, ?_⟩) ?_
         rotate_left
         focus
           intro w' hb'
           have d0 := v1.out w' hb'
           go_simp
           with_reducible rfl
         simp only [Act.put, List.setIfInBounds_toArray, List.set_cons_zero, List.set_cons_succ])
      | (refine SeqS.take2 (v := undef) (by first | assumption | trivial) (by kernel_rfl) (by decide +kernel) (by decide +kernel) (Or.inr ⟨by rfl, rfl⟩) ?_
         simp only [Act.put, List.setIfInBounds_toArray, List.set_cons_zero, List.set_cons_succ]))
    refine SeqS.alone (by decide +kernel) (by rfl) (fun K hK => ?_)
    go_simp
    go_at_call 13
    refine (bH.out _).mono ?_
    rintro e w11 ⟨b', d', rfl, hJ, b11⟩
    go_simp
    have S11 : Below wa.heap.size wa w11 := ba.trans (b11.mono ba.size)
    refine hK _ _ S11 ?_
    clear hK K
    refine SeqS.alone (by decide +kernel) (by rfl) (fun K hK => ?_)
    have v2 := cv.out w11 b' d' hJ
    go_simp
    refine hK _ _ S11 ?_
    clear hK K v2
    repeat (first
      | (refine SeqS.take (v := .agg (C).toArray) (by first | assumption | trivial) (by kernel_rfl) (by decide +kernel) (by decide +kernel) (yields_blk (by rfl) 26 (.tmp 6) rfl rfl (fun w' h => KN.out w' h) (hrC)) ?_
         simp only [Act.put, List.setIfInBounds_toArray, List.set_cons_zero, List.set_cons_succ])
      | (refine SeqS.take (v := .agg (C).toArray) (by first | assumption | trivial) (by kernel_rfl) (by decide +kernel) (by decide +kernel) (yields_blk (by rfl) 26 (.tmp 1) rfl rfl (fun w' h => KG.out w' h) (hrC)) ?_
         simp only [Act.put, List.setIfInBounds_toArray, List.set_cons_zero, List.set_cons_succ])
      | (refine SeqS.take (v := .agg (C).toArray) (by first | assumption | trivial) (by kernel_rfl) (by decide +kernel) (by decide +kernel) (yields_blk (by rfl) 26 (.tmp 8) rfl rfl (fun w' h => KO.out w' h) (hrC)) ?_
         simp only [Act.put, List.setIfInBounds_toArray, List.set_cons_zero, List.set_cons_succ])
      | (refine SeqS.take (v := .bool true) (by first | assumption | trivial) (by kernel_rfl) (by decide +kernel) (by decide +kernel) (yields_eqR (by rfl) rfl rfl rfl hng heq.out) ?_
         simp only [Act.put, List.setIfInBounds_toArray, List.set_cons_zero, List.set_cons_succ])
      | (refine SeqS.take (v := ?_) (by first | assumption | trivial) (by kernel_rfl) (by decide +kernel) (by decide +kernel) (Or.inl ⟨by rfl, ?_⟩) ?_
         rotate_left
         focus
           intro w' hb'
           go_simp
           with_reducible rfl
         simp only [Act.put, List.setIfInBounds_toArray, List.set_cons_zero, List.set_cons_succ])
      | (refine SeqS.take (v := undef) (by first | assumption | trivial) (by kernel_rfl) (by decide +kernel) (by decide +kernel) (Or.inr ⟨by rfl, rfl⟩) ?_
         simp only [Act.put, List.setIfInBounds_toArray, List.set_cons_zero, List.set_cons_succ])
      | (refine SeqS.take1 (v := .agg (C).toArray) (by first | assumption | trivial) (by kernel_rfl) (by decide +kernel) (by decide +kernel) (yields_blk (by rfl) 26 (.tmp 6) rfl rfl (fun w' h => KN.out w' h) (hrC)) ?_
         simp only [Act.put, List.setIfInBounds_toArray, List.set_cons_zero, List.set_cons_succ])
      | (refine SeqS.take1 (v := .agg (C).toArray) (by first | assumption | trivial) (by kernel_rfl) (by decide +kernel) (by decide +kernel) (yields_blk (by rfl) 26 (.tmp 1) rfl rfl (fun w' h => KG.out w' h) (hrC)) ?_
         simp only [Act.put, List.setIfInBounds_toArray, List.set_cons_zero, List.set_cons_succ])
      | (refine SeqS.take1 (v := .agg (C).toArray) (by first | assumption | trivial) (by kernel_rfl) (by decide +kernel) (by decide +kernel) (yields_blk (by rfl) 26 (.tmp 8) rfl rfl (fun w' h => KO.out w' h) (hrC)) ?_
         simp only [Act.put, List.setIfInBounds_toArray, List.set_cons_zero, List.set_cons_succ])
      | (refine SeqS.take1 (v := .bool true) (by first | assumption | trivial) (by kernel_rfl) (by decide +kernel) (by decide +kernel) (yields_eqR (by rfl) rfl rfl rfl hng heq.out) ?_
         simp only [Act.put, List.setIfInBounds_toArray, List.set_cons_zero, List.set_cons_succ])
      | (refine SeqS.take1 (v := ?_) (by first | assumption | trivial) (by kernel_rfl) (by decide +kernel) (by decide +kernel) (Or.inl ⟨by rfl, ?_⟩) ?_
         rotate_left
         focus
           intro w' hb'
           go_simp
           with_reducible rfl
         simp only [Act.put, List.setIfInBounds_toArray, List.set_cons_zero, List.set_cons_succ])
      | (refine SeqS.take1 (v := undef) (by first | assumption | trivial) (by kernel_rfl) (by decide +kernel) (by decide +kernel) (Or.inr ⟨by rfl, rfl⟩) ?_
         simp only [Act.put, List.setIfInBounds_toArray, List.set_cons_zero, List.set_cons_succ])
      | (refine SeqS.take2 (v := .agg (C).toArray) (by first | assumption | trivial) (by kernel_rfl) (by decide +kernel) (by decide +kernel) (yields_blk (by rfl) 26 (.tmp 6) rfl rfl (fun w' h => KN.out w' h) (hrC)) ?_
         simp only [Act.put, List.setIfInBounds_toArray, List.set_cons_zero, List.set_cons_succ])
      | (refine SeqS.take2 (v := .agg (C).toArray) (by first | assumption | trivial) (by kernel_rfl) (by decide +kernel) (by decide +kernel) (yields_blk (by rfl) 26 (.tmp 1) rfl rfl (fun w' h => KG.out w' h) (hrC)) ?_
         simp only [Act.put, List.setIfInBounds_toArray, List.set_cons_zero, List.set_cons_succ])
      | (refine SeqS.take2 (v := .agg (C).toArray) (by first | assumption | trivial) (by kernel_rfl) (by decide +kernel) (by decide +kernel) (yields_blk (by rfl) 26 (.tmp 8) rfl rfl (fun w' h => KO.out w' h) (hrC)) ?_
         simp only [Act.put, List.setIfInBounds_toArray, List.set_cons_zero, List.set_cons_succ])
      | (refine SeqS.take2 (v := .bool true) (by first | assumption | trivial) (by kernel_rfl) (by decide +kernel) (by decide +kernel) (yields_eqR (by rfl) rfl rfl rfl hng heq.out) ?_
         simp only [Act.put, List.setIfInBounds_toArray, List.set_cons_zero, List.set_cons_succ])
      | (refine SeqS.take2 (v := ?_) (by first | assumption | trivial) (by kernel_rfl) (by decide +kernel) (by decide +kernel) (Or.inl ⟨by rfl, ?_⟩) ?_
         rotate_left
         focus
           intro w' hb'
           go_simp
           with_reducible rfl
         simp only [Act.put, List.setIfInBounds_toArray, List.set_cons_zero, List.set_cons_succ])
      | (refine SeqS.take2 (v := undef) (by first | assumption | trivial) (by kernel_rfl) (by decide +kernel) (by decide +kernel) (Or.inr ⟨by rfl, rfl⟩) ?_
         simp only [Act.put, List.setIfInBounds_toArray, List.set_cons_zero, List.set_cons_succ]))
    refine SeqS.alone (by decide +kernel) (by rfl) (fun K hK => ?_)
    go_simp
    go_at_call 10
    refine (hal.out _ (BH.out.trans (S11.mono BH.out.size))).mono ?_
    rintro e w12 ⟨rfl, b12⟩
    go_simp
    have S12 : Below wa.heap.size wa w12 := S11.trans (b12.mono S11.size)
    refine hK _ _ S12 ?_
    clear hK K
    repeat (first
      | (refine SeqS.take (v := ?_) (by first | assumption | trivial) (by kernel_rfl) (by decide +kernel) (by decide +kernel) (Or.inl ⟨by rfl, ?_⟩) ?_
         rotate_left
         focus
           intro w' hb'
           go_simp
           with_reducible rfl
         simp only [Act.put, List.setIfInBounds_toArray, List.set_cons_zero, List.set_cons_succ])
      | (refine SeqS.take (v := undef) (by first | assumption | trivial) (by kernel_rfl) (by decide +kernel) (by decide +kernel) (Or.inr ⟨by rfl, rfl⟩) ?_
         simp only [Act.put, List.setIfInBounds_toArray, List.set_cons_zero, List.set_cons_succ])
      | (refine SeqS.take1 (v := ?_) (by first | assumption | trivial) (by kernel_rfl) (by decide +kernel) (by decide +kernel) (Or.inl ⟨by rfl, ?_⟩) ?_
         rotate_left
         focus
           intro w' hb'
           go_simp
           with_reducible rfl
         simp only [Act.put, List.setIfInBounds_toArray, List.set_cons_zero, List.set_cons_succ])
      | (refine SeqS.take1 (v := undef) (by first | assumption | trivial) (by kernel_rfl) (by decide +kernel) (by decide +kernel) (Or.inr ⟨by rfl, rfl⟩) ?_
         simp only [Act.put, List.setIfInBounds_toArray, List.set_cons_zero, List.set_cons_succ])
      | (refine SeqS.take2 (v := ?_) (by first | assumption | trivial) (by kernel_rfl) (by decide +kernel) (by decide +kernel) (Or.inl ⟨by rfl, ?_⟩) ?_
         rotate_left
         focus
           intro w' hb'
           go_simp
           with_reducible rfl
         simp only [Act.put, List.setIfInBounds_toArray, List.set_cons_zero, List.set_cons_succ])
      | (refine SeqS.take2 (v := undef) (by first | assumption | trivial) (by kernel_rfl) (by decide +kernel) (by decide +kernel) (Or.inr ⟨by rfl, rfl⟩) ?_
         simp only [Act.put, List.setIfInBounds_toArray, List.set_cons_zero, List.set_cons_succ]))
    refine SeqS.done (by decide +kernel) ?_
    have B12 := BH.out.trans (S12.mono BH.out.size)
    clear KG KN KO v1 BH S11 S12 b11 b12 hJ ba
    go_wp2
    go_ret
    exact ⟨by first | rfl | simp, B12⟩
end Go.Proofs.YtbiabjehdmddbaaGreatDoor

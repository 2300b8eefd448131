/-
  Texts of stages that were proved on their own, joined: DfDone. Each begins with its own words.
-/
import Derived.Test.YtcohbhimhacedaaGreatDoorJSzAll4
import Derived.Deep.DeepAppendWide

/-
  The document's own Done of a file (layer 18): what is kept, with so many units done. New memory alone is written. Conditions: at most 2^47 bytes and some; fewer than 2^62 units.
-/
namespace Go.Proofs.YtcohbhimhacedaaGreatDoor
open Go.RowKit

theorem zeroRs : Zero Tryz.prog 75 [.bool false, .int .i64 0, .slice none 0 0] := by unfold Zero; kernel_rfl
theorem put_part (S : List StV) (K : List Int) (j u k : Nat) (xs : List Int) (h : S[j]? = some (.put xs)) (hk : k = min (u - unitsL (S.take j)) xs.length) : doneL K (S.take (j + 1)) u = doneL K (S.take j) u ++ xs.take k := by
  rw [doneL_take S j _ h, hk]
  simp only [StV.act, StV.units]
theorem cut_part (S : List StV) (K : List Int) (j u k : Nat) (h : S[j]? = some (.cut k)) (hk : 0 < u - unitsL (S.take j)) : doneL K (S.take (j + 1)) u = (doneL K (S.take j) u).take k := by
  rw [doneL_take S j _ h, Nat.min_eq_right (by simp only [StV.units]; omega)]
  simp [StV.act, StV.units]
theorem done_len (K : List Int) (S : List StV) (j u : Nat) : (doneL K (S.take j) u).length ≤ needL K S := Nat.le_trans (doneL_le _ _ _) (needL_take_le _ _ _)

set_option maxRecDepth 100000 in
set_option maxHeartbeats 2000000 in
theorem fDone_any {R : Nat → Prop} {w : World} {cs : List Value} {v : FlV} (u : Nat) (h : RFile R w cs v) (hok : okF v.K v.S) (hK : v.K.length ≤ 65536) (hZ : v.need ≤ 140737488420864) (hu : u < 4611686018427387904) (hN : v.S.length < 4611686018427387904) :
    Calls Tryz.prog 58 #[.agg cs.toArray, .int .i64 (u : Int)] w fun q w' => Tells w q w' (doneL v.K v.S u) := by
  obtain ⟨i0, hi, hz0, hz1, hz2⟩ := info_u8b
  obtain ⟨ka, kc, sa, sc, hcs, hI, _, hS⟩ := h
  have hb1 := Blk.new w 34 cs
  have hB1 := below1 w (.cells cs.toArray 34)
  obtain ⟨W, hW⟩ : ∃ W, w.alloc (.cells cs.toArray 34) = W := ⟨_, rfl⟩
  rw [hW] at hb1 hB1
  obtain ⟨G, hG⟩ : ∃ G, w.heap.size = G := ⟨_, rfl⟩
  rw [hG] at hb1
  have hGb : ∀ {w' : World}, Blk w' G 34 cs → w'.cell? ⟨G, 0, none⟩ = some (.slice ka v.K.length kc) ∧ w'.cell? ⟨G, 1, none⟩ = some (.slice sa v.S.length sc) := fun hb => by
    have a0 := hb.cell 0
    have a1 := hb.cell 1
    rw [hcs] at a0 a1
    exact ⟨a0, a1⟩
  have hok2 := fun j k hj => cut_fits v.S v.K j k u hok hj
  have hlen := fun j => Nat.le_trans (done_len v.K v.S j u) hZ
  have hpp := fun j k xs hj => put_part v.S v.K j u k xs hj
  have hcp := fun j k hj => cut_part v.S v.K j u k hj
  have hun := fun j s hj => unitsL_take v.S j s hj
  have hstop := fun j => doneL_stop v.S j v.K u
  have hle := hI.2.1
  obtain ⟨N, hNN⟩ : ∃ N, v.S.length = N := ⟨_, rfl⟩
  rw [hNN] at hN hGb
  have hNH := Lib.hid hNN
  have hGH := Lib.hid hG
  have hokH := Lib.hid hok2
  have hlenH := Lib.hid hlen
  have hppH := Lib.hid hpp
  have hcpH := Lib.hid hcp
  have hunH := Lib.hid hun
  have hstH := Lib.hid hstop
  have hGbH := fun (w' : World) (hb : Blk w' G 34 cs) => hGb hb
  have hGbHH := Lib.hid hGbH
  have e0 := hGb hb1
  obtain ⟨e0, _⟩ := e0
  clear hcs hNN hok hok2 hlen hpp hcp hun hZ hstop hGb hGbH
  go_enter Tryz.func58, Tryz.ntmps58
  go_wp2_with ((with_reducible refine box_row rfl 34 (.tmp 0) rfl cs rfl ?_); refine RowKit.Hid.out ?_)
  refine Lib.hid ?_
  (try rw [hW])
  (try rw [hG])
  clear hW hG
  have hIW := hI.keep hB1
  have q3 : Below W.heap.size W (W.alloc (.cells #[] 5)) := below1 _ _
  have I3 := Lib.hid (hIW.keep q3)
  have hb3 : Blk (W.alloc (.cells #[] 5)) G 34 cs := hb1.alloc _
  have s3 := q3.size
  have e03 := (hGbHH.out _ hb3).1
  have hB13 := hB1.trans (q3.mono hB1.size)
  go_wp2_with (at_builtin
               refine wpList_append_ints rfl (.tmp 9) (.tmp 11) 22 rfl W.heap.size 5 i0 (.int .u8 0) 1 Tryz.underlying22 hi hz0 hz1 hz2 rfl rfl (World.ownsRow_made W #[] 0 (Nat.le_refl _) (Nat.zero_le _) rfl) rfl I3.out ?_ ?_ q3.size ?_
               (unfold maxLen; omega)
               (omega)
               intro v4 w4 hown4 hg4
               refine RowKit.Hid.out ?_)
  refine Lib.hid ?_
  rw [List.nil_append, Nat.zero_add] at hown4
  have hex : ∃ b c, v4 = .slice b v.K.length c := own_slice hown4
  obtain ⟨B4, C4, hv4⟩ := hex
  rw [hv4] at hown4 ⊢
  have hB4 : Below w.heap.size w w4 := hB13.grown hg4 hB13.size (fun q hq => by injection hq with hq; rw [← hq]; exact hB1.size)
  have hown4 := own_weak hown4 hB1.size
  have hb4 : Blk w4 G 34 cs := hb3.grown hg4 (fun e => by
    injection e with e
    have := hb1.lt
    have e' : G = W.heap.size := e
    omega)
  have hat0 : doneL v.K (v.S.take 0) u = v.K := rfl
  rw [← hat0] at hown4
  have hat4 : w4.ownsRow w.heap.size 5 1 (.slice B4 v.K.length C4) v.K.length ((doneL v.K (v.S.take 0) u).map (Value.int .u8)) ∧ Blk w4 G 34 cs ∧ Below w.heap.size w w4 := ⟨hown4, hb4, hB4⟩
  have hat4H := Lib.hid hat4
  clear e03 hat4 hown4 hb4 hB4 hg4 hb3 hB13 s3 I3 q3 hIW hat0 hb1 hB1 e0 hI hle
  go_wp2_with fail
  go_loopw [1, 5, 6] (fun l b i wr => ∃ (j : Nat) (B : Option Addr) (n C l0 : Nat), j ≤ N ∧ i = .int .i64 j ∧ l0 = u - unitsL (v.S.take j) ∧ l = .int .i64 (l0 : Int) ∧ b = .slice B n C ∧ wr.ownsRow w.heap.size 5 1 (.slice B n C) n ((doneL v.K (v.S.take j) u).map (Value.int .u8)) ∧ Blk wr G 34 cs ∧ Below w.heap.size w wr) (fun _ _ i _ => N - (intOf i).toNat)
  case atStart => exact ⟨0, B4, _, C4, u, Nat.zero_le _, rfl, rfl, rfl, rfl, hat4H.out.1, hat4H.out.2.1, hat4H.out.2.2⟩
  case round =>
    clear hat4H
    obtain ⟨j, B, n, C, l, hj, rfl, hl, rfl, rfl, hO, hGk, hBw⟩ := hrel
    have hnl : (doneL v.K (v.S.take j) u).length = n := by have := hO.1; rw [List.length_map, Nat.mul_one] at this; exact this
    have e1 := (hGbHH.out wr hGk).2
    by_cases hlt : j < N
    · have hji : (j : Int) < (N : Int) := by omega
      by_cases hl0 : 0 < l
      · have hli : 0 < (l : Int) := by omega
        obtain ⟨b, off, s, A, Cs, rfl, hSj, hr0, hrs⟩ := hS.get j (by rw [hNH.out]; exact hlt)
        have hr : wr.rangeAt b (off + j * 3) (stC s A Cs) := fun q v hq => by
          have h9 := hr0 q v hq
          rw [hBw.cell (World.block_lt_of_cell? w _ h9)]
          exact h9
        obtain ⟨zs, hzs⟩ : ∃ zs, ([.bool false, .int .i64 0, .slice none 0 0] : List Value) = zs := ⟨_, rfl⟩
        have hz := zeroRs
        rw [hzs] at hz
        have hzl : zs.length = 3 := by rw [← hzs]; rfl
        have hlenS := stC_len s A Cs
        have honeS := stC_one s A Cs
        have hrow : IsRow Tryz.prog 75 (stC s A Cs).length := by rw [hlenS]; exact rowRs
        have hSjH := Lib.hid hSj
        have hltH := Lib.hid hlt
        have hlH := Lib.hid hl
        have hnlH := Lib.hid hnl
        obtain ⟨cells, hcells⟩ : ∃ c, stC s A Cs = c := ⟨_, rfl⟩
        rw [hcells] at hr hlenS honeS hrow hrs
        have hcH := Lib.hid hcells
        clear hSj hlt hl hj hzs hnl hcells
        go_wp2_with (with_reducible refine wpList_load_part (off := off + j * 3) rfl 75 _ rfl rfl cells hr hrow ?_
                     refine RowKit.Hid.out ?_)
        refine Lib.hid ?_
        refine wpList_alloc_blk rfl 75 rfl hz ?_
        have hnew := Blk.new wr 75 zs
        have hbel := below1 wr (.cells zs.toArray 75)
        have hO2 := own_stay9x hO hbel
        have hG2 := hGk.alloc (.cells zs.toArray 75)
        have hB2 := hBw.trans (hbel.mono hBw.size)
        obtain ⟨G7, hG7⟩ : ∃ G7, wr.heap.size = G7 := ⟨_, rfl⟩
        have hgl := hGk.lt
        obtain ⟨W2, hW2⟩ : ∃ W, wr.alloc (.cells zs.toArray 75) = W := ⟨_, rfl⟩
        rw [hW2] at hnew hO2 hG2 hB2 ⊢
        rw [hG7] at hnew hgl ⊢
        refine store_row rfl 75 (.tmp 7) (.tmp 28) rfl rfl rfl hnew rowRs hlenS hzl honeS ?_
        intro w3 hb3 hg3
        have hO3 := own_same hO2 (fun q hq => hg3.block q (hO2.lt q hq).2 (fun e => ne_row hO2 hnew (by decide) (by rw [hq]; exact e.symm ▸ rfl)))
        have hG3 := hG2.grown hg3 (fun e => by injection e with e; omega)
        have hB3 := hB2.grown hg3 hB2.size (fun q hq => by injection hq with hq; rw [← hq, ← hG7]; exact hBw.size)
        have hlu : l ≤ u := by have := hlH.out; omega
        have hnC : n ≤ C := by
          rcases hO.2 with ⟨hv, h0⟩ | ⟨g, cap, cur, hv, _, _, hnc, _⟩
          · omega
          · injection hv with _ _ h3; omega
        have hunj := hunH.out j s hSjH.out
        obtain ⟨D0, hD0⟩ : ∃ D0, doneL v.K (v.S.take j) u = D0 := ⟨_, rfl⟩
        rw [hD0] at hO3
        have hnl2 := hnlH.out
        rw [hD0] at hnl2
        have hd0 := hb3.cell 0
        have hd1 := hb3.cell 1
        have hd2 := hb3.cell 2
        have hlj : j < N := hltH.out
        clear hO hGk hBw hbel hO2 hG2 hB2 hW2 hnew hgl hz hzl hlenS honeS hrow hr hg3 e1
        cases s with
        | cut k =>
          have hkn : k ≤ n := by
            have h9 := hokH.out j k hSjH.out (by have := hlH.out; omega)
            have h8 := hnlH.out
            omega
          have hcp9 := hcpH.out j k hSjH.out (by have := hlH.out; omega)
          rw [hD0] at hcp9
          have hcut := run_cutHi (P := Tryz.prog) 22 5 Tryz.underlying22 (by kernel_rfl) B n C .i64 k (by omega)
          have hOc := own_upTo hO3 k hkn
          rw [← List.map_take, ← hcp9] at hOc
          have hwl : wrap64 ((l : Int) - 1) = ((l - 1 : Nat) : Int) := by unfold wrap64; omega
          have hd0' : w3.cell? ⟨G7, 0, none⟩ = some (.bool true) := by rw [hd0, ← hcH.out]; rfl
          have hd1' : w3.cell? ⟨G7, 1, none⟩ = some (.int .i64 (k : Int)) := by rw [hd1, ← hcH.out]; rfl
          have hln : l - 1 = u - unitsL (v.S.take (j + 1)) := by have := hlH.out; have h9 : (StV.cut k).units = 1 := rfl; omega
          have hlnH := Lib.hid hln
          have hOcH := Lib.hid hOc
          clear hd0 hd1 hd2 hunj hcp9 hD0 hkn hln hOc hO3 hb3 hrs hnl2 hlj
          go_wp2
          refine ⟨⟨j + 1, _, _, _, l - 1, by have := hltH.out; omega, by congr 1, hlnH.out, ?_, rfl, hOcH.out, hG3, hB3⟩, by simp only [intOf]; have := hltH.out; omega⟩
          first
            | exact congrArg _ hwl
            | (congr 1; omega)
        | put xs =>
          obtain ⟨A9, C9, hv9, hI9, _⟩ := hrs
          have hin : Value.slice A9 xs.length C9 = .slice A xs.length Cs := by
            have h9 := hcH.out
            rw [hv9] at h9
            injection h9 with _ h9
            injection h9 with _ h9
            injection h9 with h9 _
            exact h9.symm
          injection hin with h91 _ h93
          subst h91; subst h93
          have hd2' : ∀ {w' : World}, Blk w' G7 75 cells → w'.cell? ⟨G7, 2, none⟩ = some (.slice A9 xs.length C9) := fun hb => by
            rw [hb.cell 2, ← hcH.out]; rfl
          have hd2H := Lib.hid (fun (w' : World) (hb : Blk w' G7 75 cells) => hd2' hb)
          have hd0' : w3.cell? ⟨G7, 0, none⟩ = some (.bool false) := by rw [hd0, ← hcH.out]; rfl
          have hpp9 := fun k => hppH.out j k xs hSjH.out
          rw [hD0, ← hlH.out] at hpp9
          have hmn := hlenH.out (j + 1)
          rw [hpp9 (min l xs.length) rfl, List.length_append, List.length_take] at hmn
          have hppK := Lib.hid hpp9
          have hI9H := Lib.hid hI9
          have hO3' : w3.ownsRow w.heap.size 5 1 (.slice B n C) n ((D0 ++ xs.take 0).map (Value.int .u8)) := by rw [List.take_zero, List.append_nil]; exact hO3
          have h0H := Lib.hid (And.intro hO3' (And.intro hb3 (And.intro hG3 hB3)))
          have hunjH := Lib.hid hunj
          clear hd0 hd1 hd2 hd2' hunj hD0 hO3 hO3' hb3 hG3 hB3 hpp9 hv9 hI9 hlj hr0 hnC
          go_wp2_with fail
          go_loopw [1, 5, 8] (fun lv bv i wi => ∃ (k : Nat) (B' : Option Addr) (n' C' l' : Nat), k ≤ xs.length ∧ k ≤ l ∧ i = .int .i64 k ∧ l' = l - k ∧ lv = .int .i64 (l' : Int) ∧ bv = .slice B' n' C' ∧ wi.ownsRow w.heap.size 5 1 (.slice B' n' C') n' ((D0 ++ xs.take k).map (Value.int .u8)) ∧ Blk wi G7 75 cells ∧ Blk wi G 34 cs ∧ Below w.heap.size w wi) (fun _ _ i _ => xs.length - (intOf i).toNat)
          case atStart => exact ⟨0, _, _, _, l, Nat.zero_le _, Nat.zero_le _, rfl, rfl, rfl, rfl, h0H.out.1, h0H.out.2.1, h0H.out.2.2.1, h0H.out.2.2.2⟩
          case round =>
            clear h0H
            obtain ⟨k, B', n', C', l', hk1, hk2, rfl, hl', rfl, rfl, hO5, hb5, hG5, hB5⟩ := hrel
            have c72 := hd2H.out wr hb5
            have hn5 : D0.length + k = n' := by
              have := hO5.1
              rw [List.length_map, Nat.mul_one, List.length_append, List.length_take] at this
              omega
            by_cases hgo : k < xs.length ∧ 0 < l'
            · have hgo1 : (k : Int) < (xs.length : Int) := by omega
              have hgo2 : 0 < (l' : Int) := by omega
              obtain ⟨b9, off9, rfl, hc9⟩ := (hI9H.out.keep hB5).at (by omega)
              have hx9 := hc9 k hgo.1
              have htk : xs.take (k + 1) = xs.take k ++ [xs.getD k 0] := by
                rw [List.take_succ_eq_append_getElem hgo.1, List.getD_eq_getElem?_getD, List.getElem?_eq_getElem hgo.1]; rfl
              obtain ⟨z, hz9⟩ : ∃ z, xs.getD k 0 = z := ⟨_, rfl⟩
              rw [hz9] at hx9 htk
              have hO6 := own_stay9x hO5 (below1 wr (.cells #[.int .u8 z] 5))
              have hb6 := hb5.alloc (.cells #[.int .u8 z] 5)
              have hG6 := hG5.alloc (.cells #[.int .u8 z] 5)
              have hB6 := hB5.alloc hB5.size (.cells #[.int .u8 z] 5)
              have hnews := cell_one_new wr (.int .u8 z) 5
              have hone : ∀ u ∈ ([.int .u8 z] : List Value), u.oneCell' = true := by
                intro u hu
                simp only [List.mem_singleton] at hu
                rw [hu]; rfl
              have hbig : n' + 1 ≤ 140737488420864 := by omega
              have hbs := hB6.size
              have hgoH := Lib.hid hgo
              have hl'H := Lib.hid hl'
              have htkH := Lib.hid htk
              have hkH := Lib.hid hk2
              have hwl : wrap64 ((l' : Int) - 1) = ((l' - 1 : Nat) : Int) := by unfold wrap64; omega
              have f1 : k + 1 ≤ xs.length := hgo.1
              have f2 : k + 1 ≤ l := by omega
              have f3 : l' - 1 = l - (k + 1) := by omega
              have f4 : xs.length - (intOf (Value.int IntKind.i64 ((k : Int) + 1))).toNat < xs.length - (intOf (Value.int IntKind.i64 (k : Int))).toNat := by simp only [intOf]; omega
              have fH := Lib.hid (And.intro f1 (And.intro f2 (And.intro f3 f4)))
              clear f1 f2 f3 f4
              have hwk : wrap64 ((k : Int) + 1) = (k : Int) + 1 := by unfold wrap64; omega
              have hKH := Lib.hid (And.intro hb6 (And.intro hG6 hB6))
              have hbigH := Lib.hid hbig
              clear hO5 hb5 hG5 hB5 hc9 htk hz9 hk1 hk2 hn5 hl' hgo hbig hmn hb6 hG6 hB6
              go_wp2_with (at_builtin
                           refine wpList_append_own_wide _ rfl (.tmp 48) (.tmp 54) 22 rfl w.heap.size 5 i0 (.int .u8 0) 1 1 Tryz.underlying22 hi hz0 hz1 hz2 rfl (by decide) _ n' _ rfl hO6 ⟨wr.heap.size, 0, none⟩ 1 1 [.int .u8 z] rfl rfl hnews hone ?_ ?_ hbs ?_
                           (have := hbigH.out; unfold maxLen; omega)
                           (have := hbigH.out; omega)
                           intro v7 w7 own7 g7 hnil7
                           clear hnil7
                           refine RowKit.Hid.out ?_)
              refine Lib.hid ?_
              have hex : ∃ a5 c5, v7 = .slice a5 (n' + 1) c5 := own_slice own7
              obtain ⟨a5, c5, hv5⟩ := hex
              subst hv5
              have g7' : (wr.alloc (.cells #[.int .u8 z] 5)).grownBy w7 (Value.slice B' n' C').ownBlock := g7
              have hb7 := hKH.out.1.grown g7' (ne_row hO6 hKH.out.1 (by decide))
              have hG7' := hKH.out.2.1.grown g7' (ne_row hO6 hKH.out.2.1 (by decide))
              have hB7 := hKH.out.2.2.grown g7' hKH.out.2.2.size (fun q hq => (hO6.lt q hq).1)
              have own7' : w7.ownsRow w.heap.size 5 1 (.slice a5 (n' + 1) c5) (n' + 1) ((D0 ++ xs.take (k + 1)).map (Value.int .u8)) := by
                rw [htkH.out, ← List.append_assoc, List.map_append]
                exact own7
              have allH := Lib.hid (And.intro own7' (And.intro hb7 (And.intro hG7' hB7)))
              clear own7 own7' g7 g7' hb7 hG7' hB7 hO6 hKH hnews hone hbs
              go_wp2
              rw [hwk, hwl]
              exact ⟨⟨k + 1, a5, n' + 1, c5, l' - 1, fH.out.1, fH.out.2.1, rfl, fH.out.2.2.1, rfl, rfl, allH.out.1, allH.out.2.1, allH.out.2.2.1, allH.out.2.2.2⟩, fH.out.2.2.2⟩
            · have hkm : k = min l xs.length := by omega
              have hp := hppK.out k hkm
              rw [← hp] at hO5
              have hln : l' = u - unitsL (v.S.take (j + 1)) := by have := hlH.out; have := hunjH.out; have h9 : (StV.put xs).units = xs.length := rfl; omega
              have hlnH := Lib.hid hln
              have hO5H := Lib.hid hO5
              by_cases hkx : k < xs.length
              · have hl0' : ¬ 0 < l' := fun e => hgo ⟨hkx, e⟩
                have hkx1 : (k : Int) < (xs.length : Int) := by omega
                have hli' : ¬ 0 < (l' : Int) := by omega
                clear hgo hkm hp hO5 hn5 hk1 hk2 hl' hln hmn hkx
                go_wp2
                exact ⟨⟨j + 1, _, _, _, l', by have := hltH.out; omega, by congr 1, hlnH.out, rfl, rfl, hO5H.out, hG5, hB5⟩, by simp only [intOf]; have := hltH.out; omega⟩
              · have hkx1 : ¬ (k : Int) < (xs.length : Int) := by omega
                clear hgo hkm hp hO5 hn5 hk1 hk2 hl' hln hmn hkx
                go_wp2
                exact ⟨⟨j + 1, _, _, _, l', by have := hltH.out; omega, by congr 1, hlnH.out, rfl, rfl, hO5H.out, hG5, hB5⟩, by simp only [intOf]; have := hltH.out; omega⟩
      · have hli : ¬ 0 < (l : Int) := by omega
        have hst := hstH.out j (by omega)
        rw [← hst] at hO hnl
        have hOH := Lib.hid hO
        have hnlH := Lib.hid hnl
        clear hst hO hnl hl hlt hj hl0
        go_wp2
        go_ret
        exact ⟨B, C, by rw [hnlH.out]; rfl, by rw [hnlH.out]; exact hOH.out, hBw⟩
    · obtain rfl : j = N := by omega
      have hji : ¬ (j : Int) < (j : Int) := by omega
      rw [List.take_of_length_le (by rw [hNH.out]; exact Nat.le_refl _)] at hO hnl
      have hOH := Lib.hid hO
      have hnlH := Lib.hid hnl
      clear hO hnl hl hlt hj
      go_wp2
      go_ret
      exact ⟨B, C, by rw [hnlH.out]; rfl, by rw [hnlH.out]; exact hOH.out, hBw⟩
end Go.Proofs.YtcohbhimhacedaaGreatDoor

/-
  What the document's own Parse (layer 15) comes to. New memory alone is written. Conditions: at most a thousand signs.
-/
import Derived.Test.YtbiabjehdmddbaaDoorRplDoc
import Derived.Test.YtbiabjehdmddbaaDoorRfName
import Derived.Test.YtbiabjehdmddbaaDoorHexRefN
namespace Go.Proofs.YtbiabjehdmddbaaDoor
open Go.RowKit

theorem rfKinds_at (w : World) : Calls Tryd.prog 13 #[] w fun q w' => q = .returned (.slice (some ⟨w.heap.size, 0, none⟩) 7 7) ∧ Below w.heap.size w w' ∧ Blk w' w.heap.size 9 (strsV kindsL) := by
  refine (rfKinds_any w).mono ?_
  rintro q w' ⟨rfl, rfl⟩
  exact ⟨rfl, below1 w _, Blk.new w _ _⟩
theorem rfErrs_at (w : World) : Calls Tryd.prog 12 #[] w fun q w' => q = .returned (.slice (some ⟨w.heap.size, 0, none⟩) 21 21) ∧ Below w.heap.size w w' ∧ Blk w' w.heap.size 9 (strsV errsL) := by
  refine (rfErrs_any w).mono ?_
  rintro q w' ⟨rfl, rfl⟩
  exact ⟨rfl, below1 w _, Blk.new w _ _⟩
theorem rfOf_at (g N : Nat) (ns : List (List Int)) (s : ByteArray) (w : World) (hN : ns.length = N) (hs : N ≤ 100) (hok : ∀ x ∈ ns, okB x) (hb : Blk w g 9 (strsV ns)) :
    Calls Tryd.prog 15 #[.string s, .slice (some ⟨g, 0, none⟩) N N] w fun q w' => q = .returned (.tuple #[.int .i64 (placeL (numsOf s) ns 0).1, .bool (placeL (numsOf s) ns 0).2]) ∧ Below w.heap.size w w' := by
  refine (rfOf_any g N ns s w hN hs hok hb).mono ?_
  rintro q w' ⟨rfl, rfl⟩
  exact ⟨rfl, Below.refl _ _⟩
theorem one_sign (s : ByteArray) (j : Nat) (h : j < s.size) : s.extract j (j + 1) = strOfNums [(numsOf s).getD j 0] := by
  have hl := numsOf_length s
  apply ba_ext
  rw [Lib.extract_data, str_u8l]
  unfold u8l
  have hx : (numsOf s).getD j 0 = ((s.data.toList[j]'(by rw [← Lib.size_eq]; exact h)).toNat : Int) := by
    rw [List.getD_eq_getElem?_getD, List.getElem?_eq_getElem (by omega)]
    unfold numsOf
    rw [Option.getD_some, List.getElem_map]
  rw [hx, show j + 1 - j = 1 by omega, List.drop_eq_getElem_cons (by rw [← Lib.size_eq]; exact h)]
  simp

set_option maxRecDepth 100000 in
set_option maxHeartbeats 4000000 in
theorem rfParse_any (s : ByteArray) (w : World) (hs : s.size ≤ 1000) :
    Calls Tryd.prog 7 #[.string s] w fun q w' => q = .returned (.tuple #[.agg (rpV (parseR (numsOf s)).1).toArray, .int .i64 (parseR (numsOf s)).2]) ∧ Below w.heap.size w w' := by
  obtain ⟨i0, hi, hz0, hz1, hz2⟩ := info_str
  have hl := numsOf_length s
  have hor := numsOf_range s
  have hix := Lib.hid (fun i (h : i < s.size) wx => str_index (P := Tryd.prog) s i h 9 Tryd.underlying9 wx)
  have hsl := Lib.hid (fun i (h : i < s.size) wx => str_slice (P := Tryd.prog) s i (i + 1) (Nat.le_succ i) h 9 Tryd.underlying9 wx)
  have hon := Lib.hid (fun j (h : j < s.size) => one_sign s j h)
  have hst := Lib.hid (fun j (h : j < s.size) => splitW_take (numsOf s) j (by omega))
  obtain ⟨L, hL⟩ : ∃ L, s.size = L := ⟨_, rfl⟩
  have hLi : (L : Int) ≤ 1000 := by omega
  have hz := Blk.new w 27 (rpC 0 0 0 0 0 0 0)
  have hb := below1 w (.cells (rpC 0 0 0 0 0 0 0).toArray 27)
  obtain ⟨W, hW⟩ : ∃ W, w.alloc (.cells (rpC 0 0 0 0 0 0 0).toArray 27) = W := ⟨_, rfl⟩
  obtain ⟨G, hG⟩ : ∃ G, w.heap.size = G := ⟨_, rfl⟩
  rw [hW] at hz hb
  rw [hG] at hz
  have gH := Lib.hid hG
  have hbt := built_rp0
  obtain ⟨ss, hss⟩ : ∃ ss, numsOf s = ss := ⟨_, rfl⟩
  rw [hss] at hl hix hon hst hor
  rw [hss]
  rw [hL] at hix hsl hon hst hl
  obtain ⟨R, hR⟩ : ∃ R, parseR ss = R := ⟨_, rfl⟩
  rw [hR]
  have hRH := Lib.hid hR
  have hlH := Lib.hid hl
  have hoH := Lib.hid hor
  have hzH := Lib.hid (And.intro hz hb)
  have hLH := Lib.hid (show L ≤ 1000 by omega)
  clear hs hl hor hss hz hb hR
  go_enter Tryd.func7, Tryd.ntmps7
  go_wp2_with ((with_reducible refine wpList_alloc_blk rfl 27 rfl zeroRp ?_); refine RowKit.Hid.out ?_)
  refine Lib.hid ?_
  try simp only [Act.put, List.setIfInBounds_toArray, List.set_cons_zero, List.set_cons_succ]
  try rw [hW]
  try rw [hG]
  clear hW hG
  go_wp2_with fail
  go_loopw [4, 5] (fun v i wr => ∃ j : Nat, j ≤ L ∧ i = .int .i64 j ∧ wr.ownsRow W.heap.size 9 1 v (splitW (ss.take j)).length (strsV (splitW (ss.take j))) ∧ Below W.heap.size W wr) (fun _ i _ => L - (intOf i).toNat)
  case atStart => exact ⟨0, Nat.zero_le _, rfl, own_one W ByteArray.empty (Nat.le_refl _), below1 W _⟩
  case round =>
    obtain ⟨j, hj, rfl, hown, hB⟩ := hrel
    by_cases hlt : j < L
    · have hji : (j : Int) < (L : Int) := by omega
      have hxj := hix.out j hlt
      have hstj := hst.out j hlt
      have hkl := splitW_len (ss.take j)
      rw [List.length_take] at hkl
      obtain ⟨l, x, hlx⟩ := splitW_last (ss.take j)
      rw [hlx] at hstj hown hkl
      obtain ⟨c, hc⟩ : ∃ c, ss.getD j 0 = c := ⟨_, rfl⟩
      rw [hc] at hxj hstj
      by_cases h32 : c = 32
      · subst h32
        rw [stepW_blank] at hstj
        have own8H := Lib.hid (hown.alloc (.cells #[.string { data := #[] }] 9))
        have hnewH := Lib.hid (Blk.new wr 9 [.string { data := #[] }])
        have hB8 := Lib.hid (hB.alloc hB.size (.cells #[.string { data := #[] }] 9))
        have hstH := Lib.hid hstj
        have hltH := Lib.hid hlt
        have hklH := Lib.hid hkl
        obtain ⟨Y, hY⟩ : ∃ Y, l ++ [x] = Y := ⟨_, rfl⟩
        rw [hY] at own8H hstH hklH
        clear hlt hj hown hB hstj hkl hc hlx hY
        go_wp2_with (at_builtin; refine wpList_append_own _ rfl _ _ 35 rfl W.heap.size 9 i0 _ 1 16 Tryd.underlying35 hi hz0 hz1 hz2 (by simp [Value.cells]) (by decide) _ _ _ rfl own8H.out ⟨wr.heap.size, 0, none⟩ 1 1 [.string { data := #[] }] rfl rfl ?c1 ?c2 ?c3 ?c4 ?c5 ?_)
        case c1 =>
          intro t u ht
          rw [add_at9, hnewH.out.cell]
          exact ht
        case c2 =>
          intro u hu
          rw [List.mem_singleton.1 hu]
          rfl
        case c3 => have := hltH.out; have := hklH.out; have := hLH.out; unfold maxLen; omega
        case c4 => have := hltH.out; have := hklH.out; have := hLH.out; omega
        case c5 => exact hB8.out.size
        intro v9 W9 hown9 hg9 _
        have own9 : W9.ownsRow W.heap.size 9 1 v9 (splitW (ss.take (j + 1))).length (strsV (splitW (ss.take (j + 1)))) := by
          rw [hstH.out, strsV_snoc, List.length_append]
          exact hown9
        have b9 : Below W.heap.size W W9 := hB8.out.grown hg9 hB8.out.size (fun q hq => (own8H.out.lt q hq).1)
        clear hown9 hg9
        go_wp2
        exact ⟨⟨j + 1, by have := hltH.out; omega, by congr 1, own9, b9⟩, by simp only [intOf]; have := hltH.out; omega⟩
      · have hcb : (c == 32) = false := beq_false_of_ne h32
        rw [stepW_sign l x h32] at hstj
        obtain ⟨g, cap, cs, rfl, hn, hBg, hk, hck, hnew⟩ := own_last hown
        have hsj : ∀ wx, (Instr.slice 9 (.string s) (some (.int .i64 (j : Int))) (some (.int .i64 ((j : Int) + 1))) none).run Tryd.prog wx = .ok (.string (s.extract j (j + 1))) wx := fun wx => hsl.out j hlt wx
        have hnewj := hnew (x ++ [c])
        rw [← str_append] at hnewj
        have hone := hon.out j hlt
        rw [hc] at hone
        rw [hone] at hsj
        have hxl : x.length ≤ 1000 := by
          have h1 := splitW_sizes (ss.take j) x (by rw [hlx]; simp)
          rw [List.length_take] at h1
          have := hLH.out
          omega
        have hadd := fun wx => run_string_add_sum (P := Tryd.prog) wx (strOfNums x) (strOfNums [c]) (by rw [str_size, str_size]; simp only [List.length_cons, List.length_nil]; omega)
        obtain ⟨SA, hSA⟩ : ∃ S, strOfNums x = S := ⟨_, rfl⟩
        obtain ⟨SB, hSB⟩ : ∃ S, strOfNums [c] = S := ⟨_, rfl⟩
        rw [hSA, hSB] at hadd
        rw [hSA] at hck hnewj
        rw [hSB] at hsj hnewj
        obtain ⟨k, hkk⟩ : ∃ k, l.length = k := ⟨_, rfl⟩
        rw [List.length_append, hkk] at hkl
        rw [hkk] at hck hnewj ⊢
        have hki : (k : Int) ≤ 1000 := by have := hLH.out; simp only [List.length_cons, List.length_nil] at hkl; omega
        have hwk : IntKind.i64.wrap (k : Int) = (k : Int) := by rw [IntKind.wrap_i64]; omega
        have hwj : IntKind.i64.wrap ((j : Int) + 1) = (j : Int) + 1 := by rw [IntKind.wrap_i64]; omega
        have hk0 : (0 : Int) ≤ (k : Int) := by omega
        have hk1 : (k : Int) < (k : Int) + 1 := by omega
        have hk3 : k < k + 1 := by omega
        have hnewH := Lib.hid hnewj
        have hstH := Lib.hid hstj
        have hltH := Lib.hid hlt
        have hBH := Lib.hid (And.intro hB hBg)
        have hkkH := Lib.hid hkk
        clear hlt hj hown hB hstj hkl hc hlx hn hnewj hnew hone hSA hSB hBg hkk hxl
        obtain ⟨w2, hw2⟩ : ∃ w2, wr.drew = w2 := ⟨_, rfl⟩
        have hk2 : Blk w2 g 9 cs := by rw [← hw2]; exact hk
        have hck2 := (hk2.cell k).trans hck
        have hfk2 := hk2.frozen k
        clear hk hck
        go_wp2_with fail
        refine wp_region_still_tail 17 (by kernel_rfl) (by decide +kernel) ?_
        simp only [List.take_succ_cons, List.take_zero, List.drop_succ_cons, List.drop_zero]
        change wpStill _ _ wr.drew _ _ _
        rw [hw2]
        repeat still_step
        refine wpStill_nil ?_
        change wpList _ _ _ _ _ wr.drew
        rw [hw2]
        have hg3 := grown_trans (grown_drew (grown_refl wr (some g))) (hw2 ▸ grown_setCell w2 g k (.string (SA ++ SB)) : wr.drew.grownBy (w2.setCell ⟨g, k, none⟩ (.string (SA ++ SB))) (some g))
        have own9 : (w2.setCell ⟨g, k, none⟩ (.string (SA ++ SB))).ownsRow W.heap.size 9 1 (.slice (some ⟨g, 0, none⟩) (k + 1) cap) (splitW (ss.take (j + 1))).length (strsV (splitW (ss.take (j + 1)))) := by
          rw [hstH.out, List.length_append, hkkH.out]
          exact hnewH.out _ (hk2.set k _)
        have own9H := Lib.hid own9
        have b9 := Lib.hid (hBH.out.1.grown hg3 hBH.out.1.size (fun q hq => by injection hq with hq; have := hBH.out.2; omega))
        clear hw2 own9 hg3 hsj
        go_wp2
        exact ⟨⟨j + 1, by have := hltH.out; omega, by congr 1, own9H.out, b9.out⟩, by simp only [intOf]; have := hltH.out; omega⟩
    · obtain rfl : L = j := by omega
      have hji : ¬ (L : Int) < (L : Int) := by omega
      rw [List.take_of_length_le (by have := hlH.out; omega)] at hown
      have hd1 := doc_len (ss := ss)
      have hd2 := doc_kind (ss := ss)
      have hd3 := doc_err (ss := ss)
      have hd4 := doc_mix (ss := ss)
      have hd5 := doc_num (ss := ss)
      have hd6 := doc_good (ss := ss)
      have hwo := splitW_okB hoH.out
      have hwl := splitW_pos ss
      have hwz := splitW_sizes ss
      obtain ⟨ws, hws⟩ : ∃ ws, splitW ss = ws := ⟨_, rfl⟩
      rw [hws] at hown hd1 hd2 hd3 hd4 hd5 hd6 hwo hwl hwz
      obtain ⟨n, hn⟩ : ∃ n, ws.length = n := ⟨_, rfl⟩
      rw [hn] at hown hd1 hd4 hd5 hd6 hwl
      obtain ⟨g, cap, hv, hnc, hg, hBg, hcell, right⟩ := own_strs hown hwl
      subst hv
      have hcw := Lib.hid (fun i (h : i < n) => (by
        have h1 := hcell i (strOfNums (ws.getD i [])) (by rw [List.getElem?_map, List.getElem?_eq_getElem (by omega), List.getD_eq_getElem?_getD, List.getElem?_eq_getElem (by omega)]; rfl)
        rw [Nat.zero_add] at h1
        exact h1 : wr.cell? ⟨g, i, none⟩ = some (.string (strOfNums (ws.getD i [])))))
      have hok := Lib.hid (fun i (h : i < n) => hwo (ws.getD i []) (by rw [List.getD_eq_getElem?_getD, List.getElem?_eq_getElem (by omega)]; exact List.getElem_mem _))
      have hsz := Lib.hid (fun i (h : i < n) => hwz (ws.getD i []) (by rw [List.getD_eq_getElem?_getD, List.getElem?_eq_getElem (by omega)]; exact List.getElem_mem _))
      have hzr := hzH.out.1.keep hB hzH.out.1.lt
      have hBr := hzH.out.2.trans (hB.mono hzH.out.2.size)
      have hGg : G < g := Nat.lt_of_lt_of_le hzH.out.1.lt hBg
      rw [hRH.out] at hd1 hd2 hd3 hd4 hd5 hd6
      clear hown hwo hwz hcell hB hlt hj hws hon hst hix hsl
      by_cases h2 : n = 2
      · subst h2
        clear right
        have hnH := Lib.hid hn
        clear hn
        have c0 := hcw.out 0 (by omega)
        have c1 := hcw.out 1 (by omega)
        have hO1 := fun gg w' hb => rfOf_at gg 7 kindsL (strOfNums (ws.getD 0 [])) w' rfl (by decide) kinds_b hb
        have hO2 := fun gg w' hb => rfOf_at gg 21 errsL (strOfNums (ws.getD 1 [])) w' rfl (by decide) errs_b hb
        rw [nums_str (hok.out 0 (by omega))] at hO1
        rw [nums_str (hok.out 1 (by omega))] at hO2
        have hp1 : (placeL (ws.getD 0 []) kindsL 0).1 = (candW ws).kind := rfl
        have hp2 : (placeL (ws.getD 1 []) errsL 0).1 = (candW ws).err := rfl
        obtain ⟨P1, hP1⟩ : ∃ P, placeL (ws.getD 0 []) kindsL 0 = P := ⟨_, rfl⟩
        obtain ⟨P2, hP2⟩ : ∃ P, placeL (ws.getD 1 []) errsL 0 = P := ⟨_, rfl⟩
        rw [hP1] at hO1 hp1 hd2 hd6
        rw [hP2] at hO2 hp2 hd3 hd4 hd6
        obtain ⟨p1, f1⟩ := P1
        obtain ⟨p2, f2⟩ := P2
        dsimp only at hO1 hO2 hp1 hp2 hd2 hd3 hd4 hd6
        replace hp1 := Lib.hid hp1
        replace hp2 := Lib.hid hp2
        obtain ⟨q0, hq0⟩ : ∃ q, strOfNums (ws.getD 0 []) = q := ⟨_, rfl⟩
        obtain ⟨q1, hq1⟩ : ∃ q, strOfNums (ws.getD 1 []) = q := ⟨_, rfl⟩
        rw [hq0] at hO1 c0
        rw [hq1] at hO2 c1
        replace hO1 := Lib.hid hO1
        replace hO2 := Lib.hid hO2
        have hzH2 := Lib.hid (And.intro hzr hBr)
        have hdH := Lib.hid (And.intro hd2 (And.intro hd3 (And.intro hd4 (And.intro hd5 hd6))))
        have n1 : (1 : Int) < ((2 : Nat) : Int) := by omega
        have n0 : (0 : Int) < ((2 : Nat) : Int) := by omega
        clear hd1 hd2 hd3 hd4 hd5 hd6 hP1 hP2 hq0 hq1 hzr hBr hnc hBg
        go_wp2_with fail
        have SD : Below wr.heap.size wr wr.drew := (Below.refl _ _).drew
        have e0 := Lib.hid (fun w' (h : Below wr.heap.size wr w') => (h.cell (p := ⟨g, 0, none⟩) hg).trans c0)
        have e1 := Lib.hid (fun w' (h : Below wr.heap.size wr w') => (h.cell (p := ⟨g, 1, none⟩) hg).trans c1)
        clear c0 c1
        refine region_seqS (fun w' => Below wr.heap.size wr w') (by kernel_rfl) SD ?_
        simp only [pairs, Nat.reduceAdd]
        repeat (first
          | (refine SeqS.take (v := ?_) (by first | assumption | trivial) (by kernel_rfl) (by decide +kernel) (by decide +kernel) (Or.inl ⟨by rfl, ?_⟩) ?_
             rotate_left
             focus
               intro w' hb'
               go_simp
               with_reducible rfl
             simp only [Act.put, List.setIfInBounds_toArray, List.set_cons_zero, List.set_cons_succ])
          | (refine SeqS.take (v := ?_) (by first | assumption | trivial) (by kernel_rfl) (by decide +kernel) (by decide +kernel) (Or.inl ⟨by rfl, ?_⟩) ?_
             rotate_left
             focus
               intro w' hb'
               have d0 := e0.out w' hb'
               go_simp
               with_reducible rfl
             simp only [Act.put, List.setIfInBounds_toArray, List.set_cons_zero, List.set_cons_succ])
          | (refine SeqS.take (v := undef) (by first | assumption | trivial) (by kernel_rfl) (by decide +kernel) (by decide +kernel) (Or.inr ⟨by rfl, rfl⟩) ?_
             simp only [Act.put, List.setIfInBounds_toArray, List.set_cons_zero, List.set_cons_succ])
          | (refine SeqS.take1 (v := ?_) (by first | assumption | trivial) (by kernel_rfl) (by decide +kernel) (by decide +kernel) (Or.inl ⟨by rfl, ?_⟩) ?_
             rotate_left
             focus
               intro w' hb'
               go_simp
               with_reducible rfl
             simp only [Act.put, List.setIfInBounds_toArray, List.set_cons_zero, List.set_cons_succ])
          | (refine SeqS.take1 (v := ?_) (by first | assumption | trivial) (by kernel_rfl) (by decide +kernel) (by decide +kernel) (Or.inl ⟨by rfl, ?_⟩) ?_
             rotate_left
             focus
               intro w' hb'
               have d0 := e0.out w' hb'
               go_simp
               with_reducible rfl
             simp only [Act.put, List.setIfInBounds_toArray, List.set_cons_zero, List.set_cons_succ])
          | (refine SeqS.take1 (v := undef) (by first | assumption | trivial) (by kernel_rfl) (by decide +kernel) (by decide +kernel) (Or.inr ⟨by rfl, rfl⟩) ?_
             simp only [Act.put, List.setIfInBounds_toArray, List.set_cons_zero, List.set_cons_succ])
          | (refine SeqS.take2 (v := ?_) (by first | assumption | trivial) (by kernel_rfl) (by decide +kernel) (by decide +kernel) (Or.inl ⟨by rfl, ?_⟩) ?_
             rotate_left
             focus
               intro w' hb'
               go_simp
               with_reducible rfl
             simp only [Act.put, List.setIfInBounds_toArray, List.set_cons_zero, List.set_cons_succ])
          | (refine SeqS.take2 (v := ?_) (by first | assumption | trivial) (by kernel_rfl) (by decide +kernel) (by decide +kernel) (Or.inl ⟨by rfl, ?_⟩) ?_
             rotate_left
             focus
               intro w' hb'
               have d0 := e0.out w' hb'
               go_simp
               with_reducible rfl
             simp only [Act.put, List.setIfInBounds_toArray, List.set_cons_zero, List.set_cons_succ])
          | (refine SeqS.take2 (v := undef) (by first | assumption | trivial) (by kernel_rfl) (by decide +kernel) (by decide +kernel) (Or.inr ⟨by rfl, rfl⟩) ?_
             simp only [Act.put, List.setIfInBounds_toArray, List.set_cons_zero, List.set_cons_succ]))
        refine SeqS.alone (by decide +kernel) (by rfl) (fun K hK => ?_)
        go_simp
        go_at_call 13
        refine (rfKinds_at _).mono ?_
        rintro e w3 ⟨rfl, b3, k3⟩
        go_simp
        have S3 : Below wr.heap.size wr w3 := SD.trans (b3.mono SD.size)
        refine hK _ _ S3 ?_
        clear hK K
        repeat (first
          | (refine SeqS.take (v := ?_) (by first | assumption | trivial) (by kernel_rfl) (by decide +kernel) (by decide +kernel) (Or.inl ⟨by rfl, ?_⟩) ?_
             rotate_left
             focus
               intro w' hb'
               go_simp
               with_reducible rfl
             simp only [Act.put, List.setIfInBounds_toArray, List.set_cons_zero, List.set_cons_succ])
          | (refine SeqS.take (v := undef) (by first | assumption | trivial) (by kernel_rfl) (by decide +kernel) (by decide +kernel) (Or.inr ⟨by rfl, rfl⟩) ?_
             simp only [Act.put, List.setIfInBounds_toArray, List.set_cons_zero, List.set_cons_succ])
          | (refine SeqS.take1 (v := ?_) (by first | assumption | trivial) (by kernel_rfl) (by decide +kernel) (by decide +kernel) (Or.inl ⟨by rfl, ?_⟩) ?_
             rotate_left
             focus
               intro w' hb'
               go_simp
               with_reducible rfl
             simp only [Act.put, List.setIfInBounds_toArray, List.set_cons_zero, List.set_cons_succ])
          | (refine SeqS.take1 (v := undef) (by first | assumption | trivial) (by kernel_rfl) (by decide +kernel) (by decide +kernel) (Or.inr ⟨by rfl, rfl⟩) ?_
             simp only [Act.put, List.setIfInBounds_toArray, List.set_cons_zero, List.set_cons_succ])
          | (refine SeqS.take2 (v := ?_) (by first | assumption | trivial) (by kernel_rfl) (by decide +kernel) (by decide +kernel) (Or.inl ⟨by rfl, ?_⟩) ?_
             rotate_left
             focus
               intro w' hb'
               go_simp
               with_reducible rfl
             simp only [Act.put, List.setIfInBounds_toArray, List.set_cons_zero, List.set_cons_succ])
          | (refine SeqS.take2 (v := undef) (by first | assumption | trivial) (by kernel_rfl) (by decide +kernel) (by decide +kernel) (Or.inr ⟨by rfl, rfl⟩) ?_
             simp only [Act.put, List.setIfInBounds_toArray, List.set_cons_zero, List.set_cons_succ]))
        refine SeqS.alone (by decide +kernel) (by rfl) (fun K hK => ?_)
        go_simp
        go_at_call 15
        refine (hO1.out _ _ k3).mono ?_
        rintro e w4 ⟨rfl, b4⟩
        go_simp
        have S4 : Below wr.heap.size wr w4 := S3.trans (b4.mono S3.size)
        refine hK _ _ S4 ?_
        clear hK K
        repeat (first
          | (refine SeqS.take (v := ?_) (by first | assumption | trivial) (by kernel_rfl) (by decide +kernel) (by decide +kernel) (Or.inl ⟨by rfl, ?_⟩) ?_
             rotate_left
             focus
               intro w' hb'
               go_simp
               with_reducible rfl
             simp only [Act.put, List.setIfInBounds_toArray, List.set_cons_zero, List.set_cons_succ])
          | (refine SeqS.take (v := undef) (by first | assumption | trivial) (by kernel_rfl) (by decide +kernel) (by decide +kernel) (Or.inr ⟨by rfl, rfl⟩) ?_
             simp only [Act.put, List.setIfInBounds_toArray, List.set_cons_zero, List.set_cons_succ])
          | (refine SeqS.take1 (v := ?_) (by first | assumption | trivial) (by kernel_rfl) (by decide +kernel) (by decide +kernel) (Or.inl ⟨by rfl, ?_⟩) ?_
             rotate_left
             focus
               intro w' hb'
               go_simp
               with_reducible rfl
             simp only [Act.put, List.setIfInBounds_toArray, List.set_cons_zero, List.set_cons_succ])
          | (refine SeqS.take1 (v := undef) (by first | assumption | trivial) (by kernel_rfl) (by decide +kernel) (by decide +kernel) (Or.inr ⟨by rfl, rfl⟩) ?_
             simp only [Act.put, List.setIfInBounds_toArray, List.set_cons_zero, List.set_cons_succ])
          | (refine SeqS.take2 (v := ?_) (by first | assumption | trivial) (by kernel_rfl) (by decide +kernel) (by decide +kernel) (Or.inl ⟨by rfl, ?_⟩) ?_
             rotate_left
             focus
               intro w' hb'
               go_simp
               with_reducible rfl
             simp only [Act.put, List.setIfInBounds_toArray, List.set_cons_zero, List.set_cons_succ])
          | (refine SeqS.take2 (v := undef) (by first | assumption | trivial) (by kernel_rfl) (by decide +kernel) (by decide +kernel) (Or.inr ⟨by rfl, rfl⟩) ?_
             simp only [Act.put, List.setIfInBounds_toArray, List.set_cons_zero, List.set_cons_succ]))
        refine SeqS.done (by decide +kernel) ?_
        clear SD S3 b3 k3 b4 e0
        go_wp2_with fail
        have SD : Below wr.heap.size wr w4.drew := S4.drew
        refine region_seqS (fun w' => Below wr.heap.size wr w') (by kernel_rfl) SD ?_
        simp only [pairs, Nat.reduceAdd]
        repeat (first
          | (refine SeqS.take (v := ?_) (by first | assumption | trivial) (by kernel_rfl) (by decide +kernel) (by decide +kernel) (Or.inl ⟨by rfl, ?_⟩) ?_
             rotate_left
             focus
               intro w' hb'
               go_simp
               with_reducible rfl
             simp only [Act.put, List.setIfInBounds_toArray, List.set_cons_zero, List.set_cons_succ])
          | (refine SeqS.take (v := ?_) (by first | assumption | trivial) (by kernel_rfl) (by decide +kernel) (by decide +kernel) (Or.inl ⟨by rfl, ?_⟩) ?_
             rotate_left
             focus
               intro w' hb'
               have d0 := e1.out w' hb'
               go_simp
               with_reducible rfl
             simp only [Act.put, List.setIfInBounds_toArray, List.set_cons_zero, List.set_cons_succ])
          | (refine SeqS.take (v := undef) (by first | assumption | trivial) (by kernel_rfl) (by decide +kernel) (by decide +kernel) (Or.inr ⟨by rfl, rfl⟩) ?_
             simp only [Act.put, List.setIfInBounds_toArray, List.set_cons_zero, List.set_cons_succ])
          | (refine SeqS.take1 (v := ?_) (by first | assumption | trivial) (by kernel_rfl) (by decide +kernel) (by decide +kernel) (Or.inl ⟨by rfl, ?_⟩) ?_
             rotate_left
             focus
               intro w' hb'
               go_simp
               with_reducible rfl
             simp only [Act.put, List.setIfInBounds_toArray, List.set_cons_zero, List.set_cons_succ])
          | (refine SeqS.take1 (v := ?_) (by first | assumption | trivial) (by kernel_rfl) (by decide +kernel) (by decide +kernel) (Or.inl ⟨by rfl, ?_⟩) ?_
             rotate_left
             focus
               intro w' hb'
               have d0 := e1.out w' hb'
               go_simp
               with_reducible rfl
             simp only [Act.put, List.setIfInBounds_toArray, List.set_cons_zero, List.set_cons_succ])
          | (refine SeqS.take1 (v := undef) (by first | assumption | trivial) (by kernel_rfl) (by decide +kernel) (by decide +kernel) (Or.inr ⟨by rfl, rfl⟩) ?_
             simp only [Act.put, List.setIfInBounds_toArray, List.set_cons_zero, List.set_cons_succ])
          | (refine SeqS.take2 (v := ?_) (by first | assumption | trivial) (by kernel_rfl) (by decide +kernel) (by decide +kernel) (Or.inl ⟨by rfl, ?_⟩) ?_
             rotate_left
             focus
               intro w' hb'
               go_simp
               with_reducible rfl
             simp only [Act.put, List.setIfInBounds_toArray, List.set_cons_zero, List.set_cons_succ])
          | (refine SeqS.take2 (v := ?_) (by first | assumption | trivial) (by kernel_rfl) (by decide +kernel) (by decide +kernel) (Or.inl ⟨by rfl, ?_⟩) ?_
             rotate_left
             focus
               intro w' hb'
               have d0 := e1.out w' hb'
               go_simp
               with_reducible rfl
             simp only [Act.put, List.setIfInBounds_toArray, List.set_cons_zero, List.set_cons_succ])
          | (refine SeqS.take2 (v := undef) (by first | assumption | trivial) (by kernel_rfl) (by decide +kernel) (by decide +kernel) (Or.inr ⟨by rfl, rfl⟩) ?_
             simp only [Act.put, List.setIfInBounds_toArray, List.set_cons_zero, List.set_cons_succ]))
        refine SeqS.alone (by decide +kernel) (by rfl) (fun K hK => ?_)
        go_simp
        go_at_call 12
        refine (rfErrs_at _).mono ?_
        rintro e w5 ⟨rfl, b5, k5⟩
        go_simp
        have S5 : Below wr.heap.size wr w5 := SD.trans (b5.mono SD.size)
        refine hK _ _ S5 ?_
        clear hK K
        repeat (first
          | (refine SeqS.take (v := ?_) (by first | assumption | trivial) (by kernel_rfl) (by decide +kernel) (by decide +kernel) (Or.inl ⟨by rfl, ?_⟩) ?_
             rotate_left
             focus
               intro w' hb'
               go_simp
               with_reducible rfl
             simp only [Act.put, List.setIfInBounds_toArray, List.set_cons_zero, List.set_cons_succ])
          | (refine SeqS.take (v := undef) (by first | assumption | trivial) (by kernel_rfl) (by decide +kernel) (by decide +kernel) (Or.inr ⟨by rfl, rfl⟩) ?_
             simp only [Act.put, List.setIfInBounds_toArray, List.set_cons_zero, List.set_cons_succ])
          | (refine SeqS.take1 (v := ?_) (by first | assumption | trivial) (by kernel_rfl) (by decide +kernel) (by decide +kernel) (Or.inl ⟨by rfl, ?_⟩) ?_
             rotate_left
             focus
               intro w' hb'
               go_simp
               with_reducible rfl
             simp only [Act.put, List.setIfInBounds_toArray, List.set_cons_zero, List.set_cons_succ])
          | (refine SeqS.take1 (v := undef) (by first | assumption | trivial) (by kernel_rfl) (by decide +kernel) (by decide +kernel) (Or.inr ⟨by rfl, rfl⟩) ?_
             simp only [Act.put, List.setIfInBounds_toArray, List.set_cons_zero, List.set_cons_succ])
          | (refine SeqS.take2 (v := ?_) (by first | assumption | trivial) (by kernel_rfl) (by decide +kernel) (by decide +kernel) (Or.inl ⟨by rfl, ?_⟩) ?_
             rotate_left
             focus
               intro w' hb'
               go_simp
               with_reducible rfl
             simp only [Act.put, List.setIfInBounds_toArray, List.set_cons_zero, List.set_cons_succ])
          | (refine SeqS.take2 (v := undef) (by first | assumption | trivial) (by kernel_rfl) (by decide +kernel) (by decide +kernel) (Or.inr ⟨by rfl, rfl⟩) ?_
             simp only [Act.put, List.setIfInBounds_toArray, List.set_cons_zero, List.set_cons_succ]))
        refine SeqS.alone (by decide +kernel) (by rfl) (fun K hK => ?_)
        go_simp
        go_at_call 15
        refine (hO2.out _ _ k5).mono ?_
        rintro e w6 ⟨rfl, b6⟩
        go_simp
        have S6 : Below wr.heap.size wr w6 := S5.trans (b6.mono S5.size)
        refine hK _ _ S6 ?_
        clear hK K
        repeat (first
          | (refine SeqS.take (v := ?_) (by first | assumption | trivial) (by kernel_rfl) (by decide +kernel) (by decide +kernel) (Or.inl ⟨by rfl, ?_⟩) ?_
             rotate_left
             focus
               intro w' hb'
               go_simp
               with_reducible rfl
             simp only [Act.put, List.setIfInBounds_toArray, List.set_cons_zero, List.set_cons_succ])
          | (refine SeqS.take (v := undef) (by first | assumption | trivial) (by kernel_rfl) (by decide +kernel) (by decide +kernel) (Or.inr ⟨by rfl, rfl⟩) ?_
             simp only [Act.put, List.setIfInBounds_toArray, List.set_cons_zero, List.set_cons_succ])
          | (refine SeqS.take1 (v := ?_) (by first | assumption | trivial) (by kernel_rfl) (by decide +kernel) (by decide +kernel) (Or.inl ⟨by rfl, ?_⟩) ?_
             rotate_left
             focus
               intro w' hb'
               go_simp
               with_reducible rfl
             simp only [Act.put, List.setIfInBounds_toArray, List.set_cons_zero, List.set_cons_succ])
          | (refine SeqS.take1 (v := undef) (by first | assumption | trivial) (by kernel_rfl) (by decide +kernel) (by decide +kernel) (Or.inr ⟨by rfl, rfl⟩) ?_
             simp only [Act.put, List.setIfInBounds_toArray, List.set_cons_zero, List.set_cons_succ])
          | (refine SeqS.take2 (v := ?_) (by first | assumption | trivial) (by kernel_rfl) (by decide +kernel) (by decide +kernel) (Or.inl ⟨by rfl, ?_⟩) ?_
             rotate_left
             focus
               intro w' hb'
               go_simp
               with_reducible rfl
             simp only [Act.put, List.setIfInBounds_toArray, List.set_cons_zero, List.set_cons_succ])
          | (refine SeqS.take2 (v := undef) (by first | assumption | trivial) (by kernel_rfl) (by decide +kernel) (by decide +kernel) (Or.inr ⟨by rfl, rfl⟩) ?_
             simp only [Act.put, List.setIfInBounds_toArray, List.set_cons_zero, List.set_cons_succ]))
        refine SeqS.done (by decide +kernel) ?_
        have hz8 := hzH2.out.1.keep S6 hzH2.out.1.lt
        have hB8 := hzH2.out.2.trans (S6.mono hzH2.out.2.size)
        clear SD S5 b5 k5 b6 e1 S4
        cases f1 with
        | false =>
          obtain rfl := hdH.out.1 rfl
          go_wp2_with ((with_reducible refine build_row rfl 27 #[] rfl (cells := (rpC 0 0 0 0 0 0 0).toArray) ?_ ?_); (refine Eq.trans (congrArg _ ?_) hbt; kernel_rfl); refine RowKit.Hid.out ?_)
          refine Lib.hid ?_
          try simp only [Act.put, List.setIfInBounds_toArray, List.set_cons_zero, List.set_cons_succ]
          refine store_row rfl 27 (.tmp 2) (.tmp 84) rfl rfl rfl hz8 rowRp rfl rfl (rpC_one _ _ _ _ _ _ _) ?_
          intro w9 hz9 hg9
          have hr9 : IsRow Tryd.prog 27 (rpC 0 0 0 0 0 0 0).length := rowRp
          go_wp2_with fail
          refine bodyPost_ret (results_blk_tmp rfl rfl hz9 hr9) rfl ?_
          exact ⟨rfl, hB8.grown hg9 hB8.size (fun q hq => by injection hq with hq; have := gH.out; omega)⟩
        | true =>
          cases f2 with
          | false =>
            obtain rfl := hdH.out.2.1 rfl
            go_wp2_with ((with_reducible refine build_row rfl 27 #[] rfl (cells := (rpC 0 0 0 0 0 0 0).toArray) ?_ ?_); (refine Eq.trans (congrArg _ ?_) hbt; kernel_rfl); refine RowKit.Hid.out ?_)
            refine Lib.hid ?_
            try simp only [Act.put, List.setIfInBounds_toArray, List.set_cons_zero, List.set_cons_succ]
            refine store_row rfl 27 (.tmp 2) (.tmp 84) rfl rfl rfl hz8 rowRp rfl rfl (rpC_one _ _ _ _ _ _ _) ?_
            intro w9 hz9 hg9
            have hr9 : IsRow Tryd.prog 27 (rpC 0 0 0 0 0 0 0).length := rowRp
            go_wp2_with fail
            refine bodyPost_ret (results_blk_tmp rfl rfl hz9 hr9) rfl ?_
            exact ⟨rfl, hB8.grown hg9 hB8.size (fun q hq => by injection hq with hq; have := gH.out; omega)⟩
          | true =>
            by_cases h0 : p2 = 0
            · obtain rfl := hdH.out.2.2.1 (fun h => by have := h.1 h0; omega)
              have p2b : (p2 == 0) = true := beq_iff_eq.2 h0
              clear h0
              go_wp2_with ((with_reducible refine build_row rfl 27 #[] rfl (cells := (rpC 0 0 0 0 0 0 0).toArray) ?_ ?_); (refine Eq.trans (congrArg _ ?_) hbt; kernel_rfl); refine RowKit.Hid.out ?_)
              refine Lib.hid ?_
              try simp only [Act.put, List.setIfInBounds_toArray, List.set_cons_zero, List.set_cons_succ]
              refine store_row rfl 27 (.tmp 2) (.tmp 84) rfl rfl rfl hz8 rowRp rfl rfl (rpC_one _ _ _ _ _ _ _) ?_
              intro w9 hz9 hg9
              have hr9 : IsRow Tryd.prog 27 (rpC 0 0 0 0 0 0 0).length := rowRp
              go_wp2_with fail
              refine bodyPost_ret (results_blk_tmp rfl rfl hz9 hr9) rfl ?_
              exact ⟨rfl, hB8.grown hg9 hB8.size (fun q hq => by injection hq with hq; have := gH.out; omega)⟩
            · have hgd := Lib.hid (hdH.out.2.2.2.2 (by trivial) (by trivial) (.inl ⟨by trivial, h0⟩))
              have p2b : (p2 == 0) = false := beq_false_of_ne h0
              clear h0
              have hAV := Blk.new w6 25 (arC 0 0 0 0 0)
              have hzV := hz8.alloc (.cells (arC 0 0 0 0 0).toArray 25)
              have hBV := hB8.alloc hB8.size (.cells (arC 0 0 0 0 0).toArray 25)
              have SV := S6.alloc S6.size (.cells (arC 0 0 0 0 0).toArray 25)
              have hgA : g < w6.heap.size := Nat.lt_of_lt_of_le hg S6.size
              obtain ⟨V, hV⟩ : ∃ W, w6.alloc (.cells (arC 0 0 0 0 0).toArray 25) = W := ⟨_, rfl⟩
              obtain ⟨A, hAe⟩ : ∃ G, w6.heap.size = G := ⟨_, rfl⟩
              rw [hV] at hzV hBV hAV SV
              rw [hAe] at hAV hgA
              have hB6H := Lib.hid (show w.heap.size ≤ A by rw [← hAe]; exact hB8.size)
              have hV' : w6.alloc (.cells #[.int .u32 0, .int .u32 0, .int .u32 0, .int .u32 0, .int .u32 0] 25) = V := hV
              have hcV := Lib.hid (fun i (h : i < 2) => (SV.cell (p := ⟨g, i, none⟩) hg).trans (hcw.out i h))
              clear hz8 hB8 S6 hV SV hcw n0 n1
              go_wp2_with fail
              go_loopw [11] (fun i wr' => ∃ m j : Nat, m = j + 2 ∧ j ≤ 0 ∧ i = .int .i64 (m : Int) ∧ Blk wr' A 25 (arP (numQ ws) j) ∧ (∀ k : Nat, k < j → (unNum (ws.getD (k + 2) []) 4294967295).2 = 0) ∧ V.grownBy wr' (some A)) (fun i _ => 2 - (intOf i).toNat)
              case atStart => exact ⟨2, 0, rfl, Nat.zero_le _, rfl, hAV, fun k hk => absurd hk (Nat.not_lt_zero _), grown_refl _ _⟩
              case round =>
                clear hAV
                obtain ⟨m, j, hmj, hj, rfl, hA, hno, hgr⟩ := hrel
                have hj5 : (j : Int) ≤ 5 := by omega
                have hm0 : (0 : Int) ≤ (m : Int) := by omega
                have hm7 : (m : Int) ≤ 7 := by omega
                by_cases hlt : j < 0
                · omega
                · obtain rfl : j = 0 := by omega
                  have hji : ¬ (m : Int) < 2 := by omega
                  rw [arQ_cand ws 0 hnH.out] at hA
                  have hc := rfWith_any A 5 25 (candW ws) wr hA
                  obtain rfl := hgd.out (fun k hk => hno k (by omega))
                  rw [← hp1.out, ← hp2.out] at hc
                  have hz8 := hzV.grown hgr (fun e => by injection e with e; omega)
                  have hB8 := hBV.grown hgr hBV.size (fun q hq => by injection hq with hq; have h1 := hB6H.out; omega)
                  clear hlt hj hmj hA hno hgr
                  go_wp2_with fail
                  refine hc.mono ?_
                  rintro q w9 ⟨rfl, b9⟩
                  have hz9 := hz8.keep b9 hz8.lt
                  have hB9 := hB8.trans (b9.mono hB8.size)
                  clear hz8 hB8 b9
                  go_wp2_with (refine store_row rfl 27 (.tmp 2) (.tmp 112) rfl rfl rfl hz9 rowRp (rpV_len _) rfl (rpV_one _) ?_; intro w10 hz10 hg10; refine RowKit.Hid.out ?_)
                  refine Lib.hid ?_
                  have hr10 : IsRow Tryd.prog 27 (rpV (candW ws)).length := rowRp
                  go_wp2_with fail
                  refine bodyPost_ret (results_blk_tmp rfl rfl hz10 hr10) rfl ?_
                  exact ⟨rfl, hB9.grown hg10 hB9.size (fun q hq => by injection hq with hq; have := gH.out; omega)⟩
      · by_cases h7 : n = 7
        · subst h7
          clear right h2
          have hnH := Lib.hid hn
          clear hn
          have c0 := hcw.out 0 (by omega)
          have c1 := hcw.out 1 (by omega)
          have hO1 := fun gg w' hb => rfOf_at gg 7 kindsL (strOfNums (ws.getD 0 [])) w' rfl (by decide) kinds_b hb
          have hO2 := fun gg w' hb => rfOf_at gg 21 errsL (strOfNums (ws.getD 1 [])) w' rfl (by decide) errs_b hb
          rw [nums_str (hok.out 0 (by omega))] at hO1
          rw [nums_str (hok.out 1 (by omega))] at hO2
          have hp1 : (placeL (ws.getD 0 []) kindsL 0).1 = (candW ws).kind := rfl
          have hp2 : (placeL (ws.getD 1 []) errsL 0).1 = (candW ws).err := rfl
          obtain ⟨P1, hP1⟩ : ∃ P, placeL (ws.getD 0 []) kindsL 0 = P := ⟨_, rfl⟩
          obtain ⟨P2, hP2⟩ : ∃ P, placeL (ws.getD 1 []) errsL 0 = P := ⟨_, rfl⟩
          rw [hP1] at hO1 hp1 hd2 hd6
          rw [hP2] at hO2 hp2 hd3 hd4 hd6
          obtain ⟨p1, f1⟩ := P1
          obtain ⟨p2, f2⟩ := P2
          dsimp only at hO1 hO2 hp1 hp2 hd2 hd3 hd4 hd6
          replace hp1 := Lib.hid hp1
          replace hp2 := Lib.hid hp2
          obtain ⟨q0, hq0⟩ : ∃ q, strOfNums (ws.getD 0 []) = q := ⟨_, rfl⟩
          obtain ⟨q1, hq1⟩ : ∃ q, strOfNums (ws.getD 1 []) = q := ⟨_, rfl⟩
          rw [hq0] at hO1 c0
          rw [hq1] at hO2 c1
          replace hO1 := Lib.hid hO1
          replace hO2 := Lib.hid hO2
          have hzH2 := Lib.hid (And.intro hzr hBr)
          have hdH := Lib.hid (And.intro hd2 (And.intro hd3 (And.intro hd4 (And.intro hd5 hd6))))
          have n1 : (1 : Int) < ((7 : Nat) : Int) := by omega
          have n0 : (0 : Int) < ((7 : Nat) : Int) := by omega
          clear hd1 hd2 hd3 hd4 hd5 hd6 hP1 hP2 hq0 hq1 hzr hBr hnc hBg
          go_wp2_with fail
          have SD : Below wr.heap.size wr wr.drew := (Below.refl _ _).drew
          have e0 := Lib.hid (fun w' (h : Below wr.heap.size wr w') => (h.cell (p := ⟨g, 0, none⟩) hg).trans c0)
          have e1 := Lib.hid (fun w' (h : Below wr.heap.size wr w') => (h.cell (p := ⟨g, 1, none⟩) hg).trans c1)
          clear c0 c1
          refine region_seqS (fun w' => Below wr.heap.size wr w') (by kernel_rfl) SD ?_
          simp only [pairs, Nat.reduceAdd]
          repeat (first
            | (refine SeqS.take (v := ?_) (by first | assumption | trivial) (by kernel_rfl) (by decide +kernel) (by decide +kernel) (Or.inl ⟨by rfl, ?_⟩) ?_
               rotate_left
               focus
                 intro w' hb'
                 go_simp
                 with_reducible rfl
               simp only [Act.put, List.setIfInBounds_toArray, List.set_cons_zero, List.set_cons_succ])
            | (refine SeqS.take (v := ?_) (by first | assumption | trivial) (by kernel_rfl) (by decide +kernel) (by decide +kernel) (Or.inl ⟨by rfl, ?_⟩) ?_
               rotate_left
               focus
                 intro w' hb'
                 have d0 := e0.out w' hb'
                 go_simp
                 with_reducible rfl
               simp only [Act.put, List.setIfInBounds_toArray, List.set_cons_zero, List.set_cons_succ])
            | (refine SeqS.take (v := undef) (by first | assumption | trivial) (by kernel_rfl) (by decide +kernel) (by decide +kernel) (Or.inr ⟨by rfl, rfl⟩) ?_
               simp only [Act.put, List.setIfInBounds_toArray, List.set_cons_zero, List.set_cons_succ])
            | (refine SeqS.take1 (v := ?_) (by first | assumption | trivial) (by kernel_rfl) (by decide +kernel) (by decide +kernel) (Or.inl ⟨by rfl, ?_⟩) ?_
               rotate_left
               focus
                 intro w' hb'
                 go_simp
                 with_reducible rfl
               simp only [Act.put, List.setIfInBounds_toArray, List.set_cons_zero, List.set_cons_succ])
            | (refine SeqS.take1 (v := ?_) (by first | assumption | trivial) (by kernel_rfl) (by decide +kernel) (by decide +kernel) (Or.inl ⟨by rfl, ?_⟩) ?_
               rotate_left
               focus
                 intro w' hb'
                 have d0 := e0.out w' hb'
                 go_simp
                 with_reducible rfl
               simp only [Act.put, List.setIfInBounds_toArray, List.set_cons_zero, List.set_cons_succ])
            | (refine SeqS.take1 (v := undef) (by first | assumption | trivial) (by kernel_rfl) (by decide +kernel) (by decide +kernel) (Or.inr ⟨by rfl, rfl⟩) ?_
               simp only [Act.put, List.setIfInBounds_toArray, List.set_cons_zero, List.set_cons_succ])
            | (refine SeqS.take2 (v := ?_) (by first | assumption | trivial) (by kernel_rfl) (by decide +kernel) (by decide +kernel) (Or.inl ⟨by rfl, ?_⟩) ?_
               rotate_left
               focus
                 intro w' hb'
                 go_simp
                 with_reducible rfl
               simp only [Act.put, List.setIfInBounds_toArray, List.set_cons_zero, List.set_cons_succ])
            | (refine SeqS.take2 (v := ?_) (by first | assumption | trivial) (by kernel_rfl) (by decide +kernel) (by decide +kernel) (Or.inl ⟨by rfl, ?_⟩) ?_
               rotate_left
               focus
                 intro w' hb'
                 have d0 := e0.out w' hb'
                 go_simp
                 with_reducible rfl
               simp only [Act.put, List.setIfInBounds_toArray, List.set_cons_zero, List.set_cons_succ])
            | (refine SeqS.take2 (v := undef) (by first | assumption | trivial) (by kernel_rfl) (by decide +kernel) (by decide +kernel) (Or.inr ⟨by rfl, rfl⟩) ?_
               simp only [Act.put, List.setIfInBounds_toArray, List.set_cons_zero, List.set_cons_succ]))
          refine SeqS.alone (by decide +kernel) (by rfl) (fun K hK => ?_)
          go_simp
          go_at_call 13
          refine (rfKinds_at _).mono ?_
          rintro e w3 ⟨rfl, b3, k3⟩
          go_simp
          have S3 : Below wr.heap.size wr w3 := SD.trans (b3.mono SD.size)
          refine hK _ _ S3 ?_
          clear hK K
          repeat (first
            | (refine SeqS.take (v := ?_) (by first | assumption | trivial) (by kernel_rfl) (by decide +kernel) (by decide +kernel) (Or.inl ⟨by rfl, ?_⟩) ?_
               rotate_left
               focus
                 intro w' hb'
                 go_simp
                 with_reducible rfl
               simp only [Act.put, List.setIfInBounds_toArray, List.set_cons_zero, List.set_cons_succ])
            | (refine SeqS.take (v := undef) (by first | assumption | trivial) (by kernel_rfl) (by decide +kernel) (by decide +kernel) (Or.inr ⟨by rfl, rfl⟩) ?_
               simp only [Act.put, List.setIfInBounds_toArray, List.set_cons_zero, List.set_cons_succ])
            | (refine SeqS.take1 (v := ?_) (by first | assumption | trivial) (by kernel_rfl) (by decide +kernel) (by decide +kernel) (Or.inl ⟨by rfl, ?_⟩) ?_
               rotate_left
               focus
                 intro w' hb'
                 go_simp
                 with_reducible rfl
               simp only [Act.put, List.setIfInBounds_toArray, List.set_cons_zero, List.set_cons_succ])
            | (refine SeqS.take1 (v := undef) (by first | assumption | trivial) (by kernel_rfl) (by decide +kernel) (by decide +kernel) (Or.inr ⟨by rfl, rfl⟩) ?_
               simp only [Act.put, List.setIfInBounds_toArray, List.set_cons_zero, List.set_cons_succ])
            | (refine SeqS.take2 (v := ?_) (by first | assumption | trivial) (by kernel_rfl) (by decide +kernel) (by decide +kernel) (Or.inl ⟨by rfl, ?_⟩) ?_
               rotate_left
               focus
                 intro w' hb'
                 go_simp
                 with_reducible rfl
               simp only [Act.put, List.setIfInBounds_toArray, List.set_cons_zero, List.set_cons_succ])
            | (refine SeqS.take2 (v := undef) (by first | assumption | trivial) (by kernel_rfl) (by decide +kernel) (by decide +kernel) (Or.inr ⟨by rfl, rfl⟩) ?_
               simp only [Act.put, List.setIfInBounds_toArray, List.set_cons_zero, List.set_cons_succ]))
          refine SeqS.alone (by decide +kernel) (by rfl) (fun K hK => ?_)
          go_simp
          go_at_call 15
          refine (hO1.out _ _ k3).mono ?_
          rintro e w4 ⟨rfl, b4⟩
          go_simp
          have S4 : Below wr.heap.size wr w4 := S3.trans (b4.mono S3.size)
          refine hK _ _ S4 ?_
          clear hK K
          repeat (first
            | (refine SeqS.take (v := ?_) (by first | assumption | trivial) (by kernel_rfl) (by decide +kernel) (by decide +kernel) (Or.inl ⟨by rfl, ?_⟩) ?_
               rotate_left
               focus
                 intro w' hb'
                 go_simp
                 with_reducible rfl
               simp only [Act.put, List.setIfInBounds_toArray, List.set_cons_zero, List.set_cons_succ])
            | (refine SeqS.take (v := undef) (by first | assumption | trivial) (by kernel_rfl) (by decide +kernel) (by decide +kernel) (Or.inr ⟨by rfl, rfl⟩) ?_
               simp only [Act.put, List.setIfInBounds_toArray, List.set_cons_zero, List.set_cons_succ])
            | (refine SeqS.take1 (v := ?_) (by first | assumption | trivial) (by kernel_rfl) (by decide +kernel) (by decide +kernel) (Or.inl ⟨by rfl, ?_⟩) ?_
               rotate_left
               focus
                 intro w' hb'
                 go_simp
                 with_reducible rfl
               simp only [Act.put, List.setIfInBounds_toArray, List.set_cons_zero, List.set_cons_succ])
            | (refine SeqS.take1 (v := undef) (by first | assumption | trivial) (by kernel_rfl) (by decide +kernel) (by decide +kernel) (Or.inr ⟨by rfl, rfl⟩) ?_
               simp only [Act.put, List.setIfInBounds_toArray, List.set_cons_zero, List.set_cons_succ])
            | (refine SeqS.take2 (v := ?_) (by first | assumption | trivial) (by kernel_rfl) (by decide +kernel) (by decide +kernel) (Or.inl ⟨by rfl, ?_⟩) ?_
               rotate_left
               focus
                 intro w' hb'
                 go_simp
                 with_reducible rfl
               simp only [Act.put, List.setIfInBounds_toArray, List.set_cons_zero, List.set_cons_succ])
            | (refine SeqS.take2 (v := undef) (by first | assumption | trivial) (by kernel_rfl) (by decide +kernel) (by decide +kernel) (Or.inr ⟨by rfl, rfl⟩) ?_
               simp only [Act.put, List.setIfInBounds_toArray, List.set_cons_zero, List.set_cons_succ]))
          refine SeqS.done (by decide +kernel) ?_
          clear SD S3 b3 k3 b4 e0
          go_wp2_with fail
          have SD : Below wr.heap.size wr w4.drew := S4.drew
          refine region_seqS (fun w' => Below wr.heap.size wr w') (by kernel_rfl) SD ?_
          simp only [pairs, Nat.reduceAdd]
          repeat (first
            | (refine SeqS.take (v := ?_) (by first | assumption | trivial) (by kernel_rfl) (by decide +kernel) (by decide +kernel) (Or.inl ⟨by rfl, ?_⟩) ?_
               rotate_left
               focus
                 intro w' hb'
                 go_simp
                 with_reducible rfl
               simp only [Act.put, List.setIfInBounds_toArray, List.set_cons_zero, List.set_cons_succ])
            | (refine SeqS.take (v := ?_) (by first | assumption | trivial) (by kernel_rfl) (by decide +kernel) (by decide +kernel) (Or.inl ⟨by rfl, ?_⟩) ?_
               rotate_left
               focus
                 intro w' hb'
                 have d0 := e1.out w' hb'
                 go_simp
                 with_reducible rfl
               simp only [Act.put, List.setIfInBounds_toArray, List.set_cons_zero, List.set_cons_succ])
            | (refine SeqS.take (v := undef) (by first | assumption | trivial) (by kernel_rfl) (by decide +kernel) (by decide +kernel) (Or.inr ⟨by rfl, rfl⟩) ?_
               simp only [Act.put, List.setIfInBounds_toArray, List.set_cons_zero, List.set_cons_succ])
            | (refine SeqS.take1 (v := ?_) (by first | assumption | trivial) (by kernel_rfl) (by decide +kernel) (by decide +kernel) (Or.inl ⟨by rfl, ?_⟩) ?_
               rotate_left
               focus
                 intro w' hb'
                 go_simp
                 with_reducible rfl
               simp only [Act.put, List.setIfInBounds_toArray, List.set_cons_zero, List.set_cons_succ])
            | (refine SeqS.take1 (v := ?_) (by first | assumption | trivial) (by kernel_rfl) (by decide +kernel) (by decide +kernel) (Or.inl ⟨by rfl, ?_⟩) ?_
               rotate_left
               focus
                 intro w' hb'
                 have d0 := e1.out w' hb'
                 go_simp
                 with_reducible rfl
               simp only [Act.put, List.setIfInBounds_toArray, List.set_cons_zero, List.set_cons_succ])
            | (refine SeqS.take1 (v := undef) (by first | assumption | trivial) (by kernel_rfl) (by decide +kernel) (by decide +kernel) (Or.inr ⟨by rfl, rfl⟩) ?_
               simp only [Act.put, List.setIfInBounds_toArray, List.set_cons_zero, List.set_cons_succ])
            | (refine SeqS.take2 (v := ?_) (by first | assumption | trivial) (by kernel_rfl) (by decide +kernel) (by decide +kernel) (Or.inl ⟨by rfl, ?_⟩) ?_
               rotate_left
               focus
                 intro w' hb'
                 go_simp
                 with_reducible rfl
               simp only [Act.put, List.setIfInBounds_toArray, List.set_cons_zero, List.set_cons_succ])
            | (refine SeqS.take2 (v := ?_) (by first | assumption | trivial) (by kernel_rfl) (by decide +kernel) (by decide +kernel) (Or.inl ⟨by rfl, ?_⟩) ?_
               rotate_left
               focus
                 intro w' hb'
                 have d0 := e1.out w' hb'
                 go_simp
                 with_reducible rfl
               simp only [Act.put, List.setIfInBounds_toArray, List.set_cons_zero, List.set_cons_succ])
            | (refine SeqS.take2 (v := undef) (by first | assumption | trivial) (by kernel_rfl) (by decide +kernel) (by decide +kernel) (Or.inr ⟨by rfl, rfl⟩) ?_
               simp only [Act.put, List.setIfInBounds_toArray, List.set_cons_zero, List.set_cons_succ]))
          refine SeqS.alone (by decide +kernel) (by rfl) (fun K hK => ?_)
          go_simp
          go_at_call 12
          refine (rfErrs_at _).mono ?_
          rintro e w5 ⟨rfl, b5, k5⟩
          go_simp
          have S5 : Below wr.heap.size wr w5 := SD.trans (b5.mono SD.size)
          refine hK _ _ S5 ?_
          clear hK K
          repeat (first
            | (refine SeqS.take (v := ?_) (by first | assumption | trivial) (by kernel_rfl) (by decide +kernel) (by decide +kernel) (Or.inl ⟨by rfl, ?_⟩) ?_
               rotate_left
               focus
                 intro w' hb'
                 go_simp
                 with_reducible rfl
               simp only [Act.put, List.setIfInBounds_toArray, List.set_cons_zero, List.set_cons_succ])
            | (refine SeqS.take (v := undef) (by first | assumption | trivial) (by kernel_rfl) (by decide +kernel) (by decide +kernel) (Or.inr ⟨by rfl, rfl⟩) ?_
               simp only [Act.put, List.setIfInBounds_toArray, List.set_cons_zero, List.set_cons_succ])
            | (refine SeqS.take1 (v := ?_) (by first | assumption | trivial) (by kernel_rfl) (by decide +kernel) (by decide +kernel) (Or.inl ⟨by rfl, ?_⟩) ?_
               rotate_left
               focus
                 intro w' hb'
                 go_simp
                 with_reducible rfl
               simp only [Act.put, List.setIfInBounds_toArray, List.set_cons_zero, List.set_cons_succ])
            | (refine SeqS.take1 (v := undef) (by first | assumption | trivial) (by kernel_rfl) (by decide +kernel) (by decide +kernel) (Or.inr ⟨by rfl, rfl⟩) ?_
               simp only [Act.put, List.setIfInBounds_toArray, List.set_cons_zero, List.set_cons_succ])
            | (refine SeqS.take2 (v := ?_) (by first | assumption | trivial) (by kernel_rfl) (by decide +kernel) (by decide +kernel) (Or.inl ⟨by rfl, ?_⟩) ?_
               rotate_left
               focus
                 intro w' hb'
                 go_simp
                 with_reducible rfl
               simp only [Act.put, List.setIfInBounds_toArray, List.set_cons_zero, List.set_cons_succ])
            | (refine SeqS.take2 (v := undef) (by first | assumption | trivial) (by kernel_rfl) (by decide +kernel) (by decide +kernel) (Or.inr ⟨by rfl, rfl⟩) ?_
               simp only [Act.put, List.setIfInBounds_toArray, List.set_cons_zero, List.set_cons_succ]))
          refine SeqS.alone (by decide +kernel) (by rfl) (fun K hK => ?_)
          go_simp
          go_at_call 15
          refine (hO2.out _ _ k5).mono ?_
          rintro e w6 ⟨rfl, b6⟩
          go_simp
          have S6 : Below wr.heap.size wr w6 := S5.trans (b6.mono S5.size)
          refine hK _ _ S6 ?_
          clear hK K
          repeat (first
            | (refine SeqS.take (v := ?_) (by first | assumption | trivial) (by kernel_rfl) (by decide +kernel) (by decide +kernel) (Or.inl ⟨by rfl, ?_⟩) ?_
               rotate_left
               focus
                 intro w' hb'
                 go_simp
                 with_reducible rfl
               simp only [Act.put, List.setIfInBounds_toArray, List.set_cons_zero, List.set_cons_succ])
            | (refine SeqS.take (v := undef) (by first | assumption | trivial) (by kernel_rfl) (by decide +kernel) (by decide +kernel) (Or.inr ⟨by rfl, rfl⟩) ?_
               simp only [Act.put, List.setIfInBounds_toArray, List.set_cons_zero, List.set_cons_succ])
            | (refine SeqS.take1 (v := ?_) (by first | assumption | trivial) (by kernel_rfl) (by decide +kernel) (by decide +kernel) (Or.inl ⟨by rfl, ?_⟩) ?_
               rotate_left
               focus
                 intro w' hb'
                 go_simp
                 with_reducible rfl
               simp only [Act.put, List.setIfInBounds_toArray, List.set_cons_zero, List.set_cons_succ])
            | (refine SeqS.take1 (v := undef) (by first | assumption | trivial) (by kernel_rfl) (by decide +kernel) (by decide +kernel) (Or.inr ⟨by rfl, rfl⟩) ?_
               simp only [Act.put, List.setIfInBounds_toArray, List.set_cons_zero, List.set_cons_succ])
            | (refine SeqS.take2 (v := ?_) (by first | assumption | trivial) (by kernel_rfl) (by decide +kernel) (by decide +kernel) (Or.inl ⟨by rfl, ?_⟩) ?_
               rotate_left
               focus
                 intro w' hb'
                 go_simp
                 with_reducible rfl
               simp only [Act.put, List.setIfInBounds_toArray, List.set_cons_zero, List.set_cons_succ])
            | (refine SeqS.take2 (v := undef) (by first | assumption | trivial) (by kernel_rfl) (by decide +kernel) (by decide +kernel) (Or.inr ⟨by rfl, rfl⟩) ?_
               simp only [Act.put, List.setIfInBounds_toArray, List.set_cons_zero, List.set_cons_succ]))
          refine SeqS.done (by decide +kernel) ?_
          have hz8 := hzH2.out.1.keep S6 hzH2.out.1.lt
          have hB8 := hzH2.out.2.trans (S6.mono hzH2.out.2.size)
          clear SD S5 b5 k5 b6 e1 S4
          cases f1 with
          | false =>
            obtain rfl := hdH.out.1 rfl
            go_wp2_with ((with_reducible refine build_row rfl 27 #[] rfl (cells := (rpC 0 0 0 0 0 0 0).toArray) ?_ ?_); (refine Eq.trans (congrArg _ ?_) hbt; kernel_rfl); refine RowKit.Hid.out ?_)
            refine Lib.hid ?_
            try simp only [Act.put, List.setIfInBounds_toArray, List.set_cons_zero, List.set_cons_succ]
            refine store_row rfl 27 (.tmp 2) (.tmp 84) rfl rfl rfl hz8 rowRp rfl rfl (rpC_one _ _ _ _ _ _ _) ?_
            intro w9 hz9 hg9
            have hr9 : IsRow Tryd.prog 27 (rpC 0 0 0 0 0 0 0).length := rowRp
            go_wp2_with fail
            refine bodyPost_ret (results_blk_tmp rfl rfl hz9 hr9) rfl ?_
            exact ⟨rfl, hB8.grown hg9 hB8.size (fun q hq => by injection hq with hq; have := gH.out; omega)⟩
          | true =>
            cases f2 with
            | false =>
              obtain rfl := hdH.out.2.1 rfl
              go_wp2_with ((with_reducible refine build_row rfl 27 #[] rfl (cells := (rpC 0 0 0 0 0 0 0).toArray) ?_ ?_); (refine Eq.trans (congrArg _ ?_) hbt; kernel_rfl); refine RowKit.Hid.out ?_)
              refine Lib.hid ?_
              try simp only [Act.put, List.setIfInBounds_toArray, List.set_cons_zero, List.set_cons_succ]
              refine store_row rfl 27 (.tmp 2) (.tmp 84) rfl rfl rfl hz8 rowRp rfl rfl (rpC_one _ _ _ _ _ _ _) ?_
              intro w9 hz9 hg9
              have hr9 : IsRow Tryd.prog 27 (rpC 0 0 0 0 0 0 0).length := rowRp
              go_wp2_with fail
              refine bodyPost_ret (results_blk_tmp rfl rfl hz9 hr9) rfl ?_
              exact ⟨rfl, hB8.grown hg9 hB8.size (fun q hq => by injection hq with hq; have := gH.out; omega)⟩
            | true =>
              by_cases h0 : p2 = 0
              · have p2b : (p2 == 0) = true := beq_iff_eq.2 h0
                have hgd := Lib.hid (hdH.out.2.2.2.2 (by trivial) (by trivial) (.inr ⟨by trivial, h0⟩))
                clear h0
                have hAV := Blk.new w6 25 (arC 0 0 0 0 0)
                have hzV := hz8.alloc (.cells (arC 0 0 0 0 0).toArray 25)
                have hBV := hB8.alloc hB8.size (.cells (arC 0 0 0 0 0).toArray 25)
                have SV := S6.alloc S6.size (.cells (arC 0 0 0 0 0).toArray 25)
                have hgA : g < w6.heap.size := Nat.lt_of_lt_of_le hg S6.size
                obtain ⟨V, hV⟩ : ∃ W, w6.alloc (.cells (arC 0 0 0 0 0).toArray 25) = W := ⟨_, rfl⟩
                obtain ⟨A, hAe⟩ : ∃ G, w6.heap.size = G := ⟨_, rfl⟩
                rw [hV] at hzV hBV hAV SV
                rw [hAe] at hAV hgA
                have hB6H := Lib.hid (show w.heap.size ≤ A by rw [← hAe]; exact hB8.size)
                have hV' : w6.alloc (.cells #[.int .u32 0, .int .u32 0, .int .u32 0, .int .u32 0, .int .u32 0] 25) = V := hV
                have hcV := Lib.hid (fun i (h : i < 7) => (SV.cell (p := ⟨g, i, none⟩) hg).trans (hcw.out i h))
                clear hz8 hB8 S6 hV SV hcw n0 n1
                go_wp2_with fail
                go_loopw [11] (fun i wr' => ∃ m j : Nat, m = j + 2 ∧ j ≤ 5 ∧ i = .int .i64 (m : Int) ∧ Blk wr' A 25 (arP (numQ ws) j) ∧ (∀ k : Nat, k < j → (unNum (ws.getD (k + 2) []) 4294967295).2 = 0) ∧ V.grownBy wr' (some A)) (fun i _ => 7 - (intOf i).toNat)
                case atStart => exact ⟨2, 0, rfl, Nat.zero_le _, rfl, hAV, fun k hk => absurd hk (Nat.not_lt_zero _), grown_refl _ _⟩
                case round =>
                  clear hAV
                  obtain ⟨m, j, hmj, hj, rfl, hA, hno, hgr⟩ := hrel
                  have hj5 : (j : Int) ≤ 5 := by omega
                  have hm0 : (0 : Int) ≤ (m : Int) := by omega
                  have hm7 : (m : Int) ≤ 7 := by omega
                  by_cases hlt : j < 5
                  · have hji : (m : Int) < 7 := by omega
                    have hj4 : (j : Int) < 5 := by omega
                    have hwm : IntKind.i64.wrap ((m : Int) - 2) = (j : Int) := by rw [IntKind.wrap_i64]; omega
                    have hwm' : (m : Int) - 2 = (j : Int) := by omega
                    have cm := hgr.cell (hcV.out m (by omega)) (fun e => by injection e with e; have e' : g = A := e; omega)
                    have hne := rNumOf_any (strOfNums (ws.getD m [])) 4294967295 wr (by rw [str_size]; have := hsz.out m (by omega); have := hlH.out; have := hLH.out; omega) (by decide)
                    rw [nums_str (hok.out m (by omega)), show ((4294967295 : Nat) : Int) = 4294967295 from rfl] at hne
                    have hst := arP_set (numQ ws) j (by omega)
                    obtain ⟨v0, hv0⟩ := arP_get (numQ ws) j (by omega)
                    have hv0H := Lib.hid hv0
                    have hbadn := hdH.out.2.2.2.1 j (by omega)
                    have hrg := numW_range (ws.getD m [])
                    have hnq : numQ ws j = ((unNum (ws.getD m []) 4294967295).1 : Int) := by rw [hmj]; rfl
                    have hnw : numW (ws.getD m []) = ((unNum (ws.getD m []) 4294967295).1 : Int) := rfl
                    rw [← hmj] at hbadn
                    rw [hnw] at hrg
                    obtain ⟨pm, hpm⟩ : ∃ p, strOfNums (ws.getD m []) = p := ⟨_, rfl⟩
                    rw [hpm] at cm hne
                    have hnx : (unNum (ws.getD m []) 4294967295).2 = 0 → ∀ k : Nat, k < j + 1 → (unNum (ws.getD (k + 2) []) 4294967295).2 = 0 := fun h k hk => by
                      by_cases e : k = j
                      · rw [e, ← hmj]; exact h
                      · exact hno k (by omega)
                    obtain ⟨u, hu⟩ : ∃ u, unNum (ws.getD m []) 4294967295 = u := ⟨_, rfl⟩
                    rw [hu] at hne hbadn hrg hnq hnx
                    obtain ⟨u1, u2⟩ := u
                    dsimp only at hne hbadn hrg hnq hnx
                    rw [hnq] at hst
                    obtain ⟨v, hv⟩ : ∃ v, (u1 : Int) = v := ⟨_, rfl⟩
                    rw [hv] at hne hrg hst
                    by_cases hu2 : u2 = 0
                    · subst hu2
                      have hnxH := Lib.hid (hnx rfl)
                      have x1 : IntKind.u32.wrap v = v := by rw [IntKind.wrap_u32]; omega
                      have x2 : v % 4294967296 = v := by omega
                      have d0 := (hA.cell j).trans hv0H.out
                      have f0 := hA.frozen j
                      have hA6 := Lib.hid ((hA.set j (.int .u32 v)).cast hst)
                      have hg6 := Lib.hid (grown_trans hgr (grown_setCell wr A j (.int .u32 v)))
                      have hltH := Lib.hid hlt
                      have hmH := Lib.hid hmj
                      clear hlt hj hmj hA hno hgr hst hv0 hbadn hrg hnq hnx hu hv hpm hnw
                      go_wp2_with fail
                      refine hne.mono ?_
                      rintro q w9 ⟨rfl, rfl⟩
                      go_wp2
                      exact ⟨⟨m + 1, j + 1, by have := hmH.out; omega, by have := hltH.out; omega, by congr 1, hA6.out, hnxH.out, hg6.out⟩, by simp only [intOf]; have := hltH.out; have := hmH.out; omega⟩
                    · obtain rfl := hbadn hu2
                      have ub : (u2 == 0) = false := beq_false_of_ne hu2
                      have un : (u2 != 0) = true := by rw [bne_iff_ne]; exact hu2
                      have hz8 := hzV.grown hgr (fun e => by injection e with e; omega)
                      have hB8 := hBV.grown hgr hBV.size (fun q hq => by injection hq with hq; have h1 := hB6H.out; omega)
                      clear hlt hj hmj hA hno hgr hst hv0 hbadn hrg hnq hnx hu hv hpm hnw
                      go_wp2_with fail
                      refine hne.mono ?_
                      rintro q w9 ⟨rfl, rfl⟩
                      go_wp2_with ((with_reducible refine build_row rfl 27 #[] rfl (cells := (rpC 0 0 0 0 0 0 0).toArray) ?_ ?_); (refine Eq.trans (congrArg _ ?_) hbt; kernel_rfl); refine RowKit.Hid.out ?_)
                      refine Lib.hid ?_
                      try simp only [Act.put, List.setIfInBounds_toArray, List.set_cons_zero, List.set_cons_succ]
                      refine store_row rfl 27 (.tmp 2) (.tmp 102) rfl rfl rfl hz8 rowRp rfl rfl (rpC_one _ _ _ _ _ _ _) ?_
                      intro w9 hz9 hg9
                      have hr9 : IsRow Tryd.prog 27 (rpC 0 0 0 0 0 0 0).length := rowRp
                      go_wp2_with fail
                      refine bodyPost_ret (results_blk_tmp rfl rfl hz9 hr9) rfl ?_
                      exact ⟨rfl, hB8.grown hg9 hB8.size (fun q hq => by injection hq with hq; have := gH.out; omega)⟩
                  · obtain rfl : j = 5 := by omega
                    have hji : ¬ (m : Int) < 7 := by omega
                    rw [arQ_cand ws 5 hnH.out] at hA
                    have hc := rfWith_any A 5 25 (candW ws) wr hA
                    obtain rfl := hgd.out (fun k hk => hno k (by omega))
                    rw [← hp1.out, ← hp2.out] at hc
                    have hz8 := hzV.grown hgr (fun e => by injection e with e; omega)
                    have hB8 := hBV.grown hgr hBV.size (fun q hq => by injection hq with hq; have h1 := hB6H.out; omega)
                    clear hlt hj hmj hA hno hgr
                    go_wp2_with fail
                    refine hc.mono ?_
                    rintro q w9 ⟨rfl, b9⟩
                    have hz9 := hz8.keep b9 hz8.lt
                    have hB9 := hB8.trans (b9.mono hB8.size)
                    clear hz8 hB8 b9
                    go_wp2_with (refine store_row rfl 27 (.tmp 2) (.tmp 112) rfl rfl rfl hz9 rowRp (rpV_len _) rfl (rpV_one _) ?_; intro w10 hz10 hg10; refine RowKit.Hid.out ?_)
                    refine Lib.hid ?_
                    have hr10 : IsRow Tryd.prog 27 (rpV (candW ws)).length := rowRp
                    go_wp2_with fail
                    refine bodyPost_ret (results_blk_tmp rfl rfl hz10 hr10) rfl ?_
                    exact ⟨rfl, hB9.grown hg10 hB9.size (fun q hq => by injection hq with hq; have := gH.out; omega)⟩
              · obtain rfl := hdH.out.2.2.1 (fun h => h0 (h.2 (by trivial)))
                have p2b : (p2 == 0) = false := beq_false_of_ne h0
                clear h0
                go_wp2_with ((with_reducible refine build_row rfl 27 #[] rfl (cells := (rpC 0 0 0 0 0 0 0).toArray) ?_ ?_); (refine Eq.trans (congrArg _ ?_) hbt; kernel_rfl); refine RowKit.Hid.out ?_)
                refine Lib.hid ?_
                try simp only [Act.put, List.setIfInBounds_toArray, List.set_cons_zero, List.set_cons_succ]
                refine store_row rfl 27 (.tmp 2) (.tmp 84) rfl rfl rfl hz8 rowRp rfl rfl (rpC_one _ _ _ _ _ _ _) ?_
                intro w9 hz9 hg9
                have hr9 : IsRow Tryd.prog 27 (rpC 0 0 0 0 0 0 0).length := rowRp
                go_wp2_with fail
                refine bodyPost_ret (results_blk_tmp rfl rfl hz9 hr9) rfl ?_
                exact ⟨rfl, hB8.grown hg9 hB8.size (fun q hq => by injection hq with hq; have := gH.out; omega)⟩
        · obtain rfl := hd1 h2 h7
          have m2 : ((n : Int) != 2) = true := by rw [bne_iff_ne]; omega
          have m7 : ((n : Int) != 7) = true := by rw [bne_iff_ne]; omega
          have m2' : ¬ (n : Int) = 2 := by omega
          have m7' : ¬ (n : Int) = 7 := by omega
          have m2q : ((n : Int) == 2) = false := beq_false_of_ne m2'
          have m7q : ((n : Int) == 7) = false := beq_false_of_ne m7'
          have hB8 := hBr
          clear hd1 hd2 hd3 hd4 hd5 hd6 h2 h7
          go_wp2_with ((with_reducible refine build_row rfl 27 #[] rfl (cells := (rpC 0 0 0 0 0 0 0).toArray) ?_ ?_); (refine Eq.trans (congrArg _ ?_) hbt; kernel_rfl); refine RowKit.Hid.out ?_)
          refine Lib.hid ?_
          try simp only [Act.put, List.setIfInBounds_toArray, List.set_cons_zero, List.set_cons_succ]
          refine store_row rfl 27 (.tmp 2) (.tmp 53) rfl rfl rfl hzr rowRp rfl rfl (rpC_one _ _ _ _ _ _ _) ?_
          intro w9 hz9 hg9
          have hr9 : IsRow Tryd.prog 27 (rpC 0 0 0 0 0 0 0).length := rowRp
          go_wp2_with fail
          refine bodyPost_ret (results_blk_tmp rfl rfl hz9 hr9) rfl ?_
          exact ⟨rfl, hB8.grown hg9 hB8.size (fun q hq => by injection hq with hq; have := gH.out; omega)⟩
end Go.Proofs.YtbiabjehdmddbaaDoor

/-
  Texts of stages that were proved on their own, joined: PayLawF, PayLwF. Each begins with its own words.
-/
import Derived.Test.YtcfachgfgogllaaDoorJPayAll11
import Derived.Test.YtcfachgfgogllaaDoorJPayAll13
import Derived.Test.YtcfachgfgogllaaDoorJPayAll19

/-
  The law PayloadFinds, by what the program's payloads and the document's own come to. New memory alone is written. Conditions: sha's package variables hold the constants and the starts; fees below 2^32, bytes below 256.
-/
namespace Go.Proofs.YtcfachgfgogllaaDoor
open Go.RowKit

theorem few_small {ts : List Tier} (h : fewB ts = true) : ts.length ≤ 20 ∧ Small ts := by
  unfold fewB at h
  rw [Bool.and_eq_true, decide_eq_true_eq, List.all_eq_true] at h
  refine ⟨h.2, by have := h.2; omega, fun t ht => ?_⟩
  have := of_decide_eq_true (h.1 t ht)
  omega
theorem idsL_len : ∀ ts : List Tier, (idsL ts).length = 32 * ts.length
  | [] => rfl
  | t :: r => by
    show (shaSum t.2 ++ idsL r).length = _
    rw [List.length_append, shaSum_length, idsL_len r, List.length_cons]
    omega
theorem idsL_at {ts : List Tier} {i : Nat} {t : Tier} (ht : ts[i]? = some t) (j : Nat) (hj : j < 32) : (idsL ts).getD (i * 32 + j) 0 = (shaSum t.2).getD j 0 := by
  have hi := (List.getElem?_eq_some_iff.1 ht).1
  have e : ts = ts.take i ++ (t :: ts.drop (i + 1)) := by
    have h2 := List.drop_eq_getElem_cons hi
    rw [List.getElem?_eq_getElem hi] at ht
    injection ht with ht
    rw [ht] at h2
    rw [← h2, List.take_append_drop]
  have e2 : idsL ts = idsL (ts.take i) ++ (shaSum t.2 ++ idsL (ts.drop (i + 1))) := by
    have : idsL (ts.take i ++ (t :: ts.drop (i + 1))) = _ := List.flatMap_append
    rw [← e] at this
    exact this
  have hl : (idsL (ts.take i)).length = i * 32 := by rw [idsL_len, List.length_take]; omega
  have h32 : (shaSum t.2).length = 32 := shaSum_length _
  rw [e2, List.getD_eq_getElem?_getD, List.getD_eq_getElem?_getD, List.getElem?_append_right (by omega), hl, List.getElem?_append_left (by omega)]
  congr 2
  omega
theorem ids_range {w : World} {b off n c : Nat} {ts : List Tier} (h : IdsAt w (some ⟨b, off, none⟩) n c (idsL ts)) (hl : ts.length = n) {i : Nat} {t : Tier} (ht : ts[i]? = some t) : w.rangeAt b (off + i * 32) ((shaSum t.2).map (Value.int .u8)) := by
  intro j v hj
  have hi := (List.getElem?_eq_some_iff.1 ht).1
  have h32 : (shaSum t.2).length = 32 := shaSum_length _
  have hjl := (List.getElem?_eq_some_iff.1 hj).1
  rw [List.length_map, h32] at hjl
  rcases h.2.2 with h0 | ⟨b', off', ha, hc⟩
  · omega
  · injection ha with ha
    injection ha with ha ho
    subst ha; subst ho
    have h1 := hc (i * 32 + j) (by omega)
    rw [idsL_at ht j hjl] at h1
    rw [List.getElem?_map] at hj
    rw [List.getD_eq_getElem?_getD] at h1
    cases hq : (shaSum t.2)[j]? with
    | none => rw [hq] at hj; cases hj
    | some z =>
      rw [hq] at hj h1
      injection hj with hj
      rw [Nat.add_assoc, h1, ← hj]
      rfl
theorem IdsAt.grown {w w' : World} {a : Option Addr} {n c : Nat} {zs : List Int} {row : Option Nat} (h : IdsAt w a n c zs) (hg : w.grownBy w' row) (hne : ∀ x, a = some x → some x.block ≠ row) : IdsAt w' a n c zs := by
  refine ⟨h.1, h.2.1, ?_⟩
  rcases h.2.2 with h0 | ⟨b, off, ha, hc⟩
  · exact .inl h0
  · have hn : some b ≠ row := hne _ ha
    exact .inr ⟨b, off, ha, fun i hi => hg.cell (hc i hi) hn⟩
theorem find_cases (ts : List Tier) (x : List Int) : findL ts x = (0, false) ∨ ∃ i t, findL ts x = (i, true) ∧ ts[i]? = some t ∧ shaSum t.2 = x := by
  unfold findL
  cases h : ts.findIdx? (fun t => decide (shaSum t.2 = x)) with
  | none => exact .inl rfl
  | some i =>
    rw [List.findIdx?_eq_some_iff_getElem] at h
    obtain ⟨hi, h1, _⟩ := h
    exact .inr ⟨i, ts[i], rfl, List.getElem?_eq_getElem hi, of_decide_eq_true h1⟩

set_option maxRecDepth 100000 in
set_option maxHeartbeats 2000000 in
theorem payFinds_any (a : Option Addr) (n c : Nat) (ts : List Tier) (x : List Int) (A : Nat) (w : World) (hG : Glob w) (hT : TiersAt w a n c ts) (hr : ∀ t ∈ ts, Ranged t) (hn : n ≤ maxLen) (hx : x.length = 32) :
    Calls Tryd.prog 5 #[.agg #[.slice a n c], .agg (x.map (Value.int .u8)).toArray, .int .u8 (A : Int)] w fun q w' => q = .returned (.bool true) ∧ Below w.heap.size w w' := by
  obtain ⟨X, hX⟩ : ∃ X, x.map (Value.int .u8) = X := ⟨_, rfl⟩
  have hXX : X.length = 32 := by rw [← hX, List.length_map, hx]
  have HI : IsRow Tryd.prog 36 X.length := by rw [hXX]; exact rowId
  have hb := below2 w (.cells #[.slice a n c] 24) (.cells X.toArray 36)
  have hk0 : Blk ((w.alloc (.cells #[.slice a n c] 24)).alloc (.cells X.toArray 36)) w.heap.size 24 [.slice a n c] := (Blk.new w 24 [.slice a n c]).alloc _
  have hi0 : Blk ((w.alloc (.cells #[.slice a n c] 24)).alloc (.cells X.toArray 36)) (w.heap.size + 1) 36 X := Blk.new1 w (.cells #[.slice a n c] 24) 36 X
  have hbH := Lib.hid hb
  have gl := Lib.hid (fun w' (h : Below w.heap.size w w') => hG.keep h (Nat.le_refl _))
  have TK := Lib.hid (fun w' (h : Below w.heap.size w w') => hT.keep h)
  have fw := r13Few_any a n c ts _ (hT.keep hb) hn
  have alH := Lib.hid (fun w' h => alive13_any w' (gl.out w' h))
  have hrH := Lib.hid hr
  have hl := hT.1
  have kc0 := hk0.cell 0
  rw [hX]
  cases hf : fewB ts with
  | false =>
    rw [hf] at fw
    clear hT hG hr hn hf hk0 hi0 hx hX TK hl
    go_enter Tryd.func5, Tryd.ntmps5
    go_wp2_with fail
    refine fw.mono ?_
    rintro q w1 ⟨rfl, b1⟩
    have B1 := hbH.out.trans (b1.mono hbH.out.size)
    clear fw b1
    go_wp2_with fail
    refine (alH.out w1 B1).mono ?_
    rintro q w2 ⟨rfl, b2⟩
    go_wp2
    go_ret
    exact ⟨rfl, B1.trans (b2.mono B1.size)⟩
  | true =>
    rw [hf] at fw
    obtain ⟨hn20, hsm⟩ := few_small hf
    have fwH := Lib.hid fw
    have hsmH := Lib.hid hsm
    have hnm : (n : Int) ≤ 20 := by omega
    have hxH := Lib.hid (And.intro hx hX)
    have hnH := Lib.hid (And.intro hl hn20)
    have hblk := Lib.hid (And.intro hk0 hi0)
    have idc := Lib.hid (fun w' h => ppIDs_any a n c ts w' (gl.out w' h) (TK.out w' h) hr hsm)
    clear hT hG hr hn hf hk0 hi0 hx hX hl fw hb hn20 hsm
    go_enter Tryd.func5, Tryd.ntmps5
    go_wp2_with fail
    refine fwH.out.mono ?_
    rintro q w1 ⟨rfl, b1⟩
    obtain ⟨I, hIe⟩ : ∃ I, w.heap.size + 1 = I := ⟨_, rfl⟩
    obtain ⟨G, hGe⟩ : ∃ G, w.heap.size = G := ⟨_, rfl⟩
    obtain ⟨hk0, hi0⟩ := hblk.out
    rw [hGe] at hk0
    rw [hIe] at hi0
    have hk1 := hk0.keep b1 hk0.lt
    have hi1 := hi0.keep b1 hi0.lt
    have B1 := hbH.out.trans (b1.mono hbH.out.size)
    have k1 := hk1.cell 0
    rw [hIe, hGe]
    have hIH := Lib.hid hIe
    have hGH := Lib.hid hGe
    clear hk0 hi0 b1 hblk hbH fwH kc0 hIe hGe
    go_wp2_with fail
    refine (idc.out w1 B1).mono ?_
    rintro q w2 ⟨lb, ld, rfl, hL, hlo, b2⟩
    have hlI := Lib.hid (fun x (hx : lb = some x) => (by have := hlo x hx; have := hi1.lt; omega : x.block ≠ I))
    have hk2 := hk1.keep b2 hk1.lt
    have hi2 := hi1.keep b2 hi1.lt
    have B2 := B1.trans (b2.mono B1.size)
    have k2 := hk2.cell 0
    clear hk1 hi1 B1 b2 k1 idc hlo
    by_cases h0 : n = 0
    · have h0i : ¬ (0 : Int) < (n : Int) := by omega
      obtain ⟨y, hyH⟩ : ∃ y : List Int, Hid (y.length = 32 ∧ y.map (Value.int .u8) = X) := ⟨x, hxH⟩
      obtain ⟨Y, hYe⟩ : ∃ Y, X = Y := ⟨_, rfl⟩
      rw [hYe] at hi2 hyH HI hXX
      have hYY := Lib.hid hXX
      clear hYe h0 hXX
      go_wp2_with fail
      clear h0i
      rename ¬ 0 < n => hz0
      clear hz0
      go_loopw [46] (fun i wr => ∃ j : Nat, j ≤ n ∧ i = .int .i64 j ∧ Blk wr G 24 [.slice a n c] ∧ Blk wr I 36 Y ∧ IdsAt wr lb n ld (idsL ts) ∧ Below w.heap.size w wr) (fun i _ => n - (intOf i).toNat)
      case atStart => exact ⟨0, Nat.zero_le _, rfl, hk2, hi2, hL, B2⟩
      case round =>
        clear hk2 hi2 hL B2
        obtain ⟨j, hj, rfl, hk, hi, hL, hB⟩ := hrel
        by_cases hlt : j < n
        · have hji : (j : Int) < (n : Int) := by omega
          obtain ⟨b, off, t, T, d, rfl, ht, c0, c1, hI, hrg⟩ := (TK.out wr hB).get j hlt
          obtain ⟨lg, lo, rfl, _⟩ : ∃ lg lo, lb = some ⟨lg, lo, none⟩ ∧ True := by
            rcases hL.2.2 with h0 | ⟨lg, lo, h, _⟩
            · omega
            · exact ⟨lg, lo, h, trivial⟩
          have hlr := ids_range hL hnH.out.1 ht
          have rt := hrH.out t (List.mem_of_getElem? ht)
          have htl := hsmH.out.2 t (List.mem_of_getElem? ht)
          have hq := idEq13 (shaSum t.2) (shaSum t.2) (shaSum_length _) (shaSum_length _)
          rw [decide_eq_true rfl] at hq
          have rc := Lib.hid (fun w' (h : Below wr.heap.size wr w') => r13ID_any T t.2.length d t.2 w' (hI.keep h) rt.ok htl)
          have pc := Lib.hid (fun w' (h : Below wr.heap.size wr w') => ppTxID_any T t.2.length d t.2 w' (gl.out w' (hB.trans (h.mono hB.size))) (hI.keep h) rt.ok htl)
          have hZZ : ((shaSum t.2).map (Value.int .u8)).length = 32 := by rw [List.length_map, shaSum_length]
          obtain ⟨Z, hZ⟩ : ∃ Z, (shaSum t.2).map (Value.int .u8) = Z := ⟨_, rfl⟩
          rw [hZ] at hq rc pc hlr hZZ
          have HZ : IsRow Tryd.prog 36 Z.length := by rw [hZZ]; exact rowId
          obtain ⟨L, hLe⟩ : ∃ L, t.2.length = L := ⟨_, rfl⟩
          obtain ⟨f, hf⟩ : ∃ f, t.1 = f := ⟨_, rfl⟩
          rw [hLe] at c1 hrg rc pc
          rw [hf] at c0 hrg
          have hltH := Lib.hid hlt
          have hold := Lib.hid (And.intro hk (And.intro hi (And.intro hL hB)))
          have hlrH := Lib.hid hlr
          clear hlt hj hI rt htl hZ hLe hf ht hk hi hL hB hZZ hlr
          go_wp2_with fail
          obtain ⟨H, hH⟩ : ∃ H, wr.heap.size = H := ⟨_, rfl⟩
          obtain ⟨V, hV⟩ : ∃ V, wr.alloc (.cells #[.int .u32 f, .slice T L d] 41) = V := ⟨_, rfl⟩
          have hN : Blk V H 41 [.int .u32 f, .slice T L d] := by rw [← hV, ← hH]; exact Blk.new wr _ _
          have bV : Below wr.heap.size wr V := by rw [← hV]; exact below1 wr _
          rw [hV, hH]
          have b1 : Below V.heap.size V V.drew := (Below.refl _ _).drew
          have bW := Lib.hid (fun w' (h : Below V.heap.size V w') => bV.trans (h.mono bV.size))
          have l1 := Lib.hid hN.lt
          have e1 := Lib.hid (hN.cell 1)
          have hlv : V.rangeAt lg (lo + j * 32) Z := fun q u hq => by
            have h1 := hlrH.out q u hq
            rw [bV.cell (World.block_lt_of_cell? wr _ h1)]
            exact h1
          have ZR := Lib.hid (fun w' (h : Below V.heap.size V w') => (fun q u hq => by
            have h1 := hlv q u hq
            rw [h.cell (World.block_lt_of_cell? V _ h1)]
            exact h1 : w'.rangeAt lg (lo + j * 32) Z))
          have hng := noGuard13
          clear hV hH c0 c1 hrg hN hlv hlrH
          refine region_seqS (fun w' => Below V.heap.size V w') (by kernel_rfl) b1 ?_
          simp only [pairs, Nat.reduceAdd]
          repeat (first
            | (refine SeqS.take (v := .agg (Z).toArray) (by first | assumption | trivial) (by kernel_rfl) (by decide +kernel) (by decide +kernel) (yields_part (by rfl) 36 (.tmp 53) rfl rfl (fun w' h => ZR.out w' h) (HZ)) ?_
               simp only [Act.put, List.setIfInBounds_toArray, List.set_cons_zero, List.set_cons_succ])
            | (refine SeqS.take (v := ?_) (by first | assumption | trivial) (by kernel_rfl) (by decide +kernel) (by decide +kernel) (Or.inl ⟨by rfl, ?_⟩) ?_
               rotate_left
               focus
                 intro w' hb'
                 go_simp
                 with_reducible rfl
               simp only [Act.put, List.setIfInBounds_toArray, List.set_cons_zero, List.set_cons_succ])
            | (refine SeqS.take (v := ?_) (by first | assumption | trivial) (by kernel_rfl) (by decide +kernel) (by decide +kernel) (Or.inl ⟨by rfl, ?_⟩) ?_
               rotate_left
               focus
                 intro w' hb'
                 have d0 : w'.cell? ⟨H, 1, none⟩ = some (.slice T L d) := (hb'.cell l1.out).trans e1.out
                 go_simp
                 with_reducible rfl
               simp only [Act.put, List.setIfInBounds_toArray, List.set_cons_zero, List.set_cons_succ])
            | (refine SeqS.take (v := undef) (by first | assumption | trivial) (by kernel_rfl) (by decide +kernel) (by decide +kernel) (Or.inr ⟨by rfl, rfl⟩) ?_
               simp only [Act.put, List.setIfInBounds_toArray, List.set_cons_zero, List.set_cons_succ])
            | (refine SeqS.take1 (v := .agg (Z).toArray) (by first | assumption | trivial) (by kernel_rfl) (by decide +kernel) (by decide +kernel) (yields_part (by rfl) 36 (.tmp 53) rfl rfl (fun w' h => ZR.out w' h) (HZ)) ?_
               simp only [Act.put, List.setIfInBounds_toArray, List.set_cons_zero, List.set_cons_succ])
            | (refine SeqS.take1 (v := ?_) (by first | assumption | trivial) (by kernel_rfl) (by decide +kernel) (by decide +kernel) (Or.inl ⟨by rfl, ?_⟩) ?_
               rotate_left
               focus
                 intro w' hb'
                 go_simp
                 with_reducible rfl
               simp only [Act.put, List.setIfInBounds_toArray, List.set_cons_zero, List.set_cons_succ])
            | (refine SeqS.take1 (v := ?_) (by first | assumption | trivial) (by kernel_rfl) (by decide +kernel) (by decide +kernel) (Or.inl ⟨by rfl, ?_⟩) ?_
               rotate_left
               focus
                 intro w' hb'
                 have d0 : w'.cell? ⟨H, 1, none⟩ = some (.slice T L d) := (hb'.cell l1.out).trans e1.out
                 go_simp
                 with_reducible rfl
               simp only [Act.put, List.setIfInBounds_toArray, List.set_cons_zero, List.set_cons_succ])
            | (refine SeqS.take1 (v := undef) (by first | assumption | trivial) (by kernel_rfl) (by decide +kernel) (by decide +kernel) (Or.inr ⟨by rfl, rfl⟩) ?_
               simp only [Act.put, List.setIfInBounds_toArray, List.set_cons_zero, List.set_cons_succ])
            | (refine SeqS.take2 (v := .agg (Z).toArray) (by first | assumption | trivial) (by kernel_rfl) (by decide +kernel) (by decide +kernel) (yields_part (by rfl) 36 (.tmp 53) rfl rfl (fun w' h => ZR.out w' h) (HZ)) ?_
               simp only [Act.put, List.setIfInBounds_toArray, List.set_cons_zero, List.set_cons_succ])
            | (refine SeqS.take2 (v := ?_) (by first | assumption | trivial) (by kernel_rfl) (by decide +kernel) (by decide +kernel) (Or.inl ⟨by rfl, ?_⟩) ?_
               rotate_left
               focus
                 intro w' hb'
                 go_simp
                 with_reducible rfl
               simp only [Act.put, List.setIfInBounds_toArray, List.set_cons_zero, List.set_cons_succ])
            | (refine SeqS.take2 (v := ?_) (by first | assumption | trivial) (by kernel_rfl) (by decide +kernel) (by decide +kernel) (Or.inl ⟨by rfl, ?_⟩) ?_
               rotate_left
               focus
                 intro w' hb'
                 have d0 : w'.cell? ⟨H, 1, none⟩ = some (.slice T L d) := (hb'.cell l1.out).trans e1.out
                 go_simp
                 with_reducible rfl
               simp only [Act.put, List.setIfInBounds_toArray, List.set_cons_zero, List.set_cons_succ])
            | (refine SeqS.take2 (v := undef) (by first | assumption | trivial) (by kernel_rfl) (by decide +kernel) (by decide +kernel) (Or.inr ⟨by rfl, rfl⟩) ?_
               simp only [Act.put, List.setIfInBounds_toArray, List.set_cons_zero, List.set_cons_succ])
            | (refine SeqS.take3 (v := .agg (Z).toArray) (by first | assumption | trivial) (by kernel_rfl) (by decide +kernel) (by decide +kernel) (yields_part (by rfl) 36 (.tmp 53) rfl rfl (fun w' h => ZR.out w' h) (HZ)) ?_
               simp only [Act.put, List.setIfInBounds_toArray, List.set_cons_zero, List.set_cons_succ])
            | (refine SeqS.take3 (v := ?_) (by first | assumption | trivial) (by kernel_rfl) (by decide +kernel) (by decide +kernel) (Or.inl ⟨by rfl, ?_⟩) ?_
               rotate_left
               focus
                 intro w' hb'
                 go_simp
                 with_reducible rfl
               simp only [Act.put, List.setIfInBounds_toArray, List.set_cons_zero, List.set_cons_succ])
            | (refine SeqS.take3 (v := ?_) (by first | assumption | trivial) (by kernel_rfl) (by decide +kernel) (by decide +kernel) (Or.inl ⟨by rfl, ?_⟩) ?_
               rotate_left
               focus
                 intro w' hb'
                 have d0 : w'.cell? ⟨H, 1, none⟩ = some (.slice T L d) := (hb'.cell l1.out).trans e1.out
                 go_simp
                 with_reducible rfl
               simp only [Act.put, List.setIfInBounds_toArray, List.set_cons_zero, List.set_cons_succ])
            | (refine SeqS.take3 (v := undef) (by first | assumption | trivial) (by kernel_rfl) (by decide +kernel) (by decide +kernel) (Or.inr ⟨by rfl, rfl⟩) ?_
               simp only [Act.put, List.setIfInBounds_toArray, List.set_cons_zero, List.set_cons_succ])
            | (refine SeqS.take4 (v := .agg (Z).toArray) (by first | assumption | trivial) (by kernel_rfl) (by decide +kernel) (by decide +kernel) (yields_part (by rfl) 36 (.tmp 53) rfl rfl (fun w' h => ZR.out w' h) (HZ)) ?_
               simp only [Act.put, List.setIfInBounds_toArray, List.set_cons_zero, List.set_cons_succ])
            | (refine SeqS.take4 (v := ?_) (by first | assumption | trivial) (by kernel_rfl) (by decide +kernel) (by decide +kernel) (Or.inl ⟨by rfl, ?_⟩) ?_
               rotate_left
               focus
                 intro w' hb'
                 go_simp
                 with_reducible rfl
               simp only [Act.put, List.setIfInBounds_toArray, List.set_cons_zero, List.set_cons_succ])
            | (refine SeqS.take4 (v := ?_) (by first | assumption | trivial) (by kernel_rfl) (by decide +kernel) (by decide +kernel) (Or.inl ⟨by rfl, ?_⟩) ?_
               rotate_left
               focus
                 intro w' hb'
                 have d0 : w'.cell? ⟨H, 1, none⟩ = some (.slice T L d) := (hb'.cell l1.out).trans e1.out
                 go_simp
                 with_reducible rfl
               simp only [Act.put, List.setIfInBounds_toArray, List.set_cons_zero, List.set_cons_succ])
            | (refine SeqS.take4 (v := undef) (by first | assumption | trivial) (by kernel_rfl) (by decide +kernel) (by decide +kernel) (Or.inr ⟨by rfl, rfl⟩) ?_
               simp only [Act.put, List.setIfInBounds_toArray, List.set_cons_zero, List.set_cons_succ])
            | (refine SeqS.take5 (v := .agg (Z).toArray) (by first | assumption | trivial) (by kernel_rfl) (by decide +kernel) (by decide +kernel) (yields_part (by rfl) 36 (.tmp 53) rfl rfl (fun w' h => ZR.out w' h) (HZ)) ?_
               simp only [Act.put, List.setIfInBounds_toArray, List.set_cons_zero, List.set_cons_succ])
            | (refine SeqS.take5 (v := ?_) (by first | assumption | trivial) (by kernel_rfl) (by decide +kernel) (by decide +kernel) (Or.inl ⟨by rfl, ?_⟩) ?_
               rotate_left
               focus
                 intro w' hb'
                 go_simp
                 with_reducible rfl
               simp only [Act.put, List.setIfInBounds_toArray, List.set_cons_zero, List.set_cons_succ])
            | (refine SeqS.take5 (v := ?_) (by first | assumption | trivial) (by kernel_rfl) (by decide +kernel) (by decide +kernel) (Or.inl ⟨by rfl, ?_⟩) ?_
               rotate_left
               focus
                 intro w' hb'
                 have d0 : w'.cell? ⟨H, 1, none⟩ = some (.slice T L d) := (hb'.cell l1.out).trans e1.out
                 go_simp
                 with_reducible rfl
               simp only [Act.put, List.setIfInBounds_toArray, List.set_cons_zero, List.set_cons_succ])
            | (refine SeqS.take5 (v := undef) (by first | assumption | trivial) (by kernel_rfl) (by decide +kernel) (by decide +kernel) (Or.inr ⟨by rfl, rfl⟩) ?_
               simp only [Act.put, List.setIfInBounds_toArray, List.set_cons_zero, List.set_cons_succ])
            | (refine SeqS.take6 (v := .agg (Z).toArray) (by first | assumption | trivial) (by kernel_rfl) (by decide +kernel) (by decide +kernel) (yields_part (by rfl) 36 (.tmp 53) rfl rfl (fun w' h => ZR.out w' h) (HZ)) ?_
               simp only [Act.put, List.setIfInBounds_toArray, List.set_cons_zero, List.set_cons_succ])
            | (refine SeqS.take6 (v := ?_) (by first | assumption | trivial) (by kernel_rfl) (by decide +kernel) (by decide +kernel) (Or.inl ⟨by rfl, ?_⟩) ?_
               rotate_left
               focus
                 intro w' hb'
                 go_simp
                 with_reducible rfl
               simp only [Act.put, List.setIfInBounds_toArray, List.set_cons_zero, List.set_cons_succ])
            | (refine SeqS.take6 (v := ?_) (by first | assumption | trivial) (by kernel_rfl) (by decide +kernel) (by decide +kernel) (Or.inl ⟨by rfl, ?_⟩) ?_
               rotate_left
               focus
                 intro w' hb'
                 have d0 : w'.cell? ⟨H, 1, none⟩ = some (.slice T L d) := (hb'.cell l1.out).trans e1.out
                 go_simp
                 with_reducible rfl
               simp only [Act.put, List.setIfInBounds_toArray, List.set_cons_zero, List.set_cons_succ])
            | (refine SeqS.take6 (v := undef) (by first | assumption | trivial) (by kernel_rfl) (by decide +kernel) (by decide +kernel) (Or.inr ⟨by rfl, rfl⟩) ?_
               simp only [Act.put, List.setIfInBounds_toArray, List.set_cons_zero, List.set_cons_succ]))
          refine SeqS.alone (by decide +kernel) (by rfl) (fun K hK => ?_)
          go_simp
          go_at_call 17
          refine (rc.out _ (bW.out _ b1)).mono ?_
          rintro e w3 ⟨rfl, b3⟩
          go_simp
          have S3 : Below V.heap.size V w3 := b1.trans (b3.mono b1.size)
          refine hK _ _ S3 ?_
          clear hK K
          repeat (first
            | (refine SeqS.take (v := .agg (Z).toArray) (by first | assumption | trivial) (by kernel_rfl) (by decide +kernel) (by decide +kernel) (yields_part (by rfl) 36 (.tmp 65) rfl rfl (fun w' h => ZR.out w' h) (HZ)) ?_
               simp only [Act.put, List.setIfInBounds_toArray, List.set_cons_zero, List.set_cons_succ])
            | (refine SeqS.take (v := ?_) (by first | assumption | trivial) (by kernel_rfl) (by decide +kernel) (by decide +kernel) (Or.inl ⟨by rfl, ?_⟩) ?_
               rotate_left
               focus
                 intro w' hb'
                 go_simp
                 with_reducible rfl
               simp only [Act.put, List.setIfInBounds_toArray, List.set_cons_zero, List.set_cons_succ])
            | (refine SeqS.take (v := ?_) (by first | assumption | trivial) (by kernel_rfl) (by decide +kernel) (by decide +kernel) (Or.inl ⟨by rfl, ?_⟩) ?_
               rotate_left
               focus
                 intro w' hb'
                 have d0 := hq w'
                 go_simp
                 with_reducible rfl
               simp only [Act.put, List.setIfInBounds_toArray, List.set_cons_zero, List.set_cons_succ])
            | (refine SeqS.take (v := ?_) (by first | assumption | trivial) (by kernel_rfl) (by decide +kernel) (by decide +kernel) (Or.inl ⟨by rfl, ?_⟩) ?_
               rotate_left
               focus
                 intro w' hb'
                 have d0 : w'.cell? ⟨H, 1, none⟩ = some (.slice T L d) := (hb'.cell l1.out).trans e1.out
                 go_simp
                 with_reducible rfl
               simp only [Act.put, List.setIfInBounds_toArray, List.set_cons_zero, List.set_cons_succ])
            | (refine SeqS.take (v := undef) (by first | assumption | trivial) (by kernel_rfl) (by decide +kernel) (by decide +kernel) (Or.inr ⟨by rfl, rfl⟩) ?_
               simp only [Act.put, List.setIfInBounds_toArray, List.set_cons_zero, List.set_cons_succ])
            | (refine SeqS.take1 (v := .agg (Z).toArray) (by first | assumption | trivial) (by kernel_rfl) (by decide +kernel) (by decide +kernel) (yields_part (by rfl) 36 (.tmp 65) rfl rfl (fun w' h => ZR.out w' h) (HZ)) ?_
               simp only [Act.put, List.setIfInBounds_toArray, List.set_cons_zero, List.set_cons_succ])
            | (refine SeqS.take1 (v := ?_) (by first | assumption | trivial) (by kernel_rfl) (by decide +kernel) (by decide +kernel) (Or.inl ⟨by rfl, ?_⟩) ?_
               rotate_left
               focus
                 intro w' hb'
                 go_simp
                 with_reducible rfl
               simp only [Act.put, List.setIfInBounds_toArray, List.set_cons_zero, List.set_cons_succ])
            | (refine SeqS.take1 (v := ?_) (by first | assumption | trivial) (by kernel_rfl) (by decide +kernel) (by decide +kernel) (Or.inl ⟨by rfl, ?_⟩) ?_
               rotate_left
               focus
                 intro w' hb'
                 have d0 := hq w'
                 go_simp
                 with_reducible rfl
               simp only [Act.put, List.setIfInBounds_toArray, List.set_cons_zero, List.set_cons_succ])
            | (refine SeqS.take1 (v := ?_) (by first | assumption | trivial) (by kernel_rfl) (by decide +kernel) (by decide +kernel) (Or.inl ⟨by rfl, ?_⟩) ?_
               rotate_left
               focus
                 intro w' hb'
                 have d0 : w'.cell? ⟨H, 1, none⟩ = some (.slice T L d) := (hb'.cell l1.out).trans e1.out
                 go_simp
                 with_reducible rfl
               simp only [Act.put, List.setIfInBounds_toArray, List.set_cons_zero, List.set_cons_succ])
            | (refine SeqS.take1 (v := undef) (by first | assumption | trivial) (by kernel_rfl) (by decide +kernel) (by decide +kernel) (Or.inr ⟨by rfl, rfl⟩) ?_
               simp only [Act.put, List.setIfInBounds_toArray, List.set_cons_zero, List.set_cons_succ])
            | (refine SeqS.take2 (v := .agg (Z).toArray) (by first | assumption | trivial) (by kernel_rfl) (by decide +kernel) (by decide +kernel) (yields_part (by rfl) 36 (.tmp 65) rfl rfl (fun w' h => ZR.out w' h) (HZ)) ?_
               simp only [Act.put, List.setIfInBounds_toArray, List.set_cons_zero, List.set_cons_succ])
            | (refine SeqS.take2 (v := ?_) (by first | assumption | trivial) (by kernel_rfl) (by decide +kernel) (by decide +kernel) (Or.inl ⟨by rfl, ?_⟩) ?_
               rotate_left
               focus
                 intro w' hb'
                 go_simp
                 with_reducible rfl
               simp only [Act.put, List.setIfInBounds_toArray, List.set_cons_zero, List.set_cons_succ])
            | (refine SeqS.take2 (v := ?_) (by first | assumption | trivial) (by kernel_rfl) (by decide +kernel) (by decide +kernel) (Or.inl ⟨by rfl, ?_⟩) ?_
               rotate_left
               focus
                 intro w' hb'
                 have d0 := hq w'
                 go_simp
                 with_reducible rfl
               simp only [Act.put, List.setIfInBounds_toArray, List.set_cons_zero, List.set_cons_succ])
            | (refine SeqS.take2 (v := ?_) (by first | assumption | trivial) (by kernel_rfl) (by decide +kernel) (by decide +kernel) (Or.inl ⟨by rfl, ?_⟩) ?_
               rotate_left
               focus
                 intro w' hb'
                 have d0 : w'.cell? ⟨H, 1, none⟩ = some (.slice T L d) := (hb'.cell l1.out).trans e1.out
                 go_simp
                 with_reducible rfl
               simp only [Act.put, List.setIfInBounds_toArray, List.set_cons_zero, List.set_cons_succ])
            | (refine SeqS.take2 (v := undef) (by first | assumption | trivial) (by kernel_rfl) (by decide +kernel) (by decide +kernel) (Or.inr ⟨by rfl, rfl⟩) ?_
               simp only [Act.put, List.setIfInBounds_toArray, List.set_cons_zero, List.set_cons_succ])
            | (refine SeqS.take3 (v := .agg (Z).toArray) (by first | assumption | trivial) (by kernel_rfl) (by decide +kernel) (by decide +kernel) (yields_part (by rfl) 36 (.tmp 65) rfl rfl (fun w' h => ZR.out w' h) (HZ)) ?_
               simp only [Act.put, List.setIfInBounds_toArray, List.set_cons_zero, List.set_cons_succ])
            | (refine SeqS.take3 (v := ?_) (by first | assumption | trivial) (by kernel_rfl) (by decide +kernel) (by decide +kernel) (Or.inl ⟨by rfl, ?_⟩) ?_
               rotate_left
               focus
                 intro w' hb'
                 go_simp
                 with_reducible rfl
               simp only [Act.put, List.setIfInBounds_toArray, List.set_cons_zero, List.set_cons_succ])
            | (refine SeqS.take3 (v := ?_) (by first | assumption | trivial) (by kernel_rfl) (by decide +kernel) (by decide +kernel) (Or.inl ⟨by rfl, ?_⟩) ?_
               rotate_left
               focus
                 intro w' hb'
                 have d0 := hq w'
                 go_simp
                 with_reducible rfl
               simp only [Act.put, List.setIfInBounds_toArray, List.set_cons_zero, List.set_cons_succ])
            | (refine SeqS.take3 (v := ?_) (by first | assumption | trivial) (by kernel_rfl) (by decide +kernel) (by decide +kernel) (Or.inl ⟨by rfl, ?_⟩) ?_
               rotate_left
               focus
                 intro w' hb'
                 have d0 : w'.cell? ⟨H, 1, none⟩ = some (.slice T L d) := (hb'.cell l1.out).trans e1.out
                 go_simp
                 with_reducible rfl
               simp only [Act.put, List.setIfInBounds_toArray, List.set_cons_zero, List.set_cons_succ])
            | (refine SeqS.take3 (v := undef) (by first | assumption | trivial) (by kernel_rfl) (by decide +kernel) (by decide +kernel) (Or.inr ⟨by rfl, rfl⟩) ?_
               simp only [Act.put, List.setIfInBounds_toArray, List.set_cons_zero, List.set_cons_succ])
            | (refine SeqS.take4 (v := .agg (Z).toArray) (by first | assumption | trivial) (by kernel_rfl) (by decide +kernel) (by decide +kernel) (yields_part (by rfl) 36 (.tmp 65) rfl rfl (fun w' h => ZR.out w' h) (HZ)) ?_
               simp only [Act.put, List.setIfInBounds_toArray, List.set_cons_zero, List.set_cons_succ])
            | (refine SeqS.take4 (v := ?_) (by first | assumption | trivial) (by kernel_rfl) (by decide +kernel) (by decide +kernel) (Or.inl ⟨by rfl, ?_⟩) ?_
               rotate_left
               focus
                 intro w' hb'
                 go_simp
                 with_reducible rfl
               simp only [Act.put, List.setIfInBounds_toArray, List.set_cons_zero, List.set_cons_succ])
            | (refine SeqS.take4 (v := ?_) (by first | assumption | trivial) (by kernel_rfl) (by decide +kernel) (by decide +kernel) (Or.inl ⟨by rfl, ?_⟩) ?_
               rotate_left
               focus
                 intro w' hb'
                 have d0 := hq w'
                 go_simp
                 with_reducible rfl
               simp only [Act.put, List.setIfInBounds_toArray, List.set_cons_zero, List.set_cons_succ])
            | (refine SeqS.take4 (v := ?_) (by first | assumption | trivial) (by kernel_rfl) (by decide +kernel) (by decide +kernel) (Or.inl ⟨by rfl, ?_⟩) ?_
               rotate_left
               focus
                 intro w' hb'
                 have d0 : w'.cell? ⟨H, 1, none⟩ = some (.slice T L d) := (hb'.cell l1.out).trans e1.out
                 go_simp
                 with_reducible rfl
               simp only [Act.put, List.setIfInBounds_toArray, List.set_cons_zero, List.set_cons_succ])
            | (refine SeqS.take4 (v := undef) (by first | assumption | trivial) (by kernel_rfl) (by decide +kernel) (by decide +kernel) (Or.inr ⟨by rfl, rfl⟩) ?_
               simp only [Act.put, List.setIfInBounds_toArray, List.set_cons_zero, List.set_cons_succ]))
          refine SeqS.alone (by decide +kernel) (by rfl) (fun K hK => ?_)
          go_simp
          go_at_call 18
          refine (pc.out _ (bW.out _ S3)).mono ?_
          rintro e w4 ⟨rfl, b4⟩
          go_simp
          have S4 : Below V.heap.size V w4 := S3.trans (b4.mono S3.size)
          refine hK _ _ S4 ?_
          clear hK K
          repeat (first
            | (refine SeqS.take (v := ?_) (by first | assumption | trivial) (by kernel_rfl) (by decide +kernel) (by decide +kernel) (Or.inl ⟨by rfl, ?_⟩) ?_
               rotate_left
               focus
                 intro w' hb'
                 go_simp
                 with_reducible rfl
               simp only [Act.put, List.setIfInBounds_toArray, List.set_cons_zero, List.set_cons_succ])
            | (refine SeqS.take (v := ?_) (by first | assumption | trivial) (by kernel_rfl) (by decide +kernel) (by decide +kernel) (Or.inl ⟨by rfl, ?_⟩) ?_
               rotate_left
               focus
                 intro w' hb'
                 have d0 := hq w'
                 go_simp
                 with_reducible rfl
               simp only [Act.put, List.setIfInBounds_toArray, List.set_cons_zero, List.set_cons_succ])
            | (refine SeqS.take (v := undef) (by first | assumption | trivial) (by kernel_rfl) (by decide +kernel) (by decide +kernel) (Or.inr ⟨by rfl, rfl⟩) ?_
               simp only [Act.put, List.setIfInBounds_toArray, List.set_cons_zero, List.set_cons_succ])
            | (refine SeqS.take1 (v := ?_) (by first | assumption | trivial) (by kernel_rfl) (by decide +kernel) (by decide +kernel) (Or.inl ⟨by rfl, ?_⟩) ?_
               rotate_left
               focus
                 intro w' hb'
                 go_simp
                 with_reducible rfl
               simp only [Act.put, List.setIfInBounds_toArray, List.set_cons_zero, List.set_cons_succ])
            | (refine SeqS.take1 (v := ?_) (by first | assumption | trivial) (by kernel_rfl) (by decide +kernel) (by decide +kernel) (Or.inl ⟨by rfl, ?_⟩) ?_
               rotate_left
               focus
                 intro w' hb'
                 have d0 := hq w'
                 go_simp
                 with_reducible rfl
               simp only [Act.put, List.setIfInBounds_toArray, List.set_cons_zero, List.set_cons_succ])
            | (refine SeqS.take1 (v := undef) (by first | assumption | trivial) (by kernel_rfl) (by decide +kernel) (by decide +kernel) (Or.inr ⟨by rfl, rfl⟩) ?_
               simp only [Act.put, List.setIfInBounds_toArray, List.set_cons_zero, List.set_cons_succ])
            | (refine SeqS.take2 (v := ?_) (by first | assumption | trivial) (by kernel_rfl) (by decide +kernel) (by decide +kernel) (Or.inl ⟨by rfl, ?_⟩) ?_
               rotate_left
               focus
                 intro w' hb'
                 go_simp
                 with_reducible rfl
               simp only [Act.put, List.setIfInBounds_toArray, List.set_cons_zero, List.set_cons_succ])
            | (refine SeqS.take2 (v := ?_) (by first | assumption | trivial) (by kernel_rfl) (by decide +kernel) (by decide +kernel) (Or.inl ⟨by rfl, ?_⟩) ?_
               rotate_left
               focus
                 intro w' hb'
                 have d0 := hq w'
                 go_simp
                 with_reducible rfl
               simp only [Act.put, List.setIfInBounds_toArray, List.set_cons_zero, List.set_cons_succ])
            | (refine SeqS.take2 (v := undef) (by first | assumption | trivial) (by kernel_rfl) (by decide +kernel) (by decide +kernel) (Or.inr ⟨by rfl, rfl⟩) ?_
               simp only [Act.put, List.setIfInBounds_toArray, List.set_cons_zero, List.set_cons_succ])
            | (refine SeqS.take3 (v := ?_) (by first | assumption | trivial) (by kernel_rfl) (by decide +kernel) (by decide +kernel) (Or.inl ⟨by rfl, ?_⟩) ?_
               rotate_left
               focus
                 intro w' hb'
                 go_simp
                 with_reducible rfl
               simp only [Act.put, List.setIfInBounds_toArray, List.set_cons_zero, List.set_cons_succ])
            | (refine SeqS.take3 (v := ?_) (by first | assumption | trivial) (by kernel_rfl) (by decide +kernel) (by decide +kernel) (Or.inl ⟨by rfl, ?_⟩) ?_
               rotate_left
               focus
                 intro w' hb'
                 have d0 := hq w'
                 go_simp
                 with_reducible rfl
               simp only [Act.put, List.setIfInBounds_toArray, List.set_cons_zero, List.set_cons_succ])
            | (refine SeqS.take3 (v := undef) (by first | assumption | trivial) (by kernel_rfl) (by decide +kernel) (by decide +kernel) (Or.inr ⟨by rfl, rfl⟩) ?_
               simp only [Act.put, List.setIfInBounds_toArray, List.set_cons_zero, List.set_cons_succ])
            | (refine SeqS.take4 (v := ?_) (by first | assumption | trivial) (by kernel_rfl) (by decide +kernel) (by decide +kernel) (Or.inl ⟨by rfl, ?_⟩) ?_
               rotate_left
               focus
                 intro w' hb'
                 go_simp
                 with_reducible rfl
               simp only [Act.put, List.setIfInBounds_toArray, List.set_cons_zero, List.set_cons_succ])
            | (refine SeqS.take4 (v := ?_) (by first | assumption | trivial) (by kernel_rfl) (by decide +kernel) (by decide +kernel) (Or.inl ⟨by rfl, ?_⟩) ?_
               rotate_left
               focus
                 intro w' hb'
                 have d0 := hq w'
                 go_simp
                 with_reducible rfl
               simp only [Act.put, List.setIfInBounds_toArray, List.set_cons_zero, List.set_cons_succ])
            | (refine SeqS.take4 (v := undef) (by first | assumption | trivial) (by kernel_rfl) (by decide +kernel) (by decide +kernel) (Or.inr ⟨by rfl, rfl⟩) ?_
               simp only [Act.put, List.setIfInBounds_toArray, List.set_cons_zero, List.set_cons_succ]))
          refine SeqS.done (by decide +kernel) ?_
          have b14 := bW.out _ S4
          obtain ⟨hk, hi, hL, hB⟩ := hold.out
          have hkN := hk.keep b14 hk.lt
          have hiN := hi.keep b14 hi.lt
          have hLN := hL.keep b14
          have hBN := hB.trans (b14.mono hB.size)
          have hfin := Lib.hid (And.intro hkN (And.intro hiN (And.intro hLN hBN)))
          clear hk hi hL hB hkN hiN hLN hBN b14 S3 S4 b3 b4 b1 bW ZR rc pc hold hq e1 l1 bV
          go_wp2
          exact ⟨⟨j + 1, by have := hltH.out; omega, by congr 1, hfin.out⟩, by simp only [intOf]; have := hltH.out; omega⟩
        · obtain rfl : n = j := by omega
          have hji : ¬ (n : Int) < (n : Int) := by omega
          have k2 := hk.cell 0
          have pf := Lib.hid (fun w' (h : Below w.heap.size w w') => ppFind_any a n c ts y w' (gl.out w' h) (TK.out w' h) hrH.out hsmH.out hyH.out.1)
          have rf := Lib.hid (fun w' (h : Below w.heap.size w w') => r13Find_any a n c ts y w' (TK.out w' h) hrH.out hsmH.out hyH.out.1)
          have hfc := find_cases ts y
          obtain ⟨R, hR⟩ : ∃ R, findL ts y = R := ⟨_, rfl⟩
          rw [hR, hyH.out.2] at pf rf
          rw [hR] at hfc
          clear hlt hj hR
          go_wp2_with ((with_reducible refine wpList_load_blk rfl 36 (.tmp 4) rfl ?_ hi rowId hYY.out ?_); rfl)
          refine (pf.out wr hB).mono ?_
          rintro q w10 ⟨rfl, b10⟩
          have hi10 := hi.keep b10 hi.lt
          have k10 := (hk.keep b10 hk.lt).cell 0
          have hB10 := hB.trans (b10.mono hB.size)
          have hL10 := hL.keep b10
          clear hi hk hB hL k2 pf b10
          go_wp2_with ((with_reducible refine wpList_load_blk rfl 36 (.tmp 4) rfl ?_ hi10 rowId hYY.out ?_); rfl)
          refine (rf.out w10 hB10).mono ?_
          rintro q w11 ⟨rfl, b11⟩
          have hi11 := hi10.keep b11 hi10.lt
          have hB11 := hB10.trans (b11.mono hB10.size)
          have hL11 := hL10.keep b11
          clear hi10 k10 hB10 hL10 rf b11
          have b12 : Below w11.heap.size w11 w11.drew := (Below.refl _ _).drew
          have AL := Lib.hid (fun w' (h : Below w11.heap.size w11 w') => alH.out w' (hB11.trans (h.mono hB11.size)))
          have BH := Lib.hid hB11
          have hng := noGuard13
          rcases hfc with rfl | ⟨m, t, rfl, ht, hty⟩
          · dsimp only
            clear hi11 hL11 hB11
            go_wp2_with fail
            refine region_seqS (fun w' => Below w11.heap.size w11 w') (by kernel_rfl) b12 ?_
            simp only [pairs, Nat.reduceAdd]
            repeat (first
              | (refine SeqS.take (v := ?_) (by first | assumption | trivial) (by kernel_rfl) (by decide +kernel) (by decide +kernel) (Or.inl ⟨by rfl, ?_⟩) ?_
                 rotate_left
                 focus
                   intro w' hb'
                   go_simp
                   with_reducible rfl
                 simp only [Act.put, List.setIfInBounds_toArray, List.set_cons_zero, List.set_cons_succ])
              | (refine SeqS.take (v := undef) (by first | assumption | trivial) (by kernel_rfl) (by decide +kernel) (by decide +kernel) (Or.inr ⟨by rfl, rfl⟩) ?_
                 simp only [Act.put, List.setIfInBounds_toArray, List.set_cons_zero, List.set_cons_succ])
              | (refine SeqS.take1 (v := ?_) (by first | assumption | trivial) (by kernel_rfl) (by decide +kernel) (by decide +kernel) (Or.inl ⟨by rfl, ?_⟩) ?_
                 rotate_left
                 focus
                   intro w' hb'
                   go_simp
                   with_reducible rfl
                 simp only [Act.put, List.setIfInBounds_toArray, List.set_cons_zero, List.set_cons_succ])
              | (refine SeqS.take1 (v := undef) (by first | assumption | trivial) (by kernel_rfl) (by decide +kernel) (by decide +kernel) (Or.inr ⟨by rfl, rfl⟩) ?_
                 simp only [Act.put, List.setIfInBounds_toArray, List.set_cons_zero, List.set_cons_succ])
              | (refine SeqS.take2 (v := ?_) (by first | assumption | trivial) (by kernel_rfl) (by decide +kernel) (by decide +kernel) (Or.inl ⟨by rfl, ?_⟩) ?_
                 rotate_left
                 focus
                   intro w' hb'
                   go_simp
                   with_reducible rfl
                 simp only [Act.put, List.setIfInBounds_toArray, List.set_cons_zero, List.set_cons_succ])
              | (refine SeqS.take2 (v := undef) (by first | assumption | trivial) (by kernel_rfl) (by decide +kernel) (by decide +kernel) (Or.inr ⟨by rfl, rfl⟩) ?_
                 simp only [Act.put, List.setIfInBounds_toArray, List.set_cons_zero, List.set_cons_succ])
              | (refine SeqS.take3 (v := ?_) (by first | assumption | trivial) (by kernel_rfl) (by decide +kernel) (by decide +kernel) (Or.inl ⟨by rfl, ?_⟩) ?_
                 rotate_left
                 focus
                   intro w' hb'
                   go_simp
                   with_reducible rfl
                 simp only [Act.put, List.setIfInBounds_toArray, List.set_cons_zero, List.set_cons_succ])
              | (refine SeqS.take3 (v := undef) (by first | assumption | trivial) (by kernel_rfl) (by decide +kernel) (by decide +kernel) (Or.inr ⟨by rfl, rfl⟩) ?_
                 simp only [Act.put, List.setIfInBounds_toArray, List.set_cons_zero, List.set_cons_succ])
              | (refine SeqS.take4 (v := ?_) (by first | assumption | trivial) (by kernel_rfl) (by decide +kernel) (by decide +kernel) (Or.inl ⟨by rfl, ?_⟩) ?_
                 rotate_left
                 focus
                   intro w' hb'
                   go_simp
                   with_reducible rfl
                 simp only [Act.put, List.setIfInBounds_toArray, List.set_cons_zero, List.set_cons_succ])
              | (refine SeqS.take4 (v := undef) (by first | assumption | trivial) (by kernel_rfl) (by decide +kernel) (by decide +kernel) (Or.inr ⟨by rfl, rfl⟩) ?_
                 simp only [Act.put, List.setIfInBounds_toArray, List.set_cons_zero, List.set_cons_succ])
              | (refine SeqS.take5 (v := ?_) (by first | assumption | trivial) (by kernel_rfl) (by decide +kernel) (by decide +kernel) (Or.inl ⟨by rfl, ?_⟩) ?_
                 rotate_left
                 focus
                   intro w' hb'
                   go_simp
                   with_reducible rfl
                 simp only [Act.put, List.setIfInBounds_toArray, List.set_cons_zero, List.set_cons_succ])
              | (refine SeqS.take5 (v := undef) (by first | assumption | trivial) (by kernel_rfl) (by decide +kernel) (by decide +kernel) (Or.inr ⟨by rfl, rfl⟩) ?_
                 simp only [Act.put, List.setIfInBounds_toArray, List.set_cons_zero, List.set_cons_succ])
              | (refine SeqS.take6 (v := ?_) (by first | assumption | trivial) (by kernel_rfl) (by decide +kernel) (by decide +kernel) (Or.inl ⟨by rfl, ?_⟩) ?_
                 rotate_left
                 focus
                   intro w' hb'
                   go_simp
                   with_reducible rfl
                 simp only [Act.put, List.setIfInBounds_toArray, List.set_cons_zero, List.set_cons_succ])
              | (refine SeqS.take6 (v := undef) (by first | assumption | trivial) (by kernel_rfl) (by decide +kernel) (by decide +kernel) (Or.inr ⟨by rfl, rfl⟩) ?_
                 simp only [Act.put, List.setIfInBounds_toArray, List.set_cons_zero, List.set_cons_succ]))
            refine SeqS.alone (by decide +kernel) (by rfl) (fun K hK => ?_)
            go_simp
            go_at_call 8
            refine (AL.out _ b12).mono ?_
            rintro e w13 ⟨rfl, b13⟩
            go_simp
            have S13 : Below w11.heap.size w11 w13 := b12.trans (b13.mono b12.size)
            refine hK _ _ S13 ?_
            clear hK K
            repeat (first
              | (refine SeqS.take (v := ?_) (by first | assumption | trivial) (by kernel_rfl) (by decide +kernel) (by decide +kernel) (Or.inl ⟨by rfl, ?_⟩) ?_
                 rotate_left
                 focus
                   intro w' hb'
                   go_simp
                   with_reducible rfl
                 simp only [Act.put, List.setIfInBounds_toArray, List.set_cons_zero, List.set_cons_succ])
              | (refine SeqS.take (v := undef) (by first | assumption | trivial) (by kernel_rfl) (by decide +kernel) (by decide +kernel) (Or.inr ⟨by rfl, rfl⟩) ?_
                 simp only [Act.put, List.setIfInBounds_toArray, List.set_cons_zero, List.set_cons_succ])
              | (refine SeqS.take1 (v := ?_) (by first | assumption | trivial) (by kernel_rfl) (by decide +kernel) (by decide +kernel) (Or.inl ⟨by rfl, ?_⟩) ?_
                 rotate_left
                 focus
                   intro w' hb'
                   go_simp
                   with_reducible rfl
                 simp only [Act.put, List.setIfInBounds_toArray, List.set_cons_zero, List.set_cons_succ])
              | (refine SeqS.take1 (v := undef) (by first | assumption | trivial) (by kernel_rfl) (by decide +kernel) (by decide +kernel) (Or.inr ⟨by rfl, rfl⟩) ?_
                 simp only [Act.put, List.setIfInBounds_toArray, List.set_cons_zero, List.set_cons_succ])
              | (refine SeqS.take2 (v := ?_) (by first | assumption | trivial) (by kernel_rfl) (by decide +kernel) (by decide +kernel) (Or.inl ⟨by rfl, ?_⟩) ?_
                 rotate_left
                 focus
                   intro w' hb'
                   go_simp
                   with_reducible rfl
                 simp only [Act.put, List.setIfInBounds_toArray, List.set_cons_zero, List.set_cons_succ])
              | (refine SeqS.take2 (v := undef) (by first | assumption | trivial) (by kernel_rfl) (by decide +kernel) (by decide +kernel) (Or.inr ⟨by rfl, rfl⟩) ?_
                 simp only [Act.put, List.setIfInBounds_toArray, List.set_cons_zero, List.set_cons_succ]))
            refine SeqS.done (by decide +kernel) ?_
            have B13 := BH.out.trans (S13.mono BH.out.size)
            clear S13 b12 b13 AL BH
            go_wp2
            go_ret
            exact ⟨rfl, B13⟩
          · dsimp only
            have hmn : m < n := by have := (List.getElem?_eq_some_iff.1 ht).1; have := hnH.out.1; omega
            have hmi : (m : Int) < (n : Int) := by omega
            obtain ⟨lg, lo, rfl, _⟩ : ∃ lg lo, lb = some ⟨lg, lo, none⟩ ∧ True := by
              rcases hL11.2.2 with h0 | ⟨lg, lo, h, _⟩
              · omega
              · exact ⟨lg, lo, h, trivial⟩
            have hlr := ids_range hL11 hnH.out.1 ht
            rw [hty, hyH.out.2] at hlr
            have hq := idEq13 y y hyH.out.1 hyH.out.1
            rw [decide_eq_true rfl, hyH.out.2] at hq
            have YR := Lib.hid (fun w' (h : Below w11.heap.size w11 w') => (fun q u hq => by
              have h1 := hlr q u hq
              rw [h.cell (World.block_lt_of_cell? w11 _ h1)]
              exact h1 : w'.rangeAt lg (lo + m * 32) Y))
            have IB := Lib.hid (fun w' (h : Below w11.heap.size w11 w') => hi11.keep h hi11.lt)
            clear hi11 hL11 hB11 hlr hmn ht hty
            go_wp2_with fail
            refine region_seqS (fun w' => Below w11.heap.size w11 w') (by kernel_rfl) b12 ?_
            simp only [pairs, Nat.reduceAdd]
            repeat (first
              | (refine SeqS.take (v := .agg (Y).toArray) (by first | assumption | trivial) (by kernel_rfl) (by decide +kernel) (by decide +kernel) (yields_blk (by rfl) 36 (.tmp 4) rfl rfl (fun w' h => IB.out w' h) (HI)) ?_
                 simp only [Act.put, List.setIfInBounds_toArray, List.set_cons_zero, List.set_cons_succ])
              | (refine SeqS.take (v := .agg (Y).toArray) (by first | assumption | trivial) (by kernel_rfl) (by decide +kernel) (by decide +kernel) (yields_part (by rfl) 36 (.tmp 96) rfl rfl (fun w' h => YR.out w' h) (HI)) ?_
                 simp only [Act.put, List.setIfInBounds_toArray, List.set_cons_zero, List.set_cons_succ])
              | (refine SeqS.take (v := ?_) (by first | assumption | trivial) (by kernel_rfl) (by decide +kernel) (by decide +kernel) (Or.inl ⟨by rfl, ?_⟩) ?_
                 rotate_left
                 focus
                   intro w' hb'
                   go_simp
                   with_reducible rfl
                 simp only [Act.put, List.setIfInBounds_toArray, List.set_cons_zero, List.set_cons_succ])
              | (refine SeqS.take (v := ?_) (by first | assumption | trivial) (by kernel_rfl) (by decide +kernel) (by decide +kernel) (Or.inl ⟨by rfl, ?_⟩) ?_
                 rotate_left
                 focus
                   intro w' hb'
                   have d0 := hq w'
                   go_simp
                   with_reducible rfl
                 simp only [Act.put, List.setIfInBounds_toArray, List.set_cons_zero, List.set_cons_succ])
              | (refine SeqS.take (v := undef) (by first | assumption | trivial) (by kernel_rfl) (by decide +kernel) (by decide +kernel) (Or.inr ⟨by rfl, rfl⟩) ?_
                 simp only [Act.put, List.setIfInBounds_toArray, List.set_cons_zero, List.set_cons_succ])
              | (refine SeqS.take1 (v := .agg (Y).toArray) (by first | assumption | trivial) (by kernel_rfl) (by decide +kernel) (by decide +kernel) (yields_blk (by rfl) 36 (.tmp 4) rfl rfl (fun w' h => IB.out w' h) (HI)) ?_
                 simp only [Act.put, List.setIfInBounds_toArray, List.set_cons_zero, List.set_cons_succ])
              | (refine SeqS.take1 (v := .agg (Y).toArray) (by first | assumption | trivial) (by kernel_rfl) (by decide +kernel) (by decide +kernel) (yields_part (by rfl) 36 (.tmp 96) rfl rfl (fun w' h => YR.out w' h) (HI)) ?_
                 simp only [Act.put, List.setIfInBounds_toArray, List.set_cons_zero, List.set_cons_succ])
              | (refine SeqS.take1 (v := ?_) (by first | assumption | trivial) (by kernel_rfl) (by decide +kernel) (by decide +kernel) (Or.inl ⟨by rfl, ?_⟩) ?_
                 rotate_left
                 focus
                   intro w' hb'
                   go_simp
                   with_reducible rfl
                 simp only [Act.put, List.setIfInBounds_toArray, List.set_cons_zero, List.set_cons_succ])
              | (refine SeqS.take1 (v := ?_) (by first | assumption | trivial) (by kernel_rfl) (by decide +kernel) (by decide +kernel) (Or.inl ⟨by rfl, ?_⟩) ?_
                 rotate_left
                 focus
                   intro w' hb'
                   have d0 := hq w'
                   go_simp
                   with_reducible rfl
                 simp only [Act.put, List.setIfInBounds_toArray, List.set_cons_zero, List.set_cons_succ])
              | (refine SeqS.take1 (v := undef) (by first | assumption | trivial) (by kernel_rfl) (by decide +kernel) (by decide +kernel) (Or.inr ⟨by rfl, rfl⟩) ?_
                 simp only [Act.put, List.setIfInBounds_toArray, List.set_cons_zero, List.set_cons_succ])
              | (refine SeqS.take2 (v := .agg (Y).toArray) (by first | assumption | trivial) (by kernel_rfl) (by decide +kernel) (by decide +kernel) (yields_blk (by rfl) 36 (.tmp 4) rfl rfl (fun w' h => IB.out w' h) (HI)) ?_
                 simp only [Act.put, List.setIfInBounds_toArray, List.set_cons_zero, List.set_cons_succ])
              | (refine SeqS.take2 (v := .agg (Y).toArray) (by first | assumption | trivial) (by kernel_rfl) (by decide +kernel) (by decide +kernel) (yields_part (by rfl) 36 (.tmp 96) rfl rfl (fun w' h => YR.out w' h) (HI)) ?_
                 simp only [Act.put, List.setIfInBounds_toArray, List.set_cons_zero, List.set_cons_succ])
              | (refine SeqS.take2 (v := ?_) (by first | assumption | trivial) (by kernel_rfl) (by decide +kernel) (by decide +kernel) (Or.inl ⟨by rfl, ?_⟩) ?_
                 rotate_left
                 focus
                   intro w' hb'
                   go_simp
                   with_reducible rfl
                 simp only [Act.put, List.setIfInBounds_toArray, List.set_cons_zero, List.set_cons_succ])
              | (refine SeqS.take2 (v := ?_) (by first | assumption | trivial) (by kernel_rfl) (by decide +kernel) (by decide +kernel) (Or.inl ⟨by rfl, ?_⟩) ?_
                 rotate_left
                 focus
                   intro w' hb'
                   have d0 := hq w'
                   go_simp
                   with_reducible rfl
                 simp only [Act.put, List.setIfInBounds_toArray, List.set_cons_zero, List.set_cons_succ])
              | (refine SeqS.take2 (v := undef) (by first | assumption | trivial) (by kernel_rfl) (by decide +kernel) (by decide +kernel) (Or.inr ⟨by rfl, rfl⟩) ?_
                 simp only [Act.put, List.setIfInBounds_toArray, List.set_cons_zero, List.set_cons_succ])
              | (refine SeqS.take3 (v := .agg (Y).toArray) (by first | assumption | trivial) (by kernel_rfl) (by decide +kernel) (by decide +kernel) (yields_blk (by rfl) 36 (.tmp 4) rfl rfl (fun w' h => IB.out w' h) (HI)) ?_
                 simp only [Act.put, List.setIfInBounds_toArray, List.set_cons_zero, List.set_cons_succ])
              | (refine SeqS.take3 (v := .agg (Y).toArray) (by first | assumption | trivial) (by kernel_rfl) (by decide +kernel) (by decide +kernel) (yields_part (by rfl) 36 (.tmp 96) rfl rfl (fun w' h => YR.out w' h) (HI)) ?_
                 simp only [Act.put, List.setIfInBounds_toArray, List.set_cons_zero, List.set_cons_succ])
              | (refine SeqS.take3 (v := ?_) (by first | assumption | trivial) (by kernel_rfl) (by decide +kernel) (by decide +kernel) (Or.inl ⟨by rfl, ?_⟩) ?_
                 rotate_left
                 focus
                   intro w' hb'
                   go_simp
                   with_reducible rfl
                 simp only [Act.put, List.setIfInBounds_toArray, List.set_cons_zero, List.set_cons_succ])
              | (refine SeqS.take3 (v := ?_) (by first | assumption | trivial) (by kernel_rfl) (by decide +kernel) (by decide +kernel) (Or.inl ⟨by rfl, ?_⟩) ?_
                 rotate_left
                 focus
                   intro w' hb'
                   have d0 := hq w'
                   go_simp
                   with_reducible rfl
                 simp only [Act.put, List.setIfInBounds_toArray, List.set_cons_zero, List.set_cons_succ])
              | (refine SeqS.take3 (v := undef) (by first | assumption | trivial) (by kernel_rfl) (by decide +kernel) (by decide +kernel) (Or.inr ⟨by rfl, rfl⟩) ?_
                 simp only [Act.put, List.setIfInBounds_toArray, List.set_cons_zero, List.set_cons_succ])
              | (refine SeqS.take4 (v := .agg (Y).toArray) (by first | assumption | trivial) (by kernel_rfl) (by decide +kernel) (by decide +kernel) (yields_blk (by rfl) 36 (.tmp 4) rfl rfl (fun w' h => IB.out w' h) (HI)) ?_
                 simp only [Act.put, List.setIfInBounds_toArray, List.set_cons_zero, List.set_cons_succ])
              | (refine SeqS.take4 (v := .agg (Y).toArray) (by first | assumption | trivial) (by kernel_rfl) (by decide +kernel) (by decide +kernel) (yields_part (by rfl) 36 (.tmp 96) rfl rfl (fun w' h => YR.out w' h) (HI)) ?_
                 simp only [Act.put, List.setIfInBounds_toArray, List.set_cons_zero, List.set_cons_succ])
              | (refine SeqS.take4 (v := ?_) (by first | assumption | trivial) (by kernel_rfl) (by decide +kernel) (by decide +kernel) (Or.inl ⟨by rfl, ?_⟩) ?_
                 rotate_left
                 focus
                   intro w' hb'
                   go_simp
                   with_reducible rfl
                 simp only [Act.put, List.setIfInBounds_toArray, List.set_cons_zero, List.set_cons_succ])
              | (refine SeqS.take4 (v := ?_) (by first | assumption | trivial) (by kernel_rfl) (by decide +kernel) (by decide +kernel) (Or.inl ⟨by rfl, ?_⟩) ?_
                 rotate_left
                 focus
                   intro w' hb'
                   have d0 := hq w'
                   go_simp
                   with_reducible rfl
                 simp only [Act.put, List.setIfInBounds_toArray, List.set_cons_zero, List.set_cons_succ])
              | (refine SeqS.take4 (v := undef) (by first | assumption | trivial) (by kernel_rfl) (by decide +kernel) (by decide +kernel) (Or.inr ⟨by rfl, rfl⟩) ?_
                 simp only [Act.put, List.setIfInBounds_toArray, List.set_cons_zero, List.set_cons_succ])
              | (refine SeqS.take5 (v := .agg (Y).toArray) (by first | assumption | trivial) (by kernel_rfl) (by decide +kernel) (by decide +kernel) (yields_blk (by rfl) 36 (.tmp 4) rfl rfl (fun w' h => IB.out w' h) (HI)) ?_
                 simp only [Act.put, List.setIfInBounds_toArray, List.set_cons_zero, List.set_cons_succ])
              | (refine SeqS.take5 (v := .agg (Y).toArray) (by first | assumption | trivial) (by kernel_rfl) (by decide +kernel) (by decide +kernel) (yields_part (by rfl) 36 (.tmp 96) rfl rfl (fun w' h => YR.out w' h) (HI)) ?_
                 simp only [Act.put, List.setIfInBounds_toArray, List.set_cons_zero, List.set_cons_succ])
              | (refine SeqS.take5 (v := ?_) (by first | assumption | trivial) (by kernel_rfl) (by decide +kernel) (by decide +kernel) (Or.inl ⟨by rfl, ?_⟩) ?_
                 rotate_left
                 focus
                   intro w' hb'
                   go_simp
                   with_reducible rfl
                 simp only [Act.put, List.setIfInBounds_toArray, List.set_cons_zero, List.set_cons_succ])
              | (refine SeqS.take5 (v := ?_) (by first | assumption | trivial) (by kernel_rfl) (by decide +kernel) (by decide +kernel) (Or.inl ⟨by rfl, ?_⟩) ?_
                 rotate_left
                 focus
                   intro w' hb'
                   have d0 := hq w'
                   go_simp
                   with_reducible rfl
                 simp only [Act.put, List.setIfInBounds_toArray, List.set_cons_zero, List.set_cons_succ])
              | (refine SeqS.take5 (v := undef) (by first | assumption | trivial) (by kernel_rfl) (by decide +kernel) (by decide +kernel) (Or.inr ⟨by rfl, rfl⟩) ?_
                 simp only [Act.put, List.setIfInBounds_toArray, List.set_cons_zero, List.set_cons_succ])
              | (refine SeqS.take6 (v := .agg (Y).toArray) (by first | assumption | trivial) (by kernel_rfl) (by decide +kernel) (by decide +kernel) (yields_blk (by rfl) 36 (.tmp 4) rfl rfl (fun w' h => IB.out w' h) (HI)) ?_
                 simp only [Act.put, List.setIfInBounds_toArray, List.set_cons_zero, List.set_cons_succ])
              | (refine SeqS.take6 (v := .agg (Y).toArray) (by first | assumption | trivial) (by kernel_rfl) (by decide +kernel) (by decide +kernel) (yields_part (by rfl) 36 (.tmp 96) rfl rfl (fun w' h => YR.out w' h) (HI)) ?_
                 simp only [Act.put, List.setIfInBounds_toArray, List.set_cons_zero, List.set_cons_succ])
              | (refine SeqS.take6 (v := ?_) (by first | assumption | trivial) (by kernel_rfl) (by decide +kernel) (by decide +kernel) (Or.inl ⟨by rfl, ?_⟩) ?_
                 rotate_left
                 focus
                   intro w' hb'
                   go_simp
                   with_reducible rfl
                 simp only [Act.put, List.setIfInBounds_toArray, List.set_cons_zero, List.set_cons_succ])
              | (refine SeqS.take6 (v := ?_) (by first | assumption | trivial) (by kernel_rfl) (by decide +kernel) (by decide +kernel) (Or.inl ⟨by rfl, ?_⟩) ?_
                 rotate_left
                 focus
                   intro w' hb'
                   have d0 := hq w'
                   go_simp
                   with_reducible rfl
                 simp only [Act.put, List.setIfInBounds_toArray, List.set_cons_zero, List.set_cons_succ])
              | (refine SeqS.take6 (v := undef) (by first | assumption | trivial) (by kernel_rfl) (by decide +kernel) (by decide +kernel) (Or.inr ⟨by rfl, rfl⟩) ?_
                 simp only [Act.put, List.setIfInBounds_toArray, List.set_cons_zero, List.set_cons_succ]))
            refine SeqS.alone (by decide +kernel) (by rfl) (fun K hK => ?_)
            go_simp
            go_at_call 8
            refine (AL.out _ b12).mono ?_
            rintro e w13 ⟨rfl, b13⟩
            go_simp
            have S13 : Below w11.heap.size w11 w13 := b12.trans (b13.mono b12.size)
            refine hK _ _ S13 ?_
            clear hK K
            repeat (first
              | (refine SeqS.take (v := ?_) (by first | assumption | trivial) (by kernel_rfl) (by decide +kernel) (by decide +kernel) (Or.inl ⟨by rfl, ?_⟩) ?_
                 rotate_left
                 focus
                   intro w' hb'
                   go_simp
                   with_reducible rfl
                 simp only [Act.put, List.setIfInBounds_toArray, List.set_cons_zero, List.set_cons_succ])
              | (refine SeqS.take (v := undef) (by first | assumption | trivial) (by kernel_rfl) (by decide +kernel) (by decide +kernel) (Or.inr ⟨by rfl, rfl⟩) ?_
                 simp only [Act.put, List.setIfInBounds_toArray, List.set_cons_zero, List.set_cons_succ])
              | (refine SeqS.take1 (v := ?_) (by first | assumption | trivial) (by kernel_rfl) (by decide +kernel) (by decide +kernel) (Or.inl ⟨by rfl, ?_⟩) ?_
                 rotate_left
                 focus
                   intro w' hb'
                   go_simp
                   with_reducible rfl
                 simp only [Act.put, List.setIfInBounds_toArray, List.set_cons_zero, List.set_cons_succ])
              | (refine SeqS.take1 (v := undef) (by first | assumption | trivial) (by kernel_rfl) (by decide +kernel) (by decide +kernel) (Or.inr ⟨by rfl, rfl⟩) ?_
                 simp only [Act.put, List.setIfInBounds_toArray, List.set_cons_zero, List.set_cons_succ])
              | (refine SeqS.take2 (v := ?_) (by first | assumption | trivial) (by kernel_rfl) (by decide +kernel) (by decide +kernel) (Or.inl ⟨by rfl, ?_⟩) ?_
                 rotate_left
                 focus
                   intro w' hb'
                   go_simp
                   with_reducible rfl
                 simp only [Act.put, List.setIfInBounds_toArray, List.set_cons_zero, List.set_cons_succ])
              | (refine SeqS.take2 (v := undef) (by first | assumption | trivial) (by kernel_rfl) (by decide +kernel) (by decide +kernel) (Or.inr ⟨by rfl, rfl⟩) ?_
                 simp only [Act.put, List.setIfInBounds_toArray, List.set_cons_zero, List.set_cons_succ]))
            refine SeqS.done (by decide +kernel) ?_
            have B13 := BH.out.trans (S13.mono BH.out.size)
            clear S13 b12 b13 AL BH YR IB hq
            go_wp2
            go_ret
            exact ⟨rfl, B13⟩
    · have h0i : (0 : Int) < (n : Int) := by omega
      cases hA2 : ((A : Int) % 2 == 0) with
      | false =>
        obtain ⟨y, hyH⟩ : ∃ y : List Int, Hid (y.length = 32 ∧ y.map (Value.int .u8) = X) := ⟨x, hxH⟩
        obtain ⟨Y, hYe⟩ : ∃ Y, X = Y := ⟨_, rfl⟩
        rw [hYe] at hi2 hyH HI hXX
        have hYY := Lib.hid hXX
        clear hYe h0 hXX
        go_wp2_with fail
        clear h0i hA2
        go_loopw [46] (fun i wr => ∃ j : Nat, j ≤ n ∧ i = .int .i64 j ∧ Blk wr G 24 [.slice a n c] ∧ Blk wr I 36 Y ∧ IdsAt wr lb n ld (idsL ts) ∧ Below w.heap.size w wr) (fun i _ => n - (intOf i).toNat)
        case atStart => exact ⟨0, Nat.zero_le _, rfl, hk2, hi2, hL, B2⟩
        case round =>
          clear hk2 hi2 hL B2
          obtain ⟨j, hj, rfl, hk, hi, hL, hB⟩ := hrel
          by_cases hlt : j < n
          · have hji : (j : Int) < (n : Int) := by omega
            obtain ⟨b, off, t, T, d, rfl, ht, c0, c1, hI, hrg⟩ := (TK.out wr hB).get j hlt
            obtain ⟨lg, lo, rfl, _⟩ : ∃ lg lo, lb = some ⟨lg, lo, none⟩ ∧ True := by
              rcases hL.2.2 with h0 | ⟨lg, lo, h, _⟩
              · omega
              · exact ⟨lg, lo, h, trivial⟩
            have hlr := ids_range hL hnH.out.1 ht
            have rt := hrH.out t (List.mem_of_getElem? ht)
            have htl := hsmH.out.2 t (List.mem_of_getElem? ht)
            have hq := idEq13 (shaSum t.2) (shaSum t.2) (shaSum_length _) (shaSum_length _)
            rw [decide_eq_true rfl] at hq
            have rc := Lib.hid (fun w' (h : Below wr.heap.size wr w') => r13ID_any T t.2.length d t.2 w' (hI.keep h) rt.ok htl)
            have pc := Lib.hid (fun w' (h : Below wr.heap.size wr w') => ppTxID_any T t.2.length d t.2 w' (gl.out w' (hB.trans (h.mono hB.size))) (hI.keep h) rt.ok htl)
            have hZZ : ((shaSum t.2).map (Value.int .u8)).length = 32 := by rw [List.length_map, shaSum_length]
            obtain ⟨Z, hZ⟩ : ∃ Z, (shaSum t.2).map (Value.int .u8) = Z := ⟨_, rfl⟩
            rw [hZ] at hq rc pc hlr hZZ
            have HZ : IsRow Tryd.prog 36 Z.length := by rw [hZZ]; exact rowId
            obtain ⟨L, hLe⟩ : ∃ L, t.2.length = L := ⟨_, rfl⟩
            obtain ⟨f, hf⟩ : ∃ f, t.1 = f := ⟨_, rfl⟩
            rw [hLe] at c1 hrg rc pc
            rw [hf] at c0 hrg
            have hltH := Lib.hid hlt
            have hold := Lib.hid (And.intro hk (And.intro hi (And.intro hL hB)))
            have hlrH := Lib.hid hlr
            clear hlt hj hI rt htl hZ hLe hf ht hk hi hL hB hZZ hlr
            go_wp2_with fail
            obtain ⟨H, hH⟩ : ∃ H, wr.heap.size = H := ⟨_, rfl⟩
            obtain ⟨V, hV⟩ : ∃ V, wr.alloc (.cells #[.int .u32 f, .slice T L d] 41) = V := ⟨_, rfl⟩
            have hN : Blk V H 41 [.int .u32 f, .slice T L d] := by rw [← hV, ← hH]; exact Blk.new wr _ _
            have bV : Below wr.heap.size wr V := by rw [← hV]; exact below1 wr _
            rw [hV, hH]
            have b1 : Below V.heap.size V V.drew := (Below.refl _ _).drew
            have bW := Lib.hid (fun w' (h : Below V.heap.size V w') => bV.trans (h.mono bV.size))
            have l1 := Lib.hid hN.lt
            have e1 := Lib.hid (hN.cell 1)
            have hlv : V.rangeAt lg (lo + j * 32) Z := fun q u hq => by
              have h1 := hlrH.out q u hq
              rw [bV.cell (World.block_lt_of_cell? wr _ h1)]
              exact h1
            have ZR := Lib.hid (fun w' (h : Below V.heap.size V w') => (fun q u hq => by
              have h1 := hlv q u hq
              rw [h.cell (World.block_lt_of_cell? V _ h1)]
              exact h1 : w'.rangeAt lg (lo + j * 32) Z))
            have hng := noGuard13
            clear hV hH c0 c1 hrg hN hlv hlrH
            refine region_seqS (fun w' => Below V.heap.size V w') (by kernel_rfl) b1 ?_
            simp only [pairs, Nat.reduceAdd]
            repeat (first
              | (refine SeqS.take (v := .agg (Z).toArray) (by first | assumption | trivial) (by kernel_rfl) (by decide +kernel) (by decide +kernel) (yields_part (by rfl) 36 (.tmp 53) rfl rfl (fun w' h => ZR.out w' h) (HZ)) ?_
                 simp only [Act.put, List.setIfInBounds_toArray, List.set_cons_zero, List.set_cons_succ])
              | (refine SeqS.take (v := ?_) (by first | assumption | trivial) (by kernel_rfl) (by decide +kernel) (by decide +kernel) (Or.inl ⟨by rfl, ?_⟩) ?_
                 rotate_left
                 focus
                   intro w' hb'
                   go_simp
                   with_reducible rfl
                 simp only [Act.put, List.setIfInBounds_toArray, List.set_cons_zero, List.set_cons_succ])
              | (refine SeqS.take (v := ?_) (by first | assumption | trivial) (by kernel_rfl) (by decide +kernel) (by decide +kernel) (Or.inl ⟨by rfl, ?_⟩) ?_
                 rotate_left
                 focus
                   intro w' hb'
                   have d0 : w'.cell? ⟨H, 1, none⟩ = some (.slice T L d) := (hb'.cell l1.out).trans e1.out
                   go_simp
                   with_reducible rfl
                 simp only [Act.put, List.setIfInBounds_toArray, List.set_cons_zero, List.set_cons_succ])
              | (refine SeqS.take (v := undef) (by first | assumption | trivial) (by kernel_rfl) (by decide +kernel) (by decide +kernel) (Or.inr ⟨by rfl, rfl⟩) ?_
                 simp only [Act.put, List.setIfInBounds_toArray, List.set_cons_zero, List.set_cons_succ])
              | (refine SeqS.take1 (v := .agg (Z).toArray) (by first | assumption | trivial) (by kernel_rfl) (by decide +kernel) (by decide +kernel) (yields_part (by rfl) 36 (.tmp 53) rfl rfl (fun w' h => ZR.out w' h) (HZ)) ?_
                 simp only [Act.put, List.setIfInBounds_toArray, List.set_cons_zero, List.set_cons_succ])
              | (refine SeqS.take1 (v := ?_) (by first | assumption | trivial) (by kernel_rfl) (by decide +kernel) (by decide +kernel) (Or.inl ⟨by rfl, ?_⟩) ?_
                 rotate_left
                 focus
                   intro w' hb'
                   go_simp
                   with_reducible rfl
                 simp only [Act.put, List.setIfInBounds_toArray, List.set_cons_zero, List.set_cons_succ])
              | (refine SeqS.take1 (v := ?_) (by first | assumption | trivial) (by kernel_rfl) (by decide +kernel) (by decide +kernel) (Or.inl ⟨by rfl, ?_⟩) ?_
                 rotate_left
                 focus
                   intro w' hb'
                   have d0 : w'.cell? ⟨H, 1, none⟩ = some (.slice T L d) := (hb'.cell l1.out).trans e1.out
                   go_simp
                   with_reducible rfl
                 simp only [Act.put, List.setIfInBounds_toArray, List.set_cons_zero, List.set_cons_succ])
              | (refine SeqS.take1 (v := undef) (by first | assumption | trivial) (by kernel_rfl) (by decide +kernel) (by decide +kernel) (Or.inr ⟨by rfl, rfl⟩) ?_
                 simp only [Act.put, List.setIfInBounds_toArray, List.set_cons_zero, List.set_cons_succ])
              | (refine SeqS.take2 (v := .agg (Z).toArray) (by first | assumption | trivial) (by kernel_rfl) (by decide +kernel) (by decide +kernel) (yields_part (by rfl) 36 (.tmp 53) rfl rfl (fun w' h => ZR.out w' h) (HZ)) ?_
                 simp only [Act.put, List.setIfInBounds_toArray, List.set_cons_zero, List.set_cons_succ])
              | (refine SeqS.take2 (v := ?_) (by first | assumption | trivial) (by kernel_rfl) (by decide +kernel) (by decide +kernel) (Or.inl ⟨by rfl, ?_⟩) ?_
                 rotate_left
                 focus
                   intro w' hb'
                   go_simp
                   with_reducible rfl
                 simp only [Act.put, List.setIfInBounds_toArray, List.set_cons_zero, List.set_cons_succ])
              | (refine SeqS.take2 (v := ?_) (by first | assumption | trivial) (by kernel_rfl) (by decide +kernel) (by decide +kernel) (Or.inl ⟨by rfl, ?_⟩) ?_
                 rotate_left
                 focus
                   intro w' hb'
                   have d0 : w'.cell? ⟨H, 1, none⟩ = some (.slice T L d) := (hb'.cell l1.out).trans e1.out
                   go_simp
                   with_reducible rfl
                 simp only [Act.put, List.setIfInBounds_toArray, List.set_cons_zero, List.set_cons_succ])
              | (refine SeqS.take2 (v := undef) (by first | assumption | trivial) (by kernel_rfl) (by decide +kernel) (by decide +kernel) (Or.inr ⟨by rfl, rfl⟩) ?_
                 simp only [Act.put, List.setIfInBounds_toArray, List.set_cons_zero, List.set_cons_succ])
              | (refine SeqS.take3 (v := .agg (Z).toArray) (by first | assumption | trivial) (by kernel_rfl) (by decide +kernel) (by decide +kernel) (yields_part (by rfl) 36 (.tmp 53) rfl rfl (fun w' h => ZR.out w' h) (HZ)) ?_
                 simp only [Act.put, List.setIfInBounds_toArray, List.set_cons_zero, List.set_cons_succ])
              | (refine SeqS.take3 (v := ?_) (by first | assumption | trivial) (by kernel_rfl) (by decide +kernel) (by decide +kernel) (Or.inl ⟨by rfl, ?_⟩) ?_
                 rotate_left
                 focus
                   intro w' hb'
                   go_simp
                   with_reducible rfl
                 simp only [Act.put, List.setIfInBounds_toArray, List.set_cons_zero, List.set_cons_succ])
              | (refine SeqS.take3 (v := ?_) (by first | assumption | trivial) (by kernel_rfl) (by decide +kernel) (by decide +kernel) (Or.inl ⟨by rfl, ?_⟩) ?_
                 rotate_left
                 focus
                   intro w' hb'
                   have d0 : w'.cell? ⟨H, 1, none⟩ = some (.slice T L d) := (hb'.cell l1.out).trans e1.out
                   go_simp
                   with_reducible rfl
                 simp only [Act.put, List.setIfInBounds_toArray, List.set_cons_zero, List.set_cons_succ])
              | (refine SeqS.take3 (v := undef) (by first | assumption | trivial) (by kernel_rfl) (by decide +kernel) (by decide +kernel) (Or.inr ⟨by rfl, rfl⟩) ?_
                 simp only [Act.put, List.setIfInBounds_toArray, List.set_cons_zero, List.set_cons_succ])
              | (refine SeqS.take4 (v := .agg (Z).toArray) (by first | assumption | trivial) (by kernel_rfl) (by decide +kernel) (by decide +kernel) (yields_part (by rfl) 36 (.tmp 53) rfl rfl (fun w' h => ZR.out w' h) (HZ)) ?_
                 simp only [Act.put, List.setIfInBounds_toArray, List.set_cons_zero, List.set_cons_succ])
              | (refine SeqS.take4 (v := ?_) (by first | assumption | trivial) (by kernel_rfl) (by decide +kernel) (by decide +kernel) (Or.inl ⟨by rfl, ?_⟩) ?_
                 rotate_left
                 focus
                   intro w' hb'
                   go_simp
                   with_reducible rfl
                 simp only [Act.put, List.setIfInBounds_toArray, List.set_cons_zero, List.set_cons_succ])
              | (refine SeqS.take4 (v := ?_) (by first | assumption | trivial) (by kernel_rfl) (by decide +kernel) (by decide +kernel) (Or.inl ⟨by rfl, ?_⟩) ?_
                 rotate_left
                 focus
                   intro w' hb'
                   have d0 : w'.cell? ⟨H, 1, none⟩ = some (.slice T L d) := (hb'.cell l1.out).trans e1.out
                   go_simp
                   with_reducible rfl
                 simp only [Act.put, List.setIfInBounds_toArray, List.set_cons_zero, List.set_cons_succ])
              | (refine SeqS.take4 (v := undef) (by first | assumption | trivial) (by kernel_rfl) (by decide +kernel) (by decide +kernel) (Or.inr ⟨by rfl, rfl⟩) ?_
                 simp only [Act.put, List.setIfInBounds_toArray, List.set_cons_zero, List.set_cons_succ])
              | (refine SeqS.take5 (v := .agg (Z).toArray) (by first | assumption | trivial) (by kernel_rfl) (by decide +kernel) (by decide +kernel) (yields_part (by rfl) 36 (.tmp 53) rfl rfl (fun w' h => ZR.out w' h) (HZ)) ?_
                 simp only [Act.put, List.setIfInBounds_toArray, List.set_cons_zero, List.set_cons_succ])
              | (refine SeqS.take5 (v := ?_) (by first | assumption | trivial) (by kernel_rfl) (by decide +kernel) (by decide +kernel) (Or.inl ⟨by rfl, ?_⟩) ?_
                 rotate_left
                 focus
                   intro w' hb'
                   go_simp
                   with_reducible rfl
                 simp only [Act.put, List.setIfInBounds_toArray, List.set_cons_zero, List.set_cons_succ])
              | (refine SeqS.take5 (v := ?_) (by first | assumption | trivial) (by kernel_rfl) (by decide +kernel) (by decide +kernel) (Or.inl ⟨by rfl, ?_⟩) ?_
                 rotate_left
                 focus
                   intro w' hb'
                   have d0 : w'.cell? ⟨H, 1, none⟩ = some (.slice T L d) := (hb'.cell l1.out).trans e1.out
                   go_simp
                   with_reducible rfl
                 simp only [Act.put, List.setIfInBounds_toArray, List.set_cons_zero, List.set_cons_succ])
              | (refine SeqS.take5 (v := undef) (by first | assumption | trivial) (by kernel_rfl) (by decide +kernel) (by decide +kernel) (Or.inr ⟨by rfl, rfl⟩) ?_
                 simp only [Act.put, List.setIfInBounds_toArray, List.set_cons_zero, List.set_cons_succ])
              | (refine SeqS.take6 (v := .agg (Z).toArray) (by first | assumption | trivial) (by kernel_rfl) (by decide +kernel) (by decide +kernel) (yields_part (by rfl) 36 (.tmp 53) rfl rfl (fun w' h => ZR.out w' h) (HZ)) ?_
                 simp only [Act.put, List.setIfInBounds_toArray, List.set_cons_zero, List.set_cons_succ])
              | (refine SeqS.take6 (v := ?_) (by first | assumption | trivial) (by kernel_rfl) (by decide +kernel) (by decide +kernel) (Or.inl ⟨by rfl, ?_⟩) ?_
                 rotate_left
                 focus
                   intro w' hb'
                   go_simp
                   with_reducible rfl
                 simp only [Act.put, List.setIfInBounds_toArray, List.set_cons_zero, List.set_cons_succ])
              | (refine SeqS.take6 (v := ?_) (by first | assumption | trivial) (by kernel_rfl) (by decide +kernel) (by decide +kernel) (Or.inl ⟨by rfl, ?_⟩) ?_
                 rotate_left
                 focus
                   intro w' hb'
                   have d0 : w'.cell? ⟨H, 1, none⟩ = some (.slice T L d) := (hb'.cell l1.out).trans e1.out
                   go_simp
                   with_reducible rfl
                 simp only [Act.put, List.setIfInBounds_toArray, List.set_cons_zero, List.set_cons_succ])
              | (refine SeqS.take6 (v := undef) (by first | assumption | trivial) (by kernel_rfl) (by decide +kernel) (by decide +kernel) (Or.inr ⟨by rfl, rfl⟩) ?_
                 simp only [Act.put, List.setIfInBounds_toArray, List.set_cons_zero, List.set_cons_succ]))
            refine SeqS.alone (by decide +kernel) (by rfl) (fun K hK => ?_)
            go_simp
            go_at_call 17
            refine (rc.out _ (bW.out _ b1)).mono ?_
            rintro e w3 ⟨rfl, b3⟩
            go_simp
            have S3 : Below V.heap.size V w3 := b1.trans (b3.mono b1.size)
            refine hK _ _ S3 ?_
            clear hK K
            repeat (first
              | (refine SeqS.take (v := .agg (Z).toArray) (by first | assumption | trivial) (by kernel_rfl) (by decide +kernel) (by decide +kernel) (yields_part (by rfl) 36 (.tmp 65) rfl rfl (fun w' h => ZR.out w' h) (HZ)) ?_
                 simp only [Act.put, List.setIfInBounds_toArray, List.set_cons_zero, List.set_cons_succ])
              | (refine SeqS.take (v := ?_) (by first | assumption | trivial) (by kernel_rfl) (by decide +kernel) (by decide +kernel) (Or.inl ⟨by rfl, ?_⟩) ?_
                 rotate_left
                 focus
                   intro w' hb'
                   go_simp
                   with_reducible rfl
                 simp only [Act.put, List.setIfInBounds_toArray, List.set_cons_zero, List.set_cons_succ])
              | (refine SeqS.take (v := ?_) (by first | assumption | trivial) (by kernel_rfl) (by decide +kernel) (by decide +kernel) (Or.inl ⟨by rfl, ?_⟩) ?_
                 rotate_left
                 focus
                   intro w' hb'
                   have d0 := hq w'
                   go_simp
                   with_reducible rfl
                 simp only [Act.put, List.setIfInBounds_toArray, List.set_cons_zero, List.set_cons_succ])
              | (refine SeqS.take (v := ?_) (by first | assumption | trivial) (by kernel_rfl) (by decide +kernel) (by decide +kernel) (Or.inl ⟨by rfl, ?_⟩) ?_
                 rotate_left
                 focus
                   intro w' hb'
                   have d0 : w'.cell? ⟨H, 1, none⟩ = some (.slice T L d) := (hb'.cell l1.out).trans e1.out
                   go_simp
                   with_reducible rfl
                 simp only [Act.put, List.setIfInBounds_toArray, List.set_cons_zero, List.set_cons_succ])
              | (refine SeqS.take (v := undef) (by first | assumption | trivial) (by kernel_rfl) (by decide +kernel) (by decide +kernel) (Or.inr ⟨by rfl, rfl⟩) ?_
                 simp only [Act.put, List.setIfInBounds_toArray, List.set_cons_zero, List.set_cons_succ])
              | (refine SeqS.take1 (v := .agg (Z).toArray) (by first | assumption | trivial) (by kernel_rfl) (by decide +kernel) (by decide +kernel) (yields_part (by rfl) 36 (.tmp 65) rfl rfl (fun w' h => ZR.out w' h) (HZ)) ?_
                 simp only [Act.put, List.setIfInBounds_toArray, List.set_cons_zero, List.set_cons_succ])
              | (refine SeqS.take1 (v := ?_) (by first | assumption | trivial) (by kernel_rfl) (by decide +kernel) (by decide +kernel) (Or.inl ⟨by rfl, ?_⟩) ?_
                 rotate_left
                 focus
                   intro w' hb'
                   go_simp
                   with_reducible rfl
                 simp only [Act.put, List.setIfInBounds_toArray, List.set_cons_zero, List.set_cons_succ])
              | (refine SeqS.take1 (v := ?_) (by first | assumption | trivial) (by kernel_rfl) (by decide +kernel) (by decide +kernel) (Or.inl ⟨by rfl, ?_⟩) ?_
                 rotate_left
                 focus
                   intro w' hb'
                   have d0 := hq w'
                   go_simp
                   with_reducible rfl
                 simp only [Act.put, List.setIfInBounds_toArray, List.set_cons_zero, List.set_cons_succ])
              | (refine SeqS.take1 (v := ?_) (by first | assumption | trivial) (by kernel_rfl) (by decide +kernel) (by decide +kernel) (Or.inl ⟨by rfl, ?_⟩) ?_
                 rotate_left
                 focus
                   intro w' hb'
                   have d0 : w'.cell? ⟨H, 1, none⟩ = some (.slice T L d) := (hb'.cell l1.out).trans e1.out
                   go_simp
                   with_reducible rfl
                 simp only [Act.put, List.setIfInBounds_toArray, List.set_cons_zero, List.set_cons_succ])
              | (refine SeqS.take1 (v := undef) (by first | assumption | trivial) (by kernel_rfl) (by decide +kernel) (by decide +kernel) (Or.inr ⟨by rfl, rfl⟩) ?_
                 simp only [Act.put, List.setIfInBounds_toArray, List.set_cons_zero, List.set_cons_succ])
              | (refine SeqS.take2 (v := .agg (Z).toArray) (by first | assumption | trivial) (by kernel_rfl) (by decide +kernel) (by decide +kernel) (yields_part (by rfl) 36 (.tmp 65) rfl rfl (fun w' h => ZR.out w' h) (HZ)) ?_
                 simp only [Act.put, List.setIfInBounds_toArray, List.set_cons_zero, List.set_cons_succ])
              | (refine SeqS.take2 (v := ?_) (by first | assumption | trivial) (by kernel_rfl) (by decide +kernel) (by decide +kernel) (Or.inl ⟨by rfl, ?_⟩) ?_
                 rotate_left
                 focus
                   intro w' hb'
                   go_simp
                   with_reducible rfl
                 simp only [Act.put, List.setIfInBounds_toArray, List.set_cons_zero, List.set_cons_succ])
              | (refine SeqS.take2 (v := ?_) (by first | assumption | trivial) (by kernel_rfl) (by decide +kernel) (by decide +kernel) (Or.inl ⟨by rfl, ?_⟩) ?_
                 rotate_left
                 focus
                   intro w' hb'
                   have d0 := hq w'
                   go_simp
                   with_reducible rfl
                 simp only [Act.put, List.setIfInBounds_toArray, List.set_cons_zero, List.set_cons_succ])
              | (refine SeqS.take2 (v := ?_) (by first | assumption | trivial) (by kernel_rfl) (by decide +kernel) (by decide +kernel) (Or.inl ⟨by rfl, ?_⟩) ?_
                 rotate_left
                 focus
                   intro w' hb'
                   have d0 : w'.cell? ⟨H, 1, none⟩ = some (.slice T L d) := (hb'.cell l1.out).trans e1.out
                   go_simp
                   with_reducible rfl
                 simp only [Act.put, List.setIfInBounds_toArray, List.set_cons_zero, List.set_cons_succ])
              | (refine SeqS.take2 (v := undef) (by first | assumption | trivial) (by kernel_rfl) (by decide +kernel) (by decide +kernel) (Or.inr ⟨by rfl, rfl⟩) ?_
                 simp only [Act.put, List.setIfInBounds_toArray, List.set_cons_zero, List.set_cons_succ])
              | (refine SeqS.take3 (v := .agg (Z).toArray) (by first | assumption | trivial) (by kernel_rfl) (by decide +kernel) (by decide +kernel) (yields_part (by rfl) 36 (.tmp 65) rfl rfl (fun w' h => ZR.out w' h) (HZ)) ?_
                 simp only [Act.put, List.setIfInBounds_toArray, List.set_cons_zero, List.set_cons_succ])
              | (refine SeqS.take3 (v := ?_) (by first | assumption | trivial) (by kernel_rfl) (by decide +kernel) (by decide +kernel) (Or.inl ⟨by rfl, ?_⟩) ?_
                 rotate_left
                 focus
                   intro w' hb'
                   go_simp
                   with_reducible rfl
                 simp only [Act.put, List.setIfInBounds_toArray, List.set_cons_zero, List.set_cons_succ])
              | (refine SeqS.take3 (v := ?_) (by first | assumption | trivial) (by kernel_rfl) (by decide +kernel) (by decide +kernel) (Or.inl ⟨by rfl, ?_⟩) ?_
                 rotate_left
                 focus
                   intro w' hb'
                   have d0 := hq w'
                   go_simp
                   with_reducible rfl
                 simp only [Act.put, List.setIfInBounds_toArray, List.set_cons_zero, List.set_cons_succ])
              | (refine SeqS.take3 (v := ?_) (by first | assumption | trivial) (by kernel_rfl) (by decide +kernel) (by decide +kernel) (Or.inl ⟨by rfl, ?_⟩) ?_
                 rotate_left
                 focus
                   intro w' hb'
                   have d0 : w'.cell? ⟨H, 1, none⟩ = some (.slice T L d) := (hb'.cell l1.out).trans e1.out
                   go_simp
                   with_reducible rfl
                 simp only [Act.put, List.setIfInBounds_toArray, List.set_cons_zero, List.set_cons_succ])
              | (refine SeqS.take3 (v := undef) (by first | assumption | trivial) (by kernel_rfl) (by decide +kernel) (by decide +kernel) (Or.inr ⟨by rfl, rfl⟩) ?_
                 simp only [Act.put, List.setIfInBounds_toArray, List.set_cons_zero, List.set_cons_succ])
              | (refine SeqS.take4 (v := .agg (Z).toArray) (by first | assumption | trivial) (by kernel_rfl) (by decide +kernel) (by decide +kernel) (yields_part (by rfl) 36 (.tmp 65) rfl rfl (fun w' h => ZR.out w' h) (HZ)) ?_
                 simp only [Act.put, List.setIfInBounds_toArray, List.set_cons_zero, List.set_cons_succ])
              | (refine SeqS.take4 (v := ?_) (by first | assumption | trivial) (by kernel_rfl) (by decide +kernel) (by decide +kernel) (Or.inl ⟨by rfl, ?_⟩) ?_
                 rotate_left
                 focus
                   intro w' hb'
                   go_simp
                   with_reducible rfl
                 simp only [Act.put, List.setIfInBounds_toArray, List.set_cons_zero, List.set_cons_succ])
              | (refine SeqS.take4 (v := ?_) (by first | assumption | trivial) (by kernel_rfl) (by decide +kernel) (by decide +kernel) (Or.inl ⟨by rfl, ?_⟩) ?_
                 rotate_left
                 focus
                   intro w' hb'
                   have d0 := hq w'
                   go_simp
                   with_reducible rfl
                 simp only [Act.put, List.setIfInBounds_toArray, List.set_cons_zero, List.set_cons_succ])
              | (refine SeqS.take4 (v := ?_) (by first | assumption | trivial) (by kernel_rfl) (by decide +kernel) (by decide +kernel) (Or.inl ⟨by rfl, ?_⟩) ?_
                 rotate_left
                 focus
                   intro w' hb'
                   have d0 : w'.cell? ⟨H, 1, none⟩ = some (.slice T L d) := (hb'.cell l1.out).trans e1.out
                   go_simp
                   with_reducible rfl
                 simp only [Act.put, List.setIfInBounds_toArray, List.set_cons_zero, List.set_cons_succ])
              | (refine SeqS.take4 (v := undef) (by first | assumption | trivial) (by kernel_rfl) (by decide +kernel) (by decide +kernel) (Or.inr ⟨by rfl, rfl⟩) ?_
                 simp only [Act.put, List.setIfInBounds_toArray, List.set_cons_zero, List.set_cons_succ]))
            refine SeqS.alone (by decide +kernel) (by rfl) (fun K hK => ?_)
            go_simp
            go_at_call 18
            refine (pc.out _ (bW.out _ S3)).mono ?_
            rintro e w4 ⟨rfl, b4⟩
            go_simp
            have S4 : Below V.heap.size V w4 := S3.trans (b4.mono S3.size)
            refine hK _ _ S4 ?_
            clear hK K
            repeat (first
              | (refine SeqS.take (v := ?_) (by first | assumption | trivial) (by kernel_rfl) (by decide +kernel) (by decide +kernel) (Or.inl ⟨by rfl, ?_⟩) ?_
                 rotate_left
                 focus
                   intro w' hb'
                   go_simp
                   with_reducible rfl
                 simp only [Act.put, List.setIfInBounds_toArray, List.set_cons_zero, List.set_cons_succ])
              | (refine SeqS.take (v := ?_) (by first | assumption | trivial) (by kernel_rfl) (by decide +kernel) (by decide +kernel) (Or.inl ⟨by rfl, ?_⟩) ?_
                 rotate_left
                 focus
                   intro w' hb'
                   have d0 := hq w'
                   go_simp
                   with_reducible rfl
                 simp only [Act.put, List.setIfInBounds_toArray, List.set_cons_zero, List.set_cons_succ])
              | (refine SeqS.take (v := undef) (by first | assumption | trivial) (by kernel_rfl) (by decide +kernel) (by decide +kernel) (Or.inr ⟨by rfl, rfl⟩) ?_
                 simp only [Act.put, List.setIfInBounds_toArray, List.set_cons_zero, List.set_cons_succ])
              | (refine SeqS.take1 (v := ?_) (by first | assumption | trivial) (by kernel_rfl) (by decide +kernel) (by decide +kernel) (Or.inl ⟨by rfl, ?_⟩) ?_
                 rotate_left
                 focus
                   intro w' hb'
                   go_simp
                   with_reducible rfl
                 simp only [Act.put, List.setIfInBounds_toArray, List.set_cons_zero, List.set_cons_succ])
              | (refine SeqS.take1 (v := ?_) (by first | assumption | trivial) (by kernel_rfl) (by decide +kernel) (by decide +kernel) (Or.inl ⟨by rfl, ?_⟩) ?_
                 rotate_left
                 focus
                   intro w' hb'
                   have d0 := hq w'
                   go_simp
                   with_reducible rfl
                 simp only [Act.put, List.setIfInBounds_toArray, List.set_cons_zero, List.set_cons_succ])
              | (refine SeqS.take1 (v := undef) (by first | assumption | trivial) (by kernel_rfl) (by decide +kernel) (by decide +kernel) (Or.inr ⟨by rfl, rfl⟩) ?_
                 simp only [Act.put, List.setIfInBounds_toArray, List.set_cons_zero, List.set_cons_succ])
              | (refine SeqS.take2 (v := ?_) (by first | assumption | trivial) (by kernel_rfl) (by decide +kernel) (by decide +kernel) (Or.inl ⟨by rfl, ?_⟩) ?_
                 rotate_left
                 focus
                   intro w' hb'
                   go_simp
                   with_reducible rfl
                 simp only [Act.put, List.setIfInBounds_toArray, List.set_cons_zero, List.set_cons_succ])
              | (refine SeqS.take2 (v := ?_) (by first | assumption | trivial) (by kernel_rfl) (by decide +kernel) (by decide +kernel) (Or.inl ⟨by rfl, ?_⟩) ?_
                 rotate_left
                 focus
                   intro w' hb'
                   have d0 := hq w'
                   go_simp
                   with_reducible rfl
                 simp only [Act.put, List.setIfInBounds_toArray, List.set_cons_zero, List.set_cons_succ])
              | (refine SeqS.take2 (v := undef) (by first | assumption | trivial) (by kernel_rfl) (by decide +kernel) (by decide +kernel) (Or.inr ⟨by rfl, rfl⟩) ?_
                 simp only [Act.put, List.setIfInBounds_toArray, List.set_cons_zero, List.set_cons_succ])
              | (refine SeqS.take3 (v := ?_) (by first | assumption | trivial) (by kernel_rfl) (by decide +kernel) (by decide +kernel) (Or.inl ⟨by rfl, ?_⟩) ?_
                 rotate_left
                 focus
                   intro w' hb'
                   go_simp
                   with_reducible rfl
                 simp only [Act.put, List.setIfInBounds_toArray, List.set_cons_zero, List.set_cons_succ])
              | (refine SeqS.take3 (v := ?_) (by first | assumption | trivial) (by kernel_rfl) (by decide +kernel) (by decide +kernel) (Or.inl ⟨by rfl, ?_⟩) ?_
                 rotate_left
                 focus
                   intro w' hb'
                   have d0 := hq w'
                   go_simp
                   with_reducible rfl
                 simp only [Act.put, List.setIfInBounds_toArray, List.set_cons_zero, List.set_cons_succ])
              | (refine SeqS.take3 (v := undef) (by first | assumption | trivial) (by kernel_rfl) (by decide +kernel) (by decide +kernel) (Or.inr ⟨by rfl, rfl⟩) ?_
                 simp only [Act.put, List.setIfInBounds_toArray, List.set_cons_zero, List.set_cons_succ])
              | (refine SeqS.take4 (v := ?_) (by first | assumption | trivial) (by kernel_rfl) (by decide +kernel) (by decide +kernel) (Or.inl ⟨by rfl, ?_⟩) ?_
                 rotate_left
                 focus
                   intro w' hb'
                   go_simp
                   with_reducible rfl
                 simp only [Act.put, List.setIfInBounds_toArray, List.set_cons_zero, List.set_cons_succ])
              | (refine SeqS.take4 (v := ?_) (by first | assumption | trivial) (by kernel_rfl) (by decide +kernel) (by decide +kernel) (Or.inl ⟨by rfl, ?_⟩) ?_
                 rotate_left
                 focus
                   intro w' hb'
                   have d0 := hq w'
                   go_simp
                   with_reducible rfl
                 simp only [Act.put, List.setIfInBounds_toArray, List.set_cons_zero, List.set_cons_succ])
              | (refine SeqS.take4 (v := undef) (by first | assumption | trivial) (by kernel_rfl) (by decide +kernel) (by decide +kernel) (Or.inr ⟨by rfl, rfl⟩) ?_
                 simp only [Act.put, List.setIfInBounds_toArray, List.set_cons_zero, List.set_cons_succ]))
            refine SeqS.done (by decide +kernel) ?_
            have b14 := bW.out _ S4
            obtain ⟨hk, hi, hL, hB⟩ := hold.out
            have hkN := hk.keep b14 hk.lt
            have hiN := hi.keep b14 hi.lt
            have hLN := hL.keep b14
            have hBN := hB.trans (b14.mono hB.size)
            have hfin := Lib.hid (And.intro hkN (And.intro hiN (And.intro hLN hBN)))
            clear hk hi hL hB hkN hiN hLN hBN b14 S3 S4 b3 b4 b1 bW ZR rc pc hold hq e1 l1 bV
            go_wp2
            exact ⟨⟨j + 1, by have := hltH.out; omega, by congr 1, hfin.out⟩, by simp only [intOf]; have := hltH.out; omega⟩
          · obtain rfl : n = j := by omega
            have hji : ¬ (n : Int) < (n : Int) := by omega
            have k2 := hk.cell 0
            have pf := Lib.hid (fun w' (h : Below w.heap.size w w') => ppFind_any a n c ts y w' (gl.out w' h) (TK.out w' h) hrH.out hsmH.out hyH.out.1)
            have rf := Lib.hid (fun w' (h : Below w.heap.size w w') => r13Find_any a n c ts y w' (TK.out w' h) hrH.out hsmH.out hyH.out.1)
            have hfc := find_cases ts y
            obtain ⟨R, hR⟩ : ∃ R, findL ts y = R := ⟨_, rfl⟩
            rw [hR, hyH.out.2] at pf rf
            rw [hR] at hfc
            clear hlt hj hR
            go_wp2_with ((with_reducible refine wpList_load_blk rfl 36 (.tmp 4) rfl ?_ hi rowId hYY.out ?_); rfl)
            refine (pf.out wr hB).mono ?_
            rintro q w10 ⟨rfl, b10⟩
            have hi10 := hi.keep b10 hi.lt
            have k10 := (hk.keep b10 hk.lt).cell 0
            have hB10 := hB.trans (b10.mono hB.size)
            have hL10 := hL.keep b10
            clear hi hk hB hL k2 pf b10
            go_wp2_with ((with_reducible refine wpList_load_blk rfl 36 (.tmp 4) rfl ?_ hi10 rowId hYY.out ?_); rfl)
            refine (rf.out w10 hB10).mono ?_
            rintro q w11 ⟨rfl, b11⟩
            have hi11 := hi10.keep b11 hi10.lt
            have hB11 := hB10.trans (b11.mono hB10.size)
            have hL11 := hL10.keep b11
            clear hi10 k10 hB10 hL10 rf b11
            have b12 : Below w11.heap.size w11 w11.drew := (Below.refl _ _).drew
            have AL := Lib.hid (fun w' (h : Below w11.heap.size w11 w') => alH.out w' (hB11.trans (h.mono hB11.size)))
            have BH := Lib.hid hB11
            have hng := noGuard13
            rcases hfc with rfl | ⟨m, t, rfl, ht, hty⟩
            · dsimp only
              clear hi11 hL11 hB11
              go_wp2_with fail
              refine region_seqS (fun w' => Below w11.heap.size w11 w') (by kernel_rfl) b12 ?_
              simp only [pairs, Nat.reduceAdd]
              repeat (first
                | (refine SeqS.take (v := ?_) (by first | assumption | trivial) (by kernel_rfl) (by decide +kernel) (by decide +kernel) (Or.inl ⟨by rfl, ?_⟩) ?_
                   rotate_left
                   focus
                     intro w' hb'
                     go_simp
                     with_reducible rfl
                   simp only [Act.put, List.setIfInBounds_toArray, List.set_cons_zero, List.set_cons_succ])
                | (refine SeqS.take (v := undef) (by first | assumption | trivial) (by kernel_rfl) (by decide +kernel) (by decide +kernel) (Or.inr ⟨by rfl, rfl⟩) ?_
                   simp only [Act.put, List.setIfInBounds_toArray, List.set_cons_zero, List.set_cons_succ])
                | (refine SeqS.take1 (v := ?_) (by first | assumption | trivial) (by kernel_rfl) (by decide +kernel) (by decide +kernel) (Or.inl ⟨by rfl, ?_⟩) ?_
                   rotate_left
                   focus
                     intro w' hb'
                     go_simp
                     with_reducible rfl
                   simp only [Act.put, List.setIfInBounds_toArray, List.set_cons_zero, List.set_cons_succ])
                | (refine SeqS.take1 (v := undef) (by first | assumption | trivial) (by kernel_rfl) (by decide +kernel) (by decide +kernel) (Or.inr ⟨by rfl, rfl⟩) ?_
                   simp only [Act.put, List.setIfInBounds_toArray, List.set_cons_zero, List.set_cons_succ])
                | (refine SeqS.take2 (v := ?_) (by first | assumption | trivial) (by kernel_rfl) (by decide +kernel) (by decide +kernel) (Or.inl ⟨by rfl, ?_⟩) ?_
                   rotate_left
                   focus
                     intro w' hb'
                     go_simp
                     with_reducible rfl
                   simp only [Act.put, List.setIfInBounds_toArray, List.set_cons_zero, List.set_cons_succ])
                | (refine SeqS.take2 (v := undef) (by first | assumption | trivial) (by kernel_rfl) (by decide +kernel) (by decide +kernel) (Or.inr ⟨by rfl, rfl⟩) ?_
                   simp only [Act.put, List.setIfInBounds_toArray, List.set_cons_zero, List.set_cons_succ])
                | (refine SeqS.take3 (v := ?_) (by first | assumption | trivial) (by kernel_rfl) (by decide +kernel) (by decide +kernel) (Or.inl ⟨by rfl, ?_⟩) ?_
                   rotate_left
                   focus
                     intro w' hb'
                     go_simp
                     with_reducible rfl
                   simp only [Act.put, List.setIfInBounds_toArray, List.set_cons_zero, List.set_cons_succ])
                | (refine SeqS.take3 (v := undef) (by first | assumption | trivial) (by kernel_rfl) (by decide +kernel) (by decide +kernel) (Or.inr ⟨by rfl, rfl⟩) ?_
                   simp only [Act.put, List.setIfInBounds_toArray, List.set_cons_zero, List.set_cons_succ])
                | (refine SeqS.take4 (v := ?_) (by first | assumption | trivial) (by kernel_rfl) (by decide +kernel) (by decide +kernel) (Or.inl ⟨by rfl, ?_⟩) ?_
                   rotate_left
                   focus
                     intro w' hb'
                     go_simp
                     with_reducible rfl
                   simp only [Act.put, List.setIfInBounds_toArray, List.set_cons_zero, List.set_cons_succ])
                | (refine SeqS.take4 (v := undef) (by first | assumption | trivial) (by kernel_rfl) (by decide +kernel) (by decide +kernel) (Or.inr ⟨by rfl, rfl⟩) ?_
                   simp only [Act.put, List.setIfInBounds_toArray, List.set_cons_zero, List.set_cons_succ])
                | (refine SeqS.take5 (v := ?_) (by first | assumption | trivial) (by kernel_rfl) (by decide +kernel) (by decide +kernel) (Or.inl ⟨by rfl, ?_⟩) ?_
                   rotate_left
                   focus
                     intro w' hb'
                     go_simp
                     with_reducible rfl
                   simp only [Act.put, List.setIfInBounds_toArray, List.set_cons_zero, List.set_cons_succ])
                | (refine SeqS.take5 (v := undef) (by first | assumption | trivial) (by kernel_rfl) (by decide +kernel) (by decide +kernel) (Or.inr ⟨by rfl, rfl⟩) ?_
                   simp only [Act.put, List.setIfInBounds_toArray, List.set_cons_zero, List.set_cons_succ])
                | (refine SeqS.take6 (v := ?_) (by first | assumption | trivial) (by kernel_rfl) (by decide +kernel) (by decide +kernel) (Or.inl ⟨by rfl, ?_⟩) ?_
                   rotate_left
                   focus
                     intro w' hb'
                     go_simp
                     with_reducible rfl
                   simp only [Act.put, List.setIfInBounds_toArray, List.set_cons_zero, List.set_cons_succ])
                | (refine SeqS.take6 (v := undef) (by first | assumption | trivial) (by kernel_rfl) (by decide +kernel) (by decide +kernel) (Or.inr ⟨by rfl, rfl⟩) ?_
                   simp only [Act.put, List.setIfInBounds_toArray, List.set_cons_zero, List.set_cons_succ]))
              refine SeqS.alone (by decide +kernel) (by rfl) (fun K hK => ?_)
              go_simp
              go_at_call 8
              refine (AL.out _ b12).mono ?_
              rintro e w13 ⟨rfl, b13⟩
              go_simp
              have S13 : Below w11.heap.size w11 w13 := b12.trans (b13.mono b12.size)
              refine hK _ _ S13 ?_
              clear hK K
              repeat (first
                | (refine SeqS.take (v := ?_) (by first | assumption | trivial) (by kernel_rfl) (by decide +kernel) (by decide +kernel) (Or.inl ⟨by rfl, ?_⟩) ?_
                   rotate_left
                   focus
                     intro w' hb'
                     go_simp
                     with_reducible rfl
                   simp only [Act.put, List.setIfInBounds_toArray, List.set_cons_zero, List.set_cons_succ])
                | (refine SeqS.take (v := undef) (by first | assumption | trivial) (by kernel_rfl) (by decide +kernel) (by decide +kernel) (Or.inr ⟨by rfl, rfl⟩) ?_
                   simp only [Act.put, List.setIfInBounds_toArray, List.set_cons_zero, List.set_cons_succ])
                | (refine SeqS.take1 (v := ?_) (by first | assumption | trivial) (by kernel_rfl) (by decide +kernel) (by decide +kernel) (Or.inl ⟨by rfl, ?_⟩) ?_
                   rotate_left
                   focus
                     intro w' hb'
                     go_simp
                     with_reducible rfl
                   simp only [Act.put, List.setIfInBounds_toArray, List.set_cons_zero, List.set_cons_succ])
                | (refine SeqS.take1 (v := undef) (by first | assumption | trivial) (by kernel_rfl) (by decide +kernel) (by decide +kernel) (Or.inr ⟨by rfl, rfl⟩) ?_
                   simp only [Act.put, List.setIfInBounds_toArray, List.set_cons_zero, List.set_cons_succ])
                | (refine SeqS.take2 (v := ?_) (by first | assumption | trivial) (by kernel_rfl) (by decide +kernel) (by decide +kernel) (Or.inl ⟨by rfl, ?_⟩) ?_
                   rotate_left
                   focus
                     intro w' hb'
                     go_simp
                     with_reducible rfl
                   simp only [Act.put, List.setIfInBounds_toArray, List.set_cons_zero, List.set_cons_succ])
                | (refine SeqS.take2 (v := undef) (by first | assumption | trivial) (by kernel_rfl) (by decide +kernel) (by decide +kernel) (Or.inr ⟨by rfl, rfl⟩) ?_
                   simp only [Act.put, List.setIfInBounds_toArray, List.set_cons_zero, List.set_cons_succ]))
              refine SeqS.done (by decide +kernel) ?_
              have B13 := BH.out.trans (S13.mono BH.out.size)
              clear S13 b12 b13 AL BH
              go_wp2
              go_ret
              exact ⟨rfl, B13⟩
            · dsimp only
              have hmn : m < n := by have := (List.getElem?_eq_some_iff.1 ht).1; have := hnH.out.1; omega
              have hmi : (m : Int) < (n : Int) := by omega
              obtain ⟨lg, lo, rfl, _⟩ : ∃ lg lo, lb = some ⟨lg, lo, none⟩ ∧ True := by
                rcases hL11.2.2 with h0 | ⟨lg, lo, h, _⟩
                · omega
                · exact ⟨lg, lo, h, trivial⟩
              have hlr := ids_range hL11 hnH.out.1 ht
              rw [hty, hyH.out.2] at hlr
              have hq := idEq13 y y hyH.out.1 hyH.out.1
              rw [decide_eq_true rfl, hyH.out.2] at hq
              have YR := Lib.hid (fun w' (h : Below w11.heap.size w11 w') => (fun q u hq => by
                have h1 := hlr q u hq
                rw [h.cell (World.block_lt_of_cell? w11 _ h1)]
                exact h1 : w'.rangeAt lg (lo + m * 32) Y))
              have IB := Lib.hid (fun w' (h : Below w11.heap.size w11 w') => hi11.keep h hi11.lt)
              clear hi11 hL11 hB11 hlr hmn ht hty
              go_wp2_with fail
              refine region_seqS (fun w' => Below w11.heap.size w11 w') (by kernel_rfl) b12 ?_
              simp only [pairs, Nat.reduceAdd]
              repeat (first
                | (refine SeqS.take (v := .agg (Y).toArray) (by first | assumption | trivial) (by kernel_rfl) (by decide +kernel) (by decide +kernel) (yields_blk (by rfl) 36 (.tmp 4) rfl rfl (fun w' h => IB.out w' h) (HI)) ?_
                   simp only [Act.put, List.setIfInBounds_toArray, List.set_cons_zero, List.set_cons_succ])
                | (refine SeqS.take (v := .agg (Y).toArray) (by first | assumption | trivial) (by kernel_rfl) (by decide +kernel) (by decide +kernel) (yields_part (by rfl) 36 (.tmp 96) rfl rfl (fun w' h => YR.out w' h) (HI)) ?_
                   simp only [Act.put, List.setIfInBounds_toArray, List.set_cons_zero, List.set_cons_succ])
                | (refine SeqS.take (v := ?_) (by first | assumption | trivial) (by kernel_rfl) (by decide +kernel) (by decide +kernel) (Or.inl ⟨by rfl, ?_⟩) ?_
                   rotate_left
                   focus
                     intro w' hb'
                     go_simp
                     with_reducible rfl
                   simp only [Act.put, List.setIfInBounds_toArray, List.set_cons_zero, List.set_cons_succ])
                | (refine SeqS.take (v := ?_) (by first | assumption | trivial) (by kernel_rfl) (by decide +kernel) (by decide +kernel) (Or.inl ⟨by rfl, ?_⟩) ?_
                   rotate_left
                   focus
                     intro w' hb'
                     have d0 := hq w'
                     go_simp
                     with_reducible rfl
                   simp only [Act.put, List.setIfInBounds_toArray, List.set_cons_zero, List.set_cons_succ])
                | (refine SeqS.take (v := undef) (by first | assumption | trivial) (by kernel_rfl) (by decide +kernel) (by decide +kernel) (Or.inr ⟨by rfl, rfl⟩) ?_
                   simp only [Act.put, List.setIfInBounds_toArray, List.set_cons_zero, List.set_cons_succ])
                | (refine SeqS.take1 (v := .agg (Y).toArray) (by first | assumption | trivial) (by kernel_rfl) (by decide +kernel) (by decide +kernel) (yields_blk (by rfl) 36 (.tmp 4) rfl rfl (fun w' h => IB.out w' h) (HI)) ?_
                   simp only [Act.put, List.setIfInBounds_toArray, List.set_cons_zero, List.set_cons_succ])
                | (refine SeqS.take1 (v := .agg (Y).toArray) (by first | assumption | trivial) (by kernel_rfl) (by decide +kernel) (by decide +kernel) (yields_part (by rfl) 36 (.tmp 96) rfl rfl (fun w' h => YR.out w' h) (HI)) ?_
                   simp only [Act.put, List.setIfInBounds_toArray, List.set_cons_zero, List.set_cons_succ])
                | (refine SeqS.take1 (v := ?_) (by first | assumption | trivial) (by kernel_rfl) (by decide +kernel) (by decide +kernel) (Or.inl ⟨by rfl, ?_⟩) ?_
                   rotate_left
                   focus
                     intro w' hb'
                     go_simp
                     with_reducible rfl
                   simp only [Act.put, List.setIfInBounds_toArray, List.set_cons_zero, List.set_cons_succ])
                | (refine SeqS.take1 (v := ?_) (by first | assumption | trivial) (by kernel_rfl) (by decide +kernel) (by decide +kernel) (Or.inl ⟨by rfl, ?_⟩) ?_
                   rotate_left
                   focus
                     intro w' hb'
                     have d0 := hq w'
                     go_simp
                     with_reducible rfl
                   simp only [Act.put, List.setIfInBounds_toArray, List.set_cons_zero, List.set_cons_succ])
                | (refine SeqS.take1 (v := undef) (by first | assumption | trivial) (by kernel_rfl) (by decide +kernel) (by decide +kernel) (Or.inr ⟨by rfl, rfl⟩) ?_
                   simp only [Act.put, List.setIfInBounds_toArray, List.set_cons_zero, List.set_cons_succ])
                | (refine SeqS.take2 (v := .agg (Y).toArray) (by first | assumption | trivial) (by kernel_rfl) (by decide +kernel) (by decide +kernel) (yields_blk (by rfl) 36 (.tmp 4) rfl rfl (fun w' h => IB.out w' h) (HI)) ?_
                   simp only [Act.put, List.setIfInBounds_toArray, List.set_cons_zero, List.set_cons_succ])
                | (refine SeqS.take2 (v := .agg (Y).toArray) (by first | assumption | trivial) (by kernel_rfl) (by decide +kernel) (by decide +kernel) (yields_part (by rfl) 36 (.tmp 96) rfl rfl (fun w' h => YR.out w' h) (HI)) ?_
                   simp only [Act.put, List.setIfInBounds_toArray, List.set_cons_zero, List.set_cons_succ])
                | (refine SeqS.take2 (v := ?_) (by first | assumption | trivial) (by kernel_rfl) (by decide +kernel) (by decide +kernel) (Or.inl ⟨by rfl, ?_⟩) ?_
                   rotate_left
                   focus
                     intro w' hb'
                     go_simp
                     with_reducible rfl
                   simp only [Act.put, List.setIfInBounds_toArray, List.set_cons_zero, List.set_cons_succ])
                | (refine SeqS.take2 (v := ?_) (by first | assumption | trivial) (by kernel_rfl) (by decide +kernel) (by decide +kernel) (Or.inl ⟨by rfl, ?_⟩) ?_
                   rotate_left
                   focus
                     intro w' hb'
                     have d0 := hq w'
                     go_simp
                     with_reducible rfl
                   simp only [Act.put, List.setIfInBounds_toArray, List.set_cons_zero, List.set_cons_succ])
                | (refine SeqS.take2 (v := undef) (by first | assumption | trivial) (by kernel_rfl) (by decide +kernel) (by decide +kernel) (Or.inr ⟨by rfl, rfl⟩) ?_
                   simp only [Act.put, List.setIfInBounds_toArray, List.set_cons_zero, List.set_cons_succ])
                | (refine SeqS.take3 (v := .agg (Y).toArray) (by first | assumption | trivial) (by kernel_rfl) (by decide +kernel) (by decide +kernel) (yields_blk (by rfl) 36 (.tmp 4) rfl rfl (fun w' h => IB.out w' h) (HI)) ?_
                   simp only [Act.put, List.setIfInBounds_toArray, List.set_cons_zero, List.set_cons_succ])
                | (refine SeqS.take3 (v := .agg (Y).toArray) (by first | assumption | trivial) (by kernel_rfl) (by decide +kernel) (by decide +kernel) (yields_part (by rfl) 36 (.tmp 96) rfl rfl (fun w' h => YR.out w' h) (HI)) ?_
                   simp only [Act.put, List.setIfInBounds_toArray, List.set_cons_zero, List.set_cons_succ])
                | (refine SeqS.take3 (v := ?_) (by first | assumption | trivial) (by kernel_rfl) (by decide +kernel) (by decide +kernel) (Or.inl ⟨by rfl, ?_⟩) ?_
                   rotate_left
                   focus
                     intro w' hb'
                     go_simp
                     with_reducible rfl
                   simp only [Act.put, List.setIfInBounds_toArray, List.set_cons_zero, List.set_cons_succ])
                | (refine SeqS.take3 (v := ?_) (by first | assumption | trivial) (by kernel_rfl) (by decide +kernel) (by decide +kernel) (Or.inl ⟨by rfl, ?_⟩) ?_
                   rotate_left
                   focus
                     intro w' hb'
                     have d0 := hq w'
                     go_simp
                     with_reducible rfl
                   simp only [Act.put, List.setIfInBounds_toArray, List.set_cons_zero, List.set_cons_succ])
                | (refine SeqS.take3 (v := undef) (by first | assumption | trivial) (by kernel_rfl) (by decide +kernel) (by decide +kernel) (Or.inr ⟨by rfl, rfl⟩) ?_
                   simp only [Act.put, List.setIfInBounds_toArray, List.set_cons_zero, List.set_cons_succ])
                | (refine SeqS.take4 (v := .agg (Y).toArray) (by first | assumption | trivial) (by kernel_rfl) (by decide +kernel) (by decide +kernel) (yields_blk (by rfl) 36 (.tmp 4) rfl rfl (fun w' h => IB.out w' h) (HI)) ?_
                   simp only [Act.put, List.setIfInBounds_toArray, List.set_cons_zero, List.set_cons_succ])
                | (refine SeqS.take4 (v := .agg (Y).toArray) (by first | assumption | trivial) (by kernel_rfl) (by decide +kernel) (by decide +kernel) (yields_part (by rfl) 36 (.tmp 96) rfl rfl (fun w' h => YR.out w' h) (HI)) ?_
                   simp only [Act.put, List.setIfInBounds_toArray, List.set_cons_zero, List.set_cons_succ])
                | (refine SeqS.take4 (v := ?_) (by first | assumption | trivial) (by kernel_rfl) (by decide +kernel) (by decide +kernel) (Or.inl ⟨by rfl, ?_⟩) ?_
                   rotate_left
                   focus
                     intro w' hb'
                     go_simp
                     with_reducible rfl
                   simp only [Act.put, List.setIfInBounds_toArray, List.set_cons_zero, List.set_cons_succ])
                | (refine SeqS.take4 (v := ?_) (by first | assumption | trivial) (by kernel_rfl) (by decide +kernel) (by decide +kernel) (Or.inl ⟨by rfl, ?_⟩) ?_
                   rotate_left
                   focus
                     intro w' hb'
                     have d0 := hq w'
                     go_simp
                     with_reducible rfl
                   simp only [Act.put, List.setIfInBounds_toArray, List.set_cons_zero, List.set_cons_succ])
                | (refine SeqS.take4 (v := undef) (by first | assumption | trivial) (by kernel_rfl) (by decide +kernel) (by decide +kernel) (Or.inr ⟨by rfl, rfl⟩) ?_
                   simp only [Act.put, List.setIfInBounds_toArray, List.set_cons_zero, List.set_cons_succ])
                | (refine SeqS.take5 (v := .agg (Y).toArray) (by first | assumption | trivial) (by kernel_rfl) (by decide +kernel) (by decide +kernel) (yields_blk (by rfl) 36 (.tmp 4) rfl rfl (fun w' h => IB.out w' h) (HI)) ?_
                   simp only [Act.put, List.setIfInBounds_toArray, List.set_cons_zero, List.set_cons_succ])
                | (refine SeqS.take5 (v := .agg (Y).toArray) (by first | assumption | trivial) (by kernel_rfl) (by decide +kernel) (by decide +kernel) (yields_part (by rfl) 36 (.tmp 96) rfl rfl (fun w' h => YR.out w' h) (HI)) ?_
                   simp only [Act.put, List.setIfInBounds_toArray, List.set_cons_zero, List.set_cons_succ])
                | (refine SeqS.take5 (v := ?_) (by first | assumption | trivial) (by kernel_rfl) (by decide +kernel) (by decide +kernel) (Or.inl ⟨by rfl, ?_⟩) ?_
                   rotate_left
                   focus
                     intro w' hb'
                     go_simp
                     with_reducible rfl
                   simp only [Act.put, List.setIfInBounds_toArray, List.set_cons_zero, List.set_cons_succ])
                | (refine SeqS.take5 (v := ?_) (by first | assumption | trivial) (by kernel_rfl) (by decide +kernel) (by decide +kernel) (Or.inl ⟨by rfl, ?_⟩) ?_
                   rotate_left
                   focus
                     intro w' hb'
                     have d0 := hq w'
                     go_simp
                     with_reducible rfl
                   simp only [Act.put, List.setIfInBounds_toArray, List.set_cons_zero, List.set_cons_succ])
                | (refine SeqS.take5 (v := undef) (by first | assumption | trivial) (by kernel_rfl) (by decide +kernel) (by decide +kernel) (Or.inr ⟨by rfl, rfl⟩) ?_
                   simp only [Act.put, List.setIfInBounds_toArray, List.set_cons_zero, List.set_cons_succ])
                | (refine SeqS.take6 (v := .agg (Y).toArray) (by first | assumption | trivial) (by kernel_rfl) (by decide +kernel) (by decide +kernel) (yields_blk (by rfl) 36 (.tmp 4) rfl rfl (fun w' h => IB.out w' h) (HI)) ?_
                   simp only [Act.put, List.setIfInBounds_toArray, List.set_cons_zero, List.set_cons_succ])
                | (refine SeqS.take6 (v := .agg (Y).toArray) (by first | assumption | trivial) (by kernel_rfl) (by decide +kernel) (by decide +kernel) (yields_part (by rfl) 36 (.tmp 96) rfl rfl (fun w' h => YR.out w' h) (HI)) ?_
                   simp only [Act.put, List.setIfInBounds_toArray, List.set_cons_zero, List.set_cons_succ])
                | (refine SeqS.take6 (v := ?_) (by first | assumption | trivial) (by kernel_rfl) (by decide +kernel) (by decide +kernel) (Or.inl ⟨by rfl, ?_⟩) ?_
                   rotate_left
                   focus
                     intro w' hb'
                     go_simp
                     with_reducible rfl
                   simp only [Act.put, List.setIfInBounds_toArray, List.set_cons_zero, List.set_cons_succ])
                | (refine SeqS.take6 (v := ?_) (by first | assumption | trivial) (by kernel_rfl) (by decide +kernel) (by decide +kernel) (Or.inl ⟨by rfl, ?_⟩) ?_
                   rotate_left
                   focus
                     intro w' hb'
                     have d0 := hq w'
                     go_simp
                     with_reducible rfl
                   simp only [Act.put, List.setIfInBounds_toArray, List.set_cons_zero, List.set_cons_succ])
                | (refine SeqS.take6 (v := undef) (by first | assumption | trivial) (by kernel_rfl) (by decide +kernel) (by decide +kernel) (Or.inr ⟨by rfl, rfl⟩) ?_
                   simp only [Act.put, List.setIfInBounds_toArray, List.set_cons_zero, List.set_cons_succ]))
              refine SeqS.alone (by decide +kernel) (by rfl) (fun K hK => ?_)
              go_simp
              go_at_call 8
              refine (AL.out _ b12).mono ?_
              rintro e w13 ⟨rfl, b13⟩
              go_simp
              have S13 : Below w11.heap.size w11 w13 := b12.trans (b13.mono b12.size)
              refine hK _ _ S13 ?_
              clear hK K
              repeat (first
                | (refine SeqS.take (v := ?_) (by first | assumption | trivial) (by kernel_rfl) (by decide +kernel) (by decide +kernel) (Or.inl ⟨by rfl, ?_⟩) ?_
                   rotate_left
                   focus
                     intro w' hb'
                     go_simp
                     with_reducible rfl
                   simp only [Act.put, List.setIfInBounds_toArray, List.set_cons_zero, List.set_cons_succ])
                | (refine SeqS.take (v := undef) (by first | assumption | trivial) (by kernel_rfl) (by decide +kernel) (by decide +kernel) (Or.inr ⟨by rfl, rfl⟩) ?_
                   simp only [Act.put, List.setIfInBounds_toArray, List.set_cons_zero, List.set_cons_succ])
                | (refine SeqS.take1 (v := ?_) (by first | assumption | trivial) (by kernel_rfl) (by decide +kernel) (by decide +kernel) (Or.inl ⟨by rfl, ?_⟩) ?_
                   rotate_left
                   focus
                     intro w' hb'
                     go_simp
                     with_reducible rfl
                   simp only [Act.put, List.setIfInBounds_toArray, List.set_cons_zero, List.set_cons_succ])
                | (refine SeqS.take1 (v := undef) (by first | assumption | trivial) (by kernel_rfl) (by decide +kernel) (by decide +kernel) (Or.inr ⟨by rfl, rfl⟩) ?_
                   simp only [Act.put, List.setIfInBounds_toArray, List.set_cons_zero, List.set_cons_succ])
                | (refine SeqS.take2 (v := ?_) (by first | assumption | trivial) (by kernel_rfl) (by decide +kernel) (by decide +kernel) (Or.inl ⟨by rfl, ?_⟩) ?_
                   rotate_left
                   focus
                     intro w' hb'
                     go_simp
                     with_reducible rfl
                   simp only [Act.put, List.setIfInBounds_toArray, List.set_cons_zero, List.set_cons_succ])
                | (refine SeqS.take2 (v := undef) (by first | assumption | trivial) (by kernel_rfl) (by decide +kernel) (by decide +kernel) (Or.inr ⟨by rfl, rfl⟩) ?_
                   simp only [Act.put, List.setIfInBounds_toArray, List.set_cons_zero, List.set_cons_succ]))
              refine SeqS.done (by decide +kernel) ?_
              have B13 := BH.out.trans (S13.mono BH.out.size)
              clear S13 b12 b13 AL BH YR IB hq
              go_wp2
              go_ret
              exact ⟨rfl, B13⟩
      | true =>
        obtain ⟨k, hk0⟩ : ∃ k : Nat, A / 2 % 256 % n = k := ⟨_, rfl⟩
        have hkn : k < n := by rw [← hk0]; exact Nat.mod_lt _ (by omega)
        have hkz : (A : Int) / 2 % 256 % (n : Int) = (k : Int) := by rw [← hk0]; simp
        have hki : (k : Int) < (n : Int) := by omega
        obtain ⟨t, ht⟩ : ∃ t, ts[k]? = some t := ⟨ts[k]'(by have := hnH.out.1; omega), List.getElem?_eq_getElem _⟩
        obtain ⟨lg, lo, rfl, _⟩ : ∃ lg lo, lb = some ⟨lg, lo, none⟩ ∧ True := by
          rcases hL.2.2 with h0 | ⟨lg, lo, h, _⟩
          · omega
          · exact ⟨lg, lo, h, trivial⟩
        have hlr := ids_range hL hnH.out.1 ht
        obtain ⟨y, hy⟩ : ∃ y, shaSum t.2 = y := ⟨_, rfl⟩
        have hy32 : y.length = 32 := by rw [← hy]; exact shaSum_length _
        rw [hy] at hlr
        obtain ⟨Y, hY⟩ : ∃ Y, y.map (Value.int .u8) = Y := ⟨_, rfl⟩
        rw [hY] at hlr
        have hyH : Hid (y.length = 32 ∧ y.map (Value.int .u8) = Y) := Lib.hid ⟨hy32, hY⟩
        have hYYY : Y.length = 32 := by rw [← hY, List.length_map, hy32]
        have hYY := Lib.hid hYYY
        have HY : IsRow Tryd.prog 36 Y.length := by rw [hYYY]; exact rowId
        have HO1 := Lib.hid (show ∀ v ∈ Y, v.oneCell' = true by rw [← hY]; exact ints_oneCell' _ _)
        have HOF := Lib.hid (show 0 + Y.length ≤ X.length by rw [hYYY, hXX]; decide)
        have hov := Lib.hid (overV_all X Y (by rw [hYYY, hXX]))
        clear h0 hk0 hkn hy32 hY hy ht hXX hYYY HI
        go_wp2_with (first
          | ((with_reducible refine wpList_load_part rfl 36 (.tmp 41) rfl ?_ Y hlr HY ?_); rfl)
          | ((with_reducible refine wpList_store_part rfl 36 (.tmp 4) (.tmp 42) rfl ?_ ?_ hi2 HY HOF.out HO1.out ?_); rfl; rfl; intro w3 hi3 hg3; refine RowKit.Hid.out ?_))
        refine Lib.hid ?_
        rw [hov.out] at hi3
        have hIG : I ≠ G := by have := hIH.out; have := hGH.out; omega
        have hk2 := hk2.grown hg3 (fun e => hIG (by injection e with e; exact e.symm))
        have B2 := B2.trans (below_of_grown hg3 (by have := hIH.out; omega) hi2.lt)
        have hL := hL.grown hg3 (fun x hx e => hlI.out x hx (by injection e))
        have hi2 := hi3
        obtain ⟨w2, hw2⟩ : ∃ W, w3 = W := ⟨_, rfl⟩
        rw [hw2] at hk2 hi2 hL B2 ⊢
        have HI := HY
        have k2 := hk2.cell 0
        clear hw2 hg3 hi3 hlr HO1 HOF hov hkz hki hA2 h0i hIG hlI
        go_wp2_with fail
        obtain ⟨lb, hlb⟩ : ∃ lb : Option Addr, some (⟨lg, lo, none⟩ : Addr) = lb := ⟨_, rfl⟩
        rw [hlb] at hL ⊢
        clear hlb
        go_loopw [46] (fun i wr => ∃ j : Nat, j ≤ n ∧ i = .int .i64 j ∧ Blk wr G 24 [.slice a n c] ∧ Blk wr I 36 Y ∧ IdsAt wr lb n ld (idsL ts) ∧ Below w.heap.size w wr) (fun i _ => n - (intOf i).toNat)
        case atStart => exact ⟨0, Nat.zero_le _, rfl, hk2, hi2, hL, B2⟩
        case round =>
          clear hk2 hi2 hL B2
          obtain ⟨j, hj, rfl, hk, hi, hL, hB⟩ := hrel
          by_cases hlt : j < n
          · have hji : (j : Int) < (n : Int) := by omega
            obtain ⟨b, off, t, T, d, rfl, ht, c0, c1, hI, hrg⟩ := (TK.out wr hB).get j hlt
            obtain ⟨lg, lo, rfl, _⟩ : ∃ lg lo, lb = some ⟨lg, lo, none⟩ ∧ True := by
              rcases hL.2.2 with h0 | ⟨lg, lo, h, _⟩
              · omega
              · exact ⟨lg, lo, h, trivial⟩
            have hlr := ids_range hL hnH.out.1 ht
            have rt := hrH.out t (List.mem_of_getElem? ht)
            have htl := hsmH.out.2 t (List.mem_of_getElem? ht)
            have hq := idEq13 (shaSum t.2) (shaSum t.2) (shaSum_length _) (shaSum_length _)
            rw [decide_eq_true rfl] at hq
            have rc := Lib.hid (fun w' (h : Below wr.heap.size wr w') => r13ID_any T t.2.length d t.2 w' (hI.keep h) rt.ok htl)
            have pc := Lib.hid (fun w' (h : Below wr.heap.size wr w') => ppTxID_any T t.2.length d t.2 w' (gl.out w' (hB.trans (h.mono hB.size))) (hI.keep h) rt.ok htl)
            have hZZ : ((shaSum t.2).map (Value.int .u8)).length = 32 := by rw [List.length_map, shaSum_length]
            obtain ⟨Z, hZ⟩ : ∃ Z, (shaSum t.2).map (Value.int .u8) = Z := ⟨_, rfl⟩
            rw [hZ] at hq rc pc hlr hZZ
            have HZ : IsRow Tryd.prog 36 Z.length := by rw [hZZ]; exact rowId
            obtain ⟨L, hLe⟩ : ∃ L, t.2.length = L := ⟨_, rfl⟩
            obtain ⟨f, hf⟩ : ∃ f, t.1 = f := ⟨_, rfl⟩
            rw [hLe] at c1 hrg rc pc
            rw [hf] at c0 hrg
            have hltH := Lib.hid hlt
            have hold := Lib.hid (And.intro hk (And.intro hi (And.intro hL hB)))
            have hlrH := Lib.hid hlr
            clear hlt hj hI rt htl hZ hLe hf ht hk hi hL hB hZZ hlr
            go_wp2_with fail
            obtain ⟨H, hH⟩ : ∃ H, wr.heap.size = H := ⟨_, rfl⟩
            obtain ⟨V, hV⟩ : ∃ V, wr.alloc (.cells #[.int .u32 f, .slice T L d] 41) = V := ⟨_, rfl⟩
            have hN : Blk V H 41 [.int .u32 f, .slice T L d] := by rw [← hV, ← hH]; exact Blk.new wr _ _
            have bV : Below wr.heap.size wr V := by rw [← hV]; exact below1 wr _
            rw [hV, hH]
            have b1 : Below V.heap.size V V.drew := (Below.refl _ _).drew
            have bW := Lib.hid (fun w' (h : Below V.heap.size V w') => bV.trans (h.mono bV.size))
            have l1 := Lib.hid hN.lt
            have e1 := Lib.hid (hN.cell 1)
            have hlv : V.rangeAt lg (lo + j * 32) Z := fun q u hq => by
              have h1 := hlrH.out q u hq
              rw [bV.cell (World.block_lt_of_cell? wr _ h1)]
              exact h1
            have ZR := Lib.hid (fun w' (h : Below V.heap.size V w') => (fun q u hq => by
              have h1 := hlv q u hq
              rw [h.cell (World.block_lt_of_cell? V _ h1)]
              exact h1 : w'.rangeAt lg (lo + j * 32) Z))
            have hng := noGuard13
            clear hV hH c0 c1 hrg hN hlv hlrH
            refine region_seqS (fun w' => Below V.heap.size V w') (by kernel_rfl) b1 ?_
            simp only [pairs, Nat.reduceAdd]
            repeat (first
              | (refine SeqS.take (v := .agg (Z).toArray) (by first | assumption | trivial) (by kernel_rfl) (by decide +kernel) (by decide +kernel) (yields_part (by rfl) 36 (.tmp 53) rfl rfl (fun w' h => ZR.out w' h) (HZ)) ?_
                 simp only [Act.put, List.setIfInBounds_toArray, List.set_cons_zero, List.set_cons_succ])
              | (refine SeqS.take (v := ?_) (by first | assumption | trivial) (by kernel_rfl) (by decide +kernel) (by decide +kernel) (Or.inl ⟨by rfl, ?_⟩) ?_
                 rotate_left
                 focus
                   intro w' hb'
                   go_simp
                   with_reducible rfl
                 simp only [Act.put, List.setIfInBounds_toArray, List.set_cons_zero, List.set_cons_succ])
              | (refine SeqS.take (v := ?_) (by first | assumption | trivial) (by kernel_rfl) (by decide +kernel) (by decide +kernel) (Or.inl ⟨by rfl, ?_⟩) ?_
                 rotate_left
                 focus
                   intro w' hb'
                   have d0 : w'.cell? ⟨H, 1, none⟩ = some (.slice T L d) := (hb'.cell l1.out).trans e1.out
                   go_simp
                   with_reducible rfl
                 simp only [Act.put, List.setIfInBounds_toArray, List.set_cons_zero, List.set_cons_succ])
              | (refine SeqS.take (v := undef) (by first | assumption | trivial) (by kernel_rfl) (by decide +kernel) (by decide +kernel) (Or.inr ⟨by rfl, rfl⟩) ?_
                 simp only [Act.put, List.setIfInBounds_toArray, List.set_cons_zero, List.set_cons_succ])
              | (refine SeqS.take1 (v := .agg (Z).toArray) (by first | assumption | trivial) (by kernel_rfl) (by decide +kernel) (by decide +kernel) (yields_part (by rfl) 36 (.tmp 53) rfl rfl (fun w' h => ZR.out w' h) (HZ)) ?_
                 simp only [Act.put, List.setIfInBounds_toArray, List.set_cons_zero, List.set_cons_succ])
              | (refine SeqS.take1 (v := ?_) (by first | assumption | trivial) (by kernel_rfl) (by decide +kernel) (by decide +kernel) (Or.inl ⟨by rfl, ?_⟩) ?_
                 rotate_left
                 focus
                   intro w' hb'
                   go_simp
                   with_reducible rfl
                 simp only [Act.put, List.setIfInBounds_toArray, List.set_cons_zero, List.set_cons_succ])
              | (refine SeqS.take1 (v := ?_) (by first | assumption | trivial) (by kernel_rfl) (by decide +kernel) (by decide +kernel) (Or.inl ⟨by rfl, ?_⟩) ?_
                 rotate_left
                 focus
                   intro w' hb'
                   have d0 : w'.cell? ⟨H, 1, none⟩ = some (.slice T L d) := (hb'.cell l1.out).trans e1.out
                   go_simp
                   with_reducible rfl
                 simp only [Act.put, List.setIfInBounds_toArray, List.set_cons_zero, List.set_cons_succ])
              | (refine SeqS.take1 (v := undef) (by first | assumption | trivial) (by kernel_rfl) (by decide +kernel) (by decide +kernel) (Or.inr ⟨by rfl, rfl⟩) ?_
                 simp only [Act.put, List.setIfInBounds_toArray, List.set_cons_zero, List.set_cons_succ])
              | (refine SeqS.take2 (v := .agg (Z).toArray) (by first | assumption | trivial) (by kernel_rfl) (by decide +kernel) (by decide +kernel) (yields_part (by rfl) 36 (.tmp 53) rfl rfl (fun w' h => ZR.out w' h) (HZ)) ?_
                 simp only [Act.put, List.setIfInBounds_toArray, List.set_cons_zero, List.set_cons_succ])
              | (refine SeqS.take2 (v := ?_) (by first | assumption | trivial) (by kernel_rfl) (by decide +kernel) (by decide +kernel) (Or.inl ⟨by rfl, ?_⟩) ?_
                 rotate_left
                 focus
                   intro w' hb'
                   go_simp
                   with_reducible rfl
                 simp only [Act.put, List.setIfInBounds_toArray, List.set_cons_zero, List.set_cons_succ])
              | (refine SeqS.take2 (v := ?_) (by first | assumption | trivial) (by kernel_rfl) (by decide +kernel) (by decide +kernel) (Or.inl ⟨by rfl, ?_⟩) ?_
                 rotate_left
                 focus
                   intro w' hb'
                   have d0 : w'.cell? ⟨H, 1, none⟩ = some (.slice T L d) := (hb'.cell l1.out).trans e1.out
                   go_simp
                   with_reducible rfl
                 simp only [Act.put, List.setIfInBounds_toArray, List.set_cons_zero, List.set_cons_succ])
              | (refine SeqS.take2 (v := undef) (by first | assumption | trivial) (by kernel_rfl) (by decide +kernel) (by decide +kernel) (Or.inr ⟨by rfl, rfl⟩) ?_
                 simp only [Act.put, List.setIfInBounds_toArray, List.set_cons_zero, List.set_cons_succ])
              | (refine SeqS.take3 (v := .agg (Z).toArray) (by first | assumption | trivial) (by kernel_rfl) (by decide +kernel) (by decide +kernel) (yields_part (by rfl) 36 (.tmp 53) rfl rfl (fun w' h => ZR.out w' h) (HZ)) ?_
                 simp only [Act.put, List.setIfInBounds_toArray, List.set_cons_zero, List.set_cons_succ])
              | (refine SeqS.take3 (v := ?_) (by first | assumption | trivial) (by kernel_rfl) (by decide +kernel) (by decide +kernel) (Or.inl ⟨by rfl, ?_⟩) ?_
                 rotate_left
                 focus
                   intro w' hb'
                   go_simp
                   with_reducible rfl
                 simp only [Act.put, List.setIfInBounds_toArray, List.set_cons_zero, List.set_cons_succ])
              | (refine SeqS.take3 (v := ?_) (by first | assumption | trivial) (by kernel_rfl) (by decide +kernel) (by decide +kernel) (Or.inl ⟨by rfl, ?_⟩) ?_
                 rotate_left
                 focus
                   intro w' hb'
                   have d0 : w'.cell? ⟨H, 1, none⟩ = some (.slice T L d) := (hb'.cell l1.out).trans e1.out
                   go_simp
                   with_reducible rfl
                 simp only [Act.put, List.setIfInBounds_toArray, List.set_cons_zero, List.set_cons_succ])
              | (refine SeqS.take3 (v := undef) (by first | assumption | trivial) (by kernel_rfl) (by decide +kernel) (by decide +kernel) (Or.inr ⟨by rfl, rfl⟩) ?_
                 simp only [Act.put, List.setIfInBounds_toArray, List.set_cons_zero, List.set_cons_succ])
              | (refine SeqS.take4 (v := .agg (Z).toArray) (by first | assumption | trivial) (by kernel_rfl) (by decide +kernel) (by decide +kernel) (yields_part (by rfl) 36 (.tmp 53) rfl rfl (fun w' h => ZR.out w' h) (HZ)) ?_
                 simp only [Act.put, List.setIfInBounds_toArray, List.set_cons_zero, List.set_cons_succ])
              | (refine SeqS.take4 (v := ?_) (by first | assumption | trivial) (by kernel_rfl) (by decide +kernel) (by decide +kernel) (Or.inl ⟨by rfl, ?_⟩) ?_
                 rotate_left
                 focus
                   intro w' hb'
                   go_simp
                   with_reducible rfl
                 simp only [Act.put, List.setIfInBounds_toArray, List.set_cons_zero, List.set_cons_succ])
              | (refine SeqS.take4 (v := ?_) (by first | assumption | trivial) (by kernel_rfl) (by decide +kernel) (by decide +kernel) (Or.inl ⟨by rfl, ?_⟩) ?_
                 rotate_left
                 focus
                   intro w' hb'
                   have d0 : w'.cell? ⟨H, 1, none⟩ = some (.slice T L d) := (hb'.cell l1.out).trans e1.out
                   go_simp
                   with_reducible rfl
                 simp only [Act.put, List.setIfInBounds_toArray, List.set_cons_zero, List.set_cons_succ])
              | (refine SeqS.take4 (v := undef) (by first | assumption | trivial) (by kernel_rfl) (by decide +kernel) (by decide +kernel) (Or.inr ⟨by rfl, rfl⟩) ?_
                 simp only [Act.put, List.setIfInBounds_toArray, List.set_cons_zero, List.set_cons_succ])
              | (refine SeqS.take5 (v := .agg (Z).toArray) (by first | assumption | trivial) (by kernel_rfl) (by decide +kernel) (by decide +kernel) (yields_part (by rfl) 36 (.tmp 53) rfl rfl (fun w' h => ZR.out w' h) (HZ)) ?_
                 simp only [Act.put, List.setIfInBounds_toArray, List.set_cons_zero, List.set_cons_succ])
              | (refine SeqS.take5 (v := ?_) (by first | assumption | trivial) (by kernel_rfl) (by decide +kernel) (by decide +kernel) (Or.inl ⟨by rfl, ?_⟩) ?_
                 rotate_left
                 focus
                   intro w' hb'
                   go_simp
                   with_reducible rfl
                 simp only [Act.put, List.setIfInBounds_toArray, List.set_cons_zero, List.set_cons_succ])
              | (refine SeqS.take5 (v := ?_) (by first | assumption | trivial) (by kernel_rfl) (by decide +kernel) (by decide +kernel) (Or.inl ⟨by rfl, ?_⟩) ?_
                 rotate_left
                 focus
                   intro w' hb'
                   have d0 : w'.cell? ⟨H, 1, none⟩ = some (.slice T L d) := (hb'.cell l1.out).trans e1.out
                   go_simp
                   with_reducible rfl
                 simp only [Act.put, List.setIfInBounds_toArray, List.set_cons_zero, List.set_cons_succ])
              | (refine SeqS.take5 (v := undef) (by first | assumption | trivial) (by kernel_rfl) (by decide +kernel) (by decide +kernel) (Or.inr ⟨by rfl, rfl⟩) ?_
                 simp only [Act.put, List.setIfInBounds_toArray, List.set_cons_zero, List.set_cons_succ])
              | (refine SeqS.take6 (v := .agg (Z).toArray) (by first | assumption | trivial) (by kernel_rfl) (by decide +kernel) (by decide +kernel) (yields_part (by rfl) 36 (.tmp 53) rfl rfl (fun w' h => ZR.out w' h) (HZ)) ?_
                 simp only [Act.put, List.setIfInBounds_toArray, List.set_cons_zero, List.set_cons_succ])
              | (refine SeqS.take6 (v := ?_) (by first | assumption | trivial) (by kernel_rfl) (by decide +kernel) (by decide +kernel) (Or.inl ⟨by rfl, ?_⟩) ?_
                 rotate_left
                 focus
                   intro w' hb'
                   go_simp
                   with_reducible rfl
                 simp only [Act.put, List.setIfInBounds_toArray, List.set_cons_zero, List.set_cons_succ])
              | (refine SeqS.take6 (v := ?_) (by first | assumption | trivial) (by kernel_rfl) (by decide +kernel) (by decide +kernel) (Or.inl ⟨by rfl, ?_⟩) ?_
                 rotate_left
                 focus
                   intro w' hb'
                   have d0 : w'.cell? ⟨H, 1, none⟩ = some (.slice T L d) := (hb'.cell l1.out).trans e1.out
                   go_simp
                   with_reducible rfl
                 simp only [Act.put, List.setIfInBounds_toArray, List.set_cons_zero, List.set_cons_succ])
              | (refine SeqS.take6 (v := undef) (by first | assumption | trivial) (by kernel_rfl) (by decide +kernel) (by decide +kernel) (Or.inr ⟨by rfl, rfl⟩) ?_
                 simp only [Act.put, List.setIfInBounds_toArray, List.set_cons_zero, List.set_cons_succ]))
            refine SeqS.alone (by decide +kernel) (by rfl) (fun K hK => ?_)
            go_simp
            go_at_call 17
            refine (rc.out _ (bW.out _ b1)).mono ?_
            rintro e w3 ⟨rfl, b3⟩
            go_simp
            have S3 : Below V.heap.size V w3 := b1.trans (b3.mono b1.size)
            refine hK _ _ S3 ?_
            clear hK K
            repeat (first
              | (refine SeqS.take (v := .agg (Z).toArray) (by first | assumption | trivial) (by kernel_rfl) (by decide +kernel) (by decide +kernel) (yields_part (by rfl) 36 (.tmp 65) rfl rfl (fun w' h => ZR.out w' h) (HZ)) ?_
                 simp only [Act.put, List.setIfInBounds_toArray, List.set_cons_zero, List.set_cons_succ])
              | (refine SeqS.take (v := ?_) (by first | assumption | trivial) (by kernel_rfl) (by decide +kernel) (by decide +kernel) (Or.inl ⟨by rfl, ?_⟩) ?_
                 rotate_left
                 focus
                   intro w' hb'
                   go_simp
                   with_reducible rfl
                 simp only [Act.put, List.setIfInBounds_toArray, List.set_cons_zero, List.set_cons_succ])
              | (refine SeqS.take (v := ?_) (by first | assumption | trivial) (by kernel_rfl) (by decide +kernel) (by decide +kernel) (Or.inl ⟨by rfl, ?_⟩) ?_
                 rotate_left
                 focus
                   intro w' hb'
                   have d0 := hq w'
                   go_simp
                   with_reducible rfl
                 simp only [Act.put, List.setIfInBounds_toArray, List.set_cons_zero, List.set_cons_succ])
              | (refine SeqS.take (v := ?_) (by first | assumption | trivial) (by kernel_rfl) (by decide +kernel) (by decide +kernel) (Or.inl ⟨by rfl, ?_⟩) ?_
                 rotate_left
                 focus
                   intro w' hb'
                   have d0 : w'.cell? ⟨H, 1, none⟩ = some (.slice T L d) := (hb'.cell l1.out).trans e1.out
                   go_simp
                   with_reducible rfl
                 simp only [Act.put, List.setIfInBounds_toArray, List.set_cons_zero, List.set_cons_succ])
              | (refine SeqS.take (v := undef) (by first | assumption | trivial) (by kernel_rfl) (by decide +kernel) (by decide +kernel) (Or.inr ⟨by rfl, rfl⟩) ?_
                 simp only [Act.put, List.setIfInBounds_toArray, List.set_cons_zero, List.set_cons_succ])
              | (refine SeqS.take1 (v := .agg (Z).toArray) (by first | assumption | trivial) (by kernel_rfl) (by decide +kernel) (by decide +kernel) (yields_part (by rfl) 36 (.tmp 65) rfl rfl (fun w' h => ZR.out w' h) (HZ)) ?_
                 simp only [Act.put, List.setIfInBounds_toArray, List.set_cons_zero, List.set_cons_succ])
              | (refine SeqS.take1 (v := ?_) (by first | assumption | trivial) (by kernel_rfl) (by decide +kernel) (by decide +kernel) (Or.inl ⟨by rfl, ?_⟩) ?_
                 rotate_left
                 focus
                   intro w' hb'
                   go_simp
                   with_reducible rfl
                 simp only [Act.put, List.setIfInBounds_toArray, List.set_cons_zero, List.set_cons_succ])
              | (refine SeqS.take1 (v := ?_) (by first | assumption | trivial) (by kernel_rfl) (by decide +kernel) (by decide +kernel) (Or.inl ⟨by rfl, ?_⟩) ?_
                 rotate_left
                 focus
                   intro w' hb'
                   have d0 := hq w'
                   go_simp
                   with_reducible rfl
                 simp only [Act.put, List.setIfInBounds_toArray, List.set_cons_zero, List.set_cons_succ])
              | (refine SeqS.take1 (v := ?_) (by first | assumption | trivial) (by kernel_rfl) (by decide +kernel) (by decide +kernel) (Or.inl ⟨by rfl, ?_⟩) ?_
                 rotate_left
                 focus
                   intro w' hb'
                   have d0 : w'.cell? ⟨H, 1, none⟩ = some (.slice T L d) := (hb'.cell l1.out).trans e1.out
                   go_simp
                   with_reducible rfl
                 simp only [Act.put, List.setIfInBounds_toArray, List.set_cons_zero, List.set_cons_succ])
              | (refine SeqS.take1 (v := undef) (by first | assumption | trivial) (by kernel_rfl) (by decide +kernel) (by decide +kernel) (Or.inr ⟨by rfl, rfl⟩) ?_
                 simp only [Act.put, List.setIfInBounds_toArray, List.set_cons_zero, List.set_cons_succ])
              | (refine SeqS.take2 (v := .agg (Z).toArray) (by first | assumption | trivial) (by kernel_rfl) (by decide +kernel) (by decide +kernel) (yields_part (by rfl) 36 (.tmp 65) rfl rfl (fun w' h => ZR.out w' h) (HZ)) ?_
                 simp only [Act.put, List.setIfInBounds_toArray, List.set_cons_zero, List.set_cons_succ])
              | (refine SeqS.take2 (v := ?_) (by first | assumption | trivial) (by kernel_rfl) (by decide +kernel) (by decide +kernel) (Or.inl ⟨by rfl, ?_⟩) ?_
                 rotate_left
                 focus
                   intro w' hb'
                   go_simp
                   with_reducible rfl
                 simp only [Act.put, List.setIfInBounds_toArray, List.set_cons_zero, List.set_cons_succ])
              | (refine SeqS.take2 (v := ?_) (by first | assumption | trivial) (by kernel_rfl) (by decide +kernel) (by decide +kernel) (Or.inl ⟨by rfl, ?_⟩) ?_
                 rotate_left
                 focus
                   intro w' hb'
                   have d0 := hq w'
                   go_simp
                   with_reducible rfl
                 simp only [Act.put, List.setIfInBounds_toArray, List.set_cons_zero, List.set_cons_succ])
              | (refine SeqS.take2 (v := ?_) (by first | assumption | trivial) (by kernel_rfl) (by decide +kernel) (by decide +kernel) (Or.inl ⟨by rfl, ?_⟩) ?_
                 rotate_left
                 focus
                   intro w' hb'
                   have d0 : w'.cell? ⟨H, 1, none⟩ = some (.slice T L d) := (hb'.cell l1.out).trans e1.out
                   go_simp
                   with_reducible rfl
                 simp only [Act.put, List.setIfInBounds_toArray, List.set_cons_zero, List.set_cons_succ])
              | (refine SeqS.take2 (v := undef) (by first | assumption | trivial) (by kernel_rfl) (by decide +kernel) (by decide +kernel) (Or.inr ⟨by rfl, rfl⟩) ?_
                 simp only [Act.put, List.setIfInBounds_toArray, List.set_cons_zero, List.set_cons_succ])
              | (refine SeqS.take3 (v := .agg (Z).toArray) (by first | assumption | trivial) (by kernel_rfl) (by decide +kernel) (by decide +kernel) (yields_part (by rfl) 36 (.tmp 65) rfl rfl (fun w' h => ZR.out w' h) (HZ)) ?_
                 simp only [Act.put, List.setIfInBounds_toArray, List.set_cons_zero, List.set_cons_succ])
              | (refine SeqS.take3 (v := ?_) (by first | assumption | trivial) (by kernel_rfl) (by decide +kernel) (by decide +kernel) (Or.inl ⟨by rfl, ?_⟩) ?_
                 rotate_left
                 focus
                   intro w' hb'
                   go_simp
                   with_reducible rfl
                 simp only [Act.put, List.setIfInBounds_toArray, List.set_cons_zero, List.set_cons_succ])
              | (refine SeqS.take3 (v := ?_) (by first | assumption | trivial) (by kernel_rfl) (by decide +kernel) (by decide +kernel) (Or.inl ⟨by rfl, ?_⟩) ?_
                 rotate_left
                 focus
                   intro w' hb'
                   have d0 := hq w'
                   go_simp
                   with_reducible rfl
                 simp only [Act.put, List.setIfInBounds_toArray, List.set_cons_zero, List.set_cons_succ])
              | (refine SeqS.take3 (v := ?_) (by first | assumption | trivial) (by kernel_rfl) (by decide +kernel) (by decide +kernel) (Or.inl ⟨by rfl, ?_⟩) ?_
                 rotate_left
                 focus
                   intro w' hb'
                   have d0 : w'.cell? ⟨H, 1, none⟩ = some (.slice T L d) := (hb'.cell l1.out).trans e1.out
                   go_simp
                   with_reducible rfl
                 simp only [Act.put, List.setIfInBounds_toArray, List.set_cons_zero, List.set_cons_succ])
              | (refine SeqS.take3 (v := undef) (by first | assumption | trivial) (by kernel_rfl) (by decide +kernel) (by decide +kernel) (Or.inr ⟨by rfl, rfl⟩) ?_
                 simp only [Act.put, List.setIfInBounds_toArray, List.set_cons_zero, List.set_cons_succ])
              | (refine SeqS.take4 (v := .agg (Z).toArray) (by first | assumption | trivial) (by kernel_rfl) (by decide +kernel) (by decide +kernel) (yields_part (by rfl) 36 (.tmp 65) rfl rfl (fun w' h => ZR.out w' h) (HZ)) ?_
                 simp only [Act.put, List.setIfInBounds_toArray, List.set_cons_zero, List.set_cons_succ])
              | (refine SeqS.take4 (v := ?_) (by first | assumption | trivial) (by kernel_rfl) (by decide +kernel) (by decide +kernel) (Or.inl ⟨by rfl, ?_⟩) ?_
                 rotate_left
                 focus
                   intro w' hb'
                   go_simp
                   with_reducible rfl
                 simp only [Act.put, List.setIfInBounds_toArray, List.set_cons_zero, List.set_cons_succ])
              | (refine SeqS.take4 (v := ?_) (by first | assumption | trivial) (by kernel_rfl) (by decide +kernel) (by decide +kernel) (Or.inl ⟨by rfl, ?_⟩) ?_
                 rotate_left
                 focus
                   intro w' hb'
                   have d0 := hq w'
                   go_simp
                   with_reducible rfl
                 simp only [Act.put, List.setIfInBounds_toArray, List.set_cons_zero, List.set_cons_succ])
              | (refine SeqS.take4 (v := ?_) (by first | assumption | trivial) (by kernel_rfl) (by decide +kernel) (by decide +kernel) (Or.inl ⟨by rfl, ?_⟩) ?_
                 rotate_left
                 focus
                   intro w' hb'
                   have d0 : w'.cell? ⟨H, 1, none⟩ = some (.slice T L d) := (hb'.cell l1.out).trans e1.out
                   go_simp
                   with_reducible rfl
                 simp only [Act.put, List.setIfInBounds_toArray, List.set_cons_zero, List.set_cons_succ])
              | (refine SeqS.take4 (v := undef) (by first | assumption | trivial) (by kernel_rfl) (by decide +kernel) (by decide +kernel) (Or.inr ⟨by rfl, rfl⟩) ?_
                 simp only [Act.put, List.setIfInBounds_toArray, List.set_cons_zero, List.set_cons_succ]))
            refine SeqS.alone (by decide +kernel) (by rfl) (fun K hK => ?_)
            go_simp
            go_at_call 18
            refine (pc.out _ (bW.out _ S3)).mono ?_
            rintro e w4 ⟨rfl, b4⟩
            go_simp
            have S4 : Below V.heap.size V w4 := S3.trans (b4.mono S3.size)
            refine hK _ _ S4 ?_
            clear hK K
            repeat (first
              | (refine SeqS.take (v := ?_) (by first | assumption | trivial) (by kernel_rfl) (by decide +kernel) (by decide +kernel) (Or.inl ⟨by rfl, ?_⟩) ?_
                 rotate_left
                 focus
                   intro w' hb'
                   go_simp
                   with_reducible rfl
                 simp only [Act.put, List.setIfInBounds_toArray, List.set_cons_zero, List.set_cons_succ])
              | (refine SeqS.take (v := ?_) (by first | assumption | trivial) (by kernel_rfl) (by decide +kernel) (by decide +kernel) (Or.inl ⟨by rfl, ?_⟩) ?_
                 rotate_left
                 focus
                   intro w' hb'
                   have d0 := hq w'
                   go_simp
                   with_reducible rfl
                 simp only [Act.put, List.setIfInBounds_toArray, List.set_cons_zero, List.set_cons_succ])
              | (refine SeqS.take (v := undef) (by first | assumption | trivial) (by kernel_rfl) (by decide +kernel) (by decide +kernel) (Or.inr ⟨by rfl, rfl⟩) ?_
                 simp only [Act.put, List.setIfInBounds_toArray, List.set_cons_zero, List.set_cons_succ])
              | (refine SeqS.take1 (v := ?_) (by first | assumption | trivial) (by kernel_rfl) (by decide +kernel) (by decide +kernel) (Or.inl ⟨by rfl, ?_⟩) ?_
                 rotate_left
                 focus
                   intro w' hb'
                   go_simp
                   with_reducible rfl
                 simp only [Act.put, List.setIfInBounds_toArray, List.set_cons_zero, List.set_cons_succ])
              | (refine SeqS.take1 (v := ?_) (by first | assumption | trivial) (by kernel_rfl) (by decide +kernel) (by decide +kernel) (Or.inl ⟨by rfl, ?_⟩) ?_
                 rotate_left
                 focus
                   intro w' hb'
                   have d0 := hq w'
                   go_simp
                   with_reducible rfl
                 simp only [Act.put, List.setIfInBounds_toArray, List.set_cons_zero, List.set_cons_succ])
              | (refine SeqS.take1 (v := undef) (by first | assumption | trivial) (by kernel_rfl) (by decide +kernel) (by decide +kernel) (Or.inr ⟨by rfl, rfl⟩) ?_
                 simp only [Act.put, List.setIfInBounds_toArray, List.set_cons_zero, List.set_cons_succ])
              | (refine SeqS.take2 (v := ?_) (by first | assumption | trivial) (by kernel_rfl) (by decide +kernel) (by decide +kernel) (Or.inl ⟨by rfl, ?_⟩) ?_
                 rotate_left
                 focus
                   intro w' hb'
                   go_simp
                   with_reducible rfl
                 simp only [Act.put, List.setIfInBounds_toArray, List.set_cons_zero, List.set_cons_succ])
              | (refine SeqS.take2 (v := ?_) (by first | assumption | trivial) (by kernel_rfl) (by decide +kernel) (by decide +kernel) (Or.inl ⟨by rfl, ?_⟩) ?_
                 rotate_left
                 focus
                   intro w' hb'
                   have d0 := hq w'
                   go_simp
                   with_reducible rfl
                 simp only [Act.put, List.setIfInBounds_toArray, List.set_cons_zero, List.set_cons_succ])
              | (refine SeqS.take2 (v := undef) (by first | assumption | trivial) (by kernel_rfl) (by decide +kernel) (by decide +kernel) (Or.inr ⟨by rfl, rfl⟩) ?_
                 simp only [Act.put, List.setIfInBounds_toArray, List.set_cons_zero, List.set_cons_succ])
              | (refine SeqS.take3 (v := ?_) (by first | assumption | trivial) (by kernel_rfl) (by decide +kernel) (by decide +kernel) (Or.inl ⟨by rfl, ?_⟩) ?_
                 rotate_left
                 focus
                   intro w' hb'
                   go_simp
                   with_reducible rfl
                 simp only [Act.put, List.setIfInBounds_toArray, List.set_cons_zero, List.set_cons_succ])
              | (refine SeqS.take3 (v := ?_) (by first | assumption | trivial) (by kernel_rfl) (by decide +kernel) (by decide +kernel) (Or.inl ⟨by rfl, ?_⟩) ?_
                 rotate_left
                 focus
                   intro w' hb'
                   have d0 := hq w'
                   go_simp
                   with_reducible rfl
                 simp only [Act.put, List.setIfInBounds_toArray, List.set_cons_zero, List.set_cons_succ])
              | (refine SeqS.take3 (v := undef) (by first | assumption | trivial) (by kernel_rfl) (by decide +kernel) (by decide +kernel) (Or.inr ⟨by rfl, rfl⟩) ?_
                 simp only [Act.put, List.setIfInBounds_toArray, List.set_cons_zero, List.set_cons_succ])
              | (refine SeqS.take4 (v := ?_) (by first | assumption | trivial) (by kernel_rfl) (by decide +kernel) (by decide +kernel) (Or.inl ⟨by rfl, ?_⟩) ?_
                 rotate_left
                 focus
                   intro w' hb'
                   go_simp
                   with_reducible rfl
                 simp only [Act.put, List.setIfInBounds_toArray, List.set_cons_zero, List.set_cons_succ])
              | (refine SeqS.take4 (v := ?_) (by first | assumption | trivial) (by kernel_rfl) (by decide +kernel) (by decide +kernel) (Or.inl ⟨by rfl, ?_⟩) ?_
                 rotate_left
                 focus
                   intro w' hb'
                   have d0 := hq w'
                   go_simp
                   with_reducible rfl
                 simp only [Act.put, List.setIfInBounds_toArray, List.set_cons_zero, List.set_cons_succ])
              | (refine SeqS.take4 (v := undef) (by first | assumption | trivial) (by kernel_rfl) (by decide +kernel) (by decide +kernel) (Or.inr ⟨by rfl, rfl⟩) ?_
                 simp only [Act.put, List.setIfInBounds_toArray, List.set_cons_zero, List.set_cons_succ]))
            refine SeqS.done (by decide +kernel) ?_
            have b14 := bW.out _ S4
            obtain ⟨hk, hi, hL, hB⟩ := hold.out
            have hkN := hk.keep b14 hk.lt
            have hiN := hi.keep b14 hi.lt
            have hLN := hL.keep b14
            have hBN := hB.trans (b14.mono hB.size)
            have hfin := Lib.hid (And.intro hkN (And.intro hiN (And.intro hLN hBN)))
            clear hk hi hL hB hkN hiN hLN hBN b14 S3 S4 b3 b4 b1 bW ZR rc pc hold hq e1 l1 bV
            go_wp2
            exact ⟨⟨j + 1, by have := hltH.out; omega, by congr 1, hfin.out⟩, by simp only [intOf]; have := hltH.out; omega⟩
          · obtain rfl : n = j := by omega
            have hji : ¬ (n : Int) < (n : Int) := by omega
            have k2 := hk.cell 0
            have pf := Lib.hid (fun w' (h : Below w.heap.size w w') => ppFind_any a n c ts y w' (gl.out w' h) (TK.out w' h) hrH.out hsmH.out hyH.out.1)
            have rf := Lib.hid (fun w' (h : Below w.heap.size w w') => r13Find_any a n c ts y w' (TK.out w' h) hrH.out hsmH.out hyH.out.1)
            have hfc := find_cases ts y
            obtain ⟨R, hR⟩ : ∃ R, findL ts y = R := ⟨_, rfl⟩
            rw [hR, hyH.out.2] at pf rf
            rw [hR] at hfc
            clear hlt hj hR
            go_wp2_with ((with_reducible refine wpList_load_blk rfl 36 (.tmp 4) rfl ?_ hi rowId hYY.out ?_); rfl)
            refine (pf.out wr hB).mono ?_
            rintro q w10 ⟨rfl, b10⟩
            have hi10 := hi.keep b10 hi.lt
            have k10 := (hk.keep b10 hk.lt).cell 0
            have hB10 := hB.trans (b10.mono hB.size)
            have hL10 := hL.keep b10
            clear hi hk hB hL k2 pf b10
            go_wp2_with ((with_reducible refine wpList_load_blk rfl 36 (.tmp 4) rfl ?_ hi10 rowId hYY.out ?_); rfl)
            refine (rf.out w10 hB10).mono ?_
            rintro q w11 ⟨rfl, b11⟩
            have hi11 := hi10.keep b11 hi10.lt
            have hB11 := hB10.trans (b11.mono hB10.size)
            have hL11 := hL10.keep b11
            clear hi10 k10 hB10 hL10 rf b11
            have b12 : Below w11.heap.size w11 w11.drew := (Below.refl _ _).drew
            have AL := Lib.hid (fun w' (h : Below w11.heap.size w11 w') => alH.out w' (hB11.trans (h.mono hB11.size)))
            have BH := Lib.hid hB11
            have hng := noGuard13
            rcases hfc with rfl | ⟨m, t, rfl, ht, hty⟩
            · dsimp only
              clear hi11 hL11 hB11
              go_wp2_with fail
              refine region_seqS (fun w' => Below w11.heap.size w11 w') (by kernel_rfl) b12 ?_
              simp only [pairs, Nat.reduceAdd]
              repeat (first
                | (refine SeqS.take (v := ?_) (by first | assumption | trivial) (by kernel_rfl) (by decide +kernel) (by decide +kernel) (Or.inl ⟨by rfl, ?_⟩) ?_
                   rotate_left
                   focus
                     intro w' hb'
                     go_simp
                     with_reducible rfl
                   simp only [Act.put, List.setIfInBounds_toArray, List.set_cons_zero, List.set_cons_succ])
                | (refine SeqS.take (v := undef) (by first | assumption | trivial) (by kernel_rfl) (by decide +kernel) (by decide +kernel) (Or.inr ⟨by rfl, rfl⟩) ?_
                   simp only [Act.put, List.setIfInBounds_toArray, List.set_cons_zero, List.set_cons_succ])
                | (refine SeqS.take1 (v := ?_) (by first | assumption | trivial) (by kernel_rfl) (by decide +kernel) (by decide +kernel) (Or.inl ⟨by rfl, ?_⟩) ?_
                   rotate_left
                   focus
                     intro w' hb'
                     go_simp
                     with_reducible rfl
                   simp only [Act.put, List.setIfInBounds_toArray, List.set_cons_zero, List.set_cons_succ])
                | (refine SeqS.take1 (v := undef) (by first | assumption | trivial) (by kernel_rfl) (by decide +kernel) (by decide +kernel) (Or.inr ⟨by rfl, rfl⟩) ?_
                   simp only [Act.put, List.setIfInBounds_toArray, List.set_cons_zero, List.set_cons_succ])
                | (refine SeqS.take2 (v := ?_) (by first | assumption | trivial) (by kernel_rfl) (by decide +kernel) (by decide +kernel) (Or.inl ⟨by rfl, ?_⟩) ?_
                   rotate_left
                   focus
                     intro w' hb'
                     go_simp
                     with_reducible rfl
                   simp only [Act.put, List.setIfInBounds_toArray, List.set_cons_zero, List.set_cons_succ])
                | (refine SeqS.take2 (v := undef) (by first | assumption | trivial) (by kernel_rfl) (by decide +kernel) (by decide +kernel) (Or.inr ⟨by rfl, rfl⟩) ?_
                   simp only [Act.put, List.setIfInBounds_toArray, List.set_cons_zero, List.set_cons_succ])
                | (refine SeqS.take3 (v := ?_) (by first | assumption | trivial) (by kernel_rfl) (by decide +kernel) (by decide +kernel) (Or.inl ⟨by rfl, ?_⟩) ?_
                   rotate_left
                   focus
                     intro w' hb'
                     go_simp
                     with_reducible rfl
                   simp only [Act.put, List.setIfInBounds_toArray, List.set_cons_zero, List.set_cons_succ])
                | (refine SeqS.take3 (v := undef) (by first | assumption | trivial) (by kernel_rfl) (by decide +kernel) (by decide +kernel) (Or.inr ⟨by rfl, rfl⟩) ?_
                   simp only [Act.put, List.setIfInBounds_toArray, List.set_cons_zero, List.set_cons_succ])
                | (refine SeqS.take4 (v := ?_) (by first | assumption | trivial) (by kernel_rfl) (by decide +kernel) (by decide +kernel) (Or.inl ⟨by rfl, ?_⟩) ?_
                   rotate_left
                   focus
                     intro w' hb'
                     go_simp
                     with_reducible rfl
                   simp only [Act.put, List.setIfInBounds_toArray, List.set_cons_zero, List.set_cons_succ])
                | (refine SeqS.take4 (v := undef) (by first | assumption | trivial) (by kernel_rfl) (by decide +kernel) (by decide +kernel) (Or.inr ⟨by rfl, rfl⟩) ?_
                   simp only [Act.put, List.setIfInBounds_toArray, List.set_cons_zero, List.set_cons_succ])
                | (refine SeqS.take5 (v := ?_) (by first | assumption | trivial) (by kernel_rfl) (by decide +kernel) (by decide +kernel) (Or.inl ⟨by rfl, ?_⟩) ?_
                   rotate_left
                   focus
                     intro w' hb'
                     go_simp
                     with_reducible rfl
                   simp only [Act.put, List.setIfInBounds_toArray, List.set_cons_zero, List.set_cons_succ])
                | (refine SeqS.take5 (v := undef) (by first | assumption | trivial) (by kernel_rfl) (by decide +kernel) (by decide +kernel) (Or.inr ⟨by rfl, rfl⟩) ?_
                   simp only [Act.put, List.setIfInBounds_toArray, List.set_cons_zero, List.set_cons_succ])
                | (refine SeqS.take6 (v := ?_) (by first | assumption | trivial) (by kernel_rfl) (by decide +kernel) (by decide +kernel) (Or.inl ⟨by rfl, ?_⟩) ?_
                   rotate_left
                   focus
                     intro w' hb'
                     go_simp
                     with_reducible rfl
                   simp only [Act.put, List.setIfInBounds_toArray, List.set_cons_zero, List.set_cons_succ])
                | (refine SeqS.take6 (v := undef) (by first | assumption | trivial) (by kernel_rfl) (by decide +kernel) (by decide +kernel) (Or.inr ⟨by rfl, rfl⟩) ?_
                   simp only [Act.put, List.setIfInBounds_toArray, List.set_cons_zero, List.set_cons_succ]))
              refine SeqS.alone (by decide +kernel) (by rfl) (fun K hK => ?_)
              go_simp
              go_at_call 8
              refine (AL.out _ b12).mono ?_
              rintro e w13 ⟨rfl, b13⟩
              go_simp
              have S13 : Below w11.heap.size w11 w13 := b12.trans (b13.mono b12.size)
              refine hK _ _ S13 ?_
              clear hK K
              repeat (first
                | (refine SeqS.take (v := ?_) (by first | assumption | trivial) (by kernel_rfl) (by decide +kernel) (by decide +kernel) (Or.inl ⟨by rfl, ?_⟩) ?_
                   rotate_left
                   focus
                     intro w' hb'
                     go_simp
                     with_reducible rfl
                   simp only [Act.put, List.setIfInBounds_toArray, List.set_cons_zero, List.set_cons_succ])
                | (refine SeqS.take (v := undef) (by first | assumption | trivial) (by kernel_rfl) (by decide +kernel) (by decide +kernel) (Or.inr ⟨by rfl, rfl⟩) ?_
                   simp only [Act.put, List.setIfInBounds_toArray, List.set_cons_zero, List.set_cons_succ])
                | (refine SeqS.take1 (v := ?_) (by first | assumption | trivial) (by kernel_rfl) (by decide +kernel) (by decide +kernel) (Or.inl ⟨by rfl, ?_⟩) ?_
                   rotate_left
                   focus
                     intro w' hb'
                     go_simp
                     with_reducible rfl
                   simp only [Act.put, List.setIfInBounds_toArray, List.set_cons_zero, List.set_cons_succ])
                | (refine SeqS.take1 (v := undef) (by first | assumption | trivial) (by kernel_rfl) (by decide +kernel) (by decide +kernel) (Or.inr ⟨by rfl, rfl⟩) ?_
                   simp only [Act.put, List.setIfInBounds_toArray, List.set_cons_zero, List.set_cons_succ])
                | (refine SeqS.take2 (v := ?_) (by first | assumption | trivial) (by kernel_rfl) (by decide +kernel) (by decide +kernel) (Or.inl ⟨by rfl, ?_⟩) ?_
                   rotate_left
                   focus
                     intro w' hb'
                     go_simp
                     with_reducible rfl
                   simp only [Act.put, List.setIfInBounds_toArray, List.set_cons_zero, List.set_cons_succ])
                | (refine SeqS.take2 (v := undef) (by first | assumption | trivial) (by kernel_rfl) (by decide +kernel) (by decide +kernel) (Or.inr ⟨by rfl, rfl⟩) ?_
                   simp only [Act.put, List.setIfInBounds_toArray, List.set_cons_zero, List.set_cons_succ]))
              refine SeqS.done (by decide +kernel) ?_
              have B13 := BH.out.trans (S13.mono BH.out.size)
              clear S13 b12 b13 AL BH
              go_wp2
              go_ret
              exact ⟨rfl, B13⟩
            · dsimp only
              have hmn : m < n := by have := (List.getElem?_eq_some_iff.1 ht).1; have := hnH.out.1; omega
              have hmi : (m : Int) < (n : Int) := by omega
              obtain ⟨lg, lo, rfl, _⟩ : ∃ lg lo, lb = some ⟨lg, lo, none⟩ ∧ True := by
                rcases hL11.2.2 with h0 | ⟨lg, lo, h, _⟩
                · omega
                · exact ⟨lg, lo, h, trivial⟩
              have hlr := ids_range hL11 hnH.out.1 ht
              rw [hty, hyH.out.2] at hlr
              have hq := idEq13 y y hyH.out.1 hyH.out.1
              rw [decide_eq_true rfl, hyH.out.2] at hq
              have YR := Lib.hid (fun w' (h : Below w11.heap.size w11 w') => (fun q u hq => by
                have h1 := hlr q u hq
                rw [h.cell (World.block_lt_of_cell? w11 _ h1)]
                exact h1 : w'.rangeAt lg (lo + m * 32) Y))
              have IB := Lib.hid (fun w' (h : Below w11.heap.size w11 w') => hi11.keep h hi11.lt)
              clear hi11 hL11 hB11 hlr hmn ht hty
              go_wp2_with fail
              refine region_seqS (fun w' => Below w11.heap.size w11 w') (by kernel_rfl) b12 ?_
              simp only [pairs, Nat.reduceAdd]
              repeat (first
                | (refine SeqS.take (v := .agg (Y).toArray) (by first | assumption | trivial) (by kernel_rfl) (by decide +kernel) (by decide +kernel) (yields_blk (by rfl) 36 (.tmp 4) rfl rfl (fun w' h => IB.out w' h) (HI)) ?_
                   simp only [Act.put, List.setIfInBounds_toArray, List.set_cons_zero, List.set_cons_succ])
                | (refine SeqS.take (v := .agg (Y).toArray) (by first | assumption | trivial) (by kernel_rfl) (by decide +kernel) (by decide +kernel) (yields_part (by rfl) 36 (.tmp 96) rfl rfl (fun w' h => YR.out w' h) (HI)) ?_
                   simp only [Act.put, List.setIfInBounds_toArray, List.set_cons_zero, List.set_cons_succ])
                | (refine SeqS.take (v := ?_) (by first | assumption | trivial) (by kernel_rfl) (by decide +kernel) (by decide +kernel) (Or.inl ⟨by rfl, ?_⟩) ?_
                   rotate_left
                   focus
                     intro w' hb'
                     go_simp
                     with_reducible rfl
                   simp only [Act.put, List.setIfInBounds_toArray, List.set_cons_zero, List.set_cons_succ])
                | (refine SeqS.take (v := ?_) (by first | assumption | trivial) (by kernel_rfl) (by decide +kernel) (by decide +kernel) (Or.inl ⟨by rfl, ?_⟩) ?_
                   rotate_left
                   focus
                     intro w' hb'
                     have d0 := hq w'
                     go_simp
                     with_reducible rfl
                   simp only [Act.put, List.setIfInBounds_toArray, List.set_cons_zero, List.set_cons_succ])
                | (refine SeqS.take (v := undef) (by first | assumption | trivial) (by kernel_rfl) (by decide +kernel) (by decide +kernel) (Or.inr ⟨by rfl, rfl⟩) ?_
                   simp only [Act.put, List.setIfInBounds_toArray, List.set_cons_zero, List.set_cons_succ])
                | (refine SeqS.take1 (v := .agg (Y).toArray) (by first | assumption | trivial) (by kernel_rfl) (by decide +kernel) (by decide +kernel) (yields_blk (by rfl) 36 (.tmp 4) rfl rfl (fun w' h => IB.out w' h) (HI)) ?_
                   simp only [Act.put, List.setIfInBounds_toArray, List.set_cons_zero, List.set_cons_succ])
                | (refine SeqS.take1 (v := .agg (Y).toArray) (by first | assumption | trivial) (by kernel_rfl) (by decide +kernel) (by decide +kernel) (yields_part (by rfl) 36 (.tmp 96) rfl rfl (fun w' h => YR.out w' h) (HI)) ?_
                   simp only [Act.put, List.setIfInBounds_toArray, List.set_cons_zero, List.set_cons_succ])
                | (refine SeqS.take1 (v := ?_) (by first | assumption | trivial) (by kernel_rfl) (by decide +kernel) (by decide +kernel) (Or.inl ⟨by rfl, ?_⟩) ?_
                   rotate_left
                   focus
                     intro w' hb'
                     go_simp
                     with_reducible rfl
                   simp only [Act.put, List.setIfInBounds_toArray, List.set_cons_zero, List.set_cons_succ])
                | (refine SeqS.take1 (v := ?_) (by first | assumption | trivial) (by kernel_rfl) (by decide +kernel) (by decide +kernel) (Or.inl ⟨by rfl, ?_⟩) ?_
                   rotate_left
                   focus
                     intro w' hb'
                     have d0 := hq w'
                     go_simp
                     with_reducible rfl
                   simp only [Act.put, List.setIfInBounds_toArray, List.set_cons_zero, List.set_cons_succ])
                | (refine SeqS.take1 (v := undef) (by first | assumption | trivial) (by kernel_rfl) (by decide +kernel) (by decide +kernel) (Or.inr ⟨by rfl, rfl⟩) ?_
                   simp only [Act.put, List.setIfInBounds_toArray, List.set_cons_zero, List.set_cons_succ])
                | (refine SeqS.take2 (v := .agg (Y).toArray) (by first | assumption | trivial) (by kernel_rfl) (by decide +kernel) (by decide +kernel) (yields_blk (by rfl) 36 (.tmp 4) rfl rfl (fun w' h => IB.out w' h) (HI)) ?_
                   simp only [Act.put, List.setIfInBounds_toArray, List.set_cons_zero, List.set_cons_succ])
                | (refine SeqS.take2 (v := .agg (Y).toArray) (by first | assumption | trivial) (by kernel_rfl) (by decide +kernel) (by decide +kernel) (yields_part (by rfl) 36 (.tmp 96) rfl rfl (fun w' h => YR.out w' h) (HI)) ?_
                   simp only [Act.put, List.setIfInBounds_toArray, List.set_cons_zero, List.set_cons_succ])
                | (refine SeqS.take2 (v := ?_) (by first | assumption | trivial) (by kernel_rfl) (by decide +kernel) (by decide +kernel) (Or.inl ⟨by rfl, ?_⟩) ?_
                   rotate_left
                   focus
                     intro w' hb'
                     go_simp
                     with_reducible rfl
                   simp only [Act.put, List.setIfInBounds_toArray, List.set_cons_zero, List.set_cons_succ])
                | (refine SeqS.take2 (v := ?_) (by first | assumption | trivial) (by kernel_rfl) (by decide +kernel) (by decide +kernel) (Or.inl ⟨by rfl, ?_⟩) ?_
                   rotate_left
                   focus
                     intro w' hb'
                     have d0 := hq w'
                     go_simp
                     with_reducible rfl
                   simp only [Act.put, List.setIfInBounds_toArray, List.set_cons_zero, List.set_cons_succ])
                | (refine SeqS.take2 (v := undef) (by first | assumption | trivial) (by kernel_rfl) (by decide +kernel) (by decide +kernel) (Or.inr ⟨by rfl, rfl⟩) ?_
                   simp only [Act.put, List.setIfInBounds_toArray, List.set_cons_zero, List.set_cons_succ])
                | (refine SeqS.take3 (v := .agg (Y).toArray) (by first | assumption | trivial) (by kernel_rfl) (by decide +kernel) (by decide +kernel) (yields_blk (by rfl) 36 (.tmp 4) rfl rfl (fun w' h => IB.out w' h) (HI)) ?_
                   simp only [Act.put, List.setIfInBounds_toArray, List.set_cons_zero, List.set_cons_succ])
                | (refine SeqS.take3 (v := .agg (Y).toArray) (by first | assumption | trivial) (by kernel_rfl) (by decide +kernel) (by decide +kernel) (yields_part (by rfl) 36 (.tmp 96) rfl rfl (fun w' h => YR.out w' h) (HI)) ?_
                   simp only [Act.put, List.setIfInBounds_toArray, List.set_cons_zero, List.set_cons_succ])
                | (refine SeqS.take3 (v := ?_) (by first | assumption | trivial) (by kernel_rfl) (by decide +kernel) (by decide +kernel) (Or.inl ⟨by rfl, ?_⟩) ?_
                   rotate_left
                   focus
                     intro w' hb'
                     go_simp
                     with_reducible rfl
                   simp only [Act.put, List.setIfInBounds_toArray, List.set_cons_zero, List.set_cons_succ])
                | (refine SeqS.take3 (v := ?_) (by first | assumption | trivial) (by kernel_rfl) (by decide +kernel) (by decide +kernel) (Or.inl ⟨by rfl, ?_⟩) ?_
                   rotate_left
                   focus
                     intro w' hb'
                     have d0 := hq w'
                     go_simp
                     with_reducible rfl
                   simp only [Act.put, List.setIfInBounds_toArray, List.set_cons_zero, List.set_cons_succ])
                | (refine SeqS.take3 (v := undef) (by first | assumption | trivial) (by kernel_rfl) (by decide +kernel) (by decide +kernel) (Or.inr ⟨by rfl, rfl⟩) ?_
                   simp only [Act.put, List.setIfInBounds_toArray, List.set_cons_zero, List.set_cons_succ])
                | (refine SeqS.take4 (v := .agg (Y).toArray) (by first | assumption | trivial) (by kernel_rfl) (by decide +kernel) (by decide +kernel) (yields_blk (by rfl) 36 (.tmp 4) rfl rfl (fun w' h => IB.out w' h) (HI)) ?_
                   simp only [Act.put, List.setIfInBounds_toArray, List.set_cons_zero, List.set_cons_succ])
                | (refine SeqS.take4 (v := .agg (Y).toArray) (by first | assumption | trivial) (by kernel_rfl) (by decide +kernel) (by decide +kernel) (yields_part (by rfl) 36 (.tmp 96) rfl rfl (fun w' h => YR.out w' h) (HI)) ?_
                   simp only [Act.put, List.setIfInBounds_toArray, List.set_cons_zero, List.set_cons_succ])
                | (refine SeqS.take4 (v := ?_) (by first | assumption | trivial) (by kernel_rfl) (by decide +kernel) (by decide +kernel) (Or.inl ⟨by rfl, ?_⟩) ?_
                   rotate_left
                   focus
                     intro w' hb'
                     go_simp
                     with_reducible rfl
                   simp only [Act.put, List.setIfInBounds_toArray, List.set_cons_zero, List.set_cons_succ])
                | (refine SeqS.take4 (v := ?_) (by first | assumption | trivial) (by kernel_rfl) (by decide +kernel) (by decide +kernel) (Or.inl ⟨by rfl, ?_⟩) ?_
                   rotate_left
                   focus
                     intro w' hb'
                     have d0 := hq w'
                     go_simp
                     with_reducible rfl
                   simp only [Act.put, List.setIfInBounds_toArray, List.set_cons_zero, List.set_cons_succ])
                | (refine SeqS.take4 (v := undef) (by first | assumption | trivial) (by kernel_rfl) (by decide +kernel) (by decide +kernel) (Or.inr ⟨by rfl, rfl⟩) ?_
                   simp only [Act.put, List.setIfInBounds_toArray, List.set_cons_zero, List.set_cons_succ])
                | (refine SeqS.take5 (v := .agg (Y).toArray) (by first | assumption | trivial) (by kernel_rfl) (by decide +kernel) (by decide +kernel) (yields_blk (by rfl) 36 (.tmp 4) rfl rfl (fun w' h => IB.out w' h) (HI)) ?_
                   simp only [Act.put, List.setIfInBounds_toArray, List.set_cons_zero, List.set_cons_succ])
                | (refine SeqS.take5 (v := .agg (Y).toArray) (by first | assumption | trivial) (by kernel_rfl) (by decide +kernel) (by decide +kernel) (yields_part (by rfl) 36 (.tmp 96) rfl rfl (fun w' h => YR.out w' h) (HI)) ?_
                   simp only [Act.put, List.setIfInBounds_toArray, List.set_cons_zero, List.set_cons_succ])
                | (refine SeqS.take5 (v := ?_) (by first | assumption | trivial) (by kernel_rfl) (by decide +kernel) (by decide +kernel) (Or.inl ⟨by rfl, ?_⟩) ?_
                   rotate_left
                   focus
                     intro w' hb'
                     go_simp
                     with_reducible rfl
                   simp only [Act.put, List.setIfInBounds_toArray, List.set_cons_zero, List.set_cons_succ])
                | (refine SeqS.take5 (v := ?_) (by first | assumption | trivial) (by kernel_rfl) (by decide +kernel) (by decide +kernel) (Or.inl ⟨by rfl, ?_⟩) ?_
                   rotate_left
                   focus
                     intro w' hb'
                     have d0 := hq w'
                     go_simp
                     with_reducible rfl
                   simp only [Act.put, List.setIfInBounds_toArray, List.set_cons_zero, List.set_cons_succ])
                | (refine SeqS.take5 (v := undef) (by first | assumption | trivial) (by kernel_rfl) (by decide +kernel) (by decide +kernel) (Or.inr ⟨by rfl, rfl⟩) ?_
                   simp only [Act.put, List.setIfInBounds_toArray, List.set_cons_zero, List.set_cons_succ])
                | (refine SeqS.take6 (v := .agg (Y).toArray) (by first | assumption | trivial) (by kernel_rfl) (by decide +kernel) (by decide +kernel) (yields_blk (by rfl) 36 (.tmp 4) rfl rfl (fun w' h => IB.out w' h) (HI)) ?_
                   simp only [Act.put, List.setIfInBounds_toArray, List.set_cons_zero, List.set_cons_succ])
                | (refine SeqS.take6 (v := .agg (Y).toArray) (by first | assumption | trivial) (by kernel_rfl) (by decide +kernel) (by decide +kernel) (yields_part (by rfl) 36 (.tmp 96) rfl rfl (fun w' h => YR.out w' h) (HI)) ?_
                   simp only [Act.put, List.setIfInBounds_toArray, List.set_cons_zero, List.set_cons_succ])
                | (refine SeqS.take6 (v := ?_) (by first | assumption | trivial) (by kernel_rfl) (by decide +kernel) (by decide +kernel) (Or.inl ⟨by rfl, ?_⟩) ?_
                   rotate_left
                   focus
                     intro w' hb'
                     go_simp
                     with_reducible rfl
                   simp only [Act.put, List.setIfInBounds_toArray, List.set_cons_zero, List.set_cons_succ])
                | (refine SeqS.take6 (v := ?_) (by first | assumption | trivial) (by kernel_rfl) (by decide +kernel) (by decide +kernel) (Or.inl ⟨by rfl, ?_⟩) ?_
                   rotate_left
                   focus
                     intro w' hb'
                     have d0 := hq w'
                     go_simp
                     with_reducible rfl
                   simp only [Act.put, List.setIfInBounds_toArray, List.set_cons_zero, List.set_cons_succ])
                | (refine SeqS.take6 (v := undef) (by first | assumption | trivial) (by kernel_rfl) (by decide +kernel) (by decide +kernel) (Or.inr ⟨by rfl, rfl⟩) ?_
                   simp only [Act.put, List.setIfInBounds_toArray, List.set_cons_zero, List.set_cons_succ]))
              refine SeqS.alone (by decide +kernel) (by rfl) (fun K hK => ?_)
              go_simp
              go_at_call 8
              refine (AL.out _ b12).mono ?_
              rintro e w13 ⟨rfl, b13⟩
              go_simp
              have S13 : Below w11.heap.size w11 w13 := b12.trans (b13.mono b12.size)
              refine hK _ _ S13 ?_
              clear hK K
              repeat (first
                | (refine SeqS.take (v := ?_) (by first | assumption | trivial) (by kernel_rfl) (by decide +kernel) (by decide +kernel) (Or.inl ⟨by rfl, ?_⟩) ?_
                   rotate_left
                   focus
                     intro w' hb'
                     go_simp
                     with_reducible rfl
                   simp only [Act.put, List.setIfInBounds_toArray, List.set_cons_zero, List.set_cons_succ])
                | (refine SeqS.take (v := undef) (by first | assumption | trivial) (by kernel_rfl) (by decide +kernel) (by decide +kernel) (Or.inr ⟨by rfl, rfl⟩) ?_
                   simp only [Act.put, List.setIfInBounds_toArray, List.set_cons_zero, List.set_cons_succ])
                | (refine SeqS.take1 (v := ?_) (by first | assumption | trivial) (by kernel_rfl) (by decide +kernel) (by decide +kernel) (Or.inl ⟨by rfl, ?_⟩) ?_
                   rotate_left
                   focus
                     intro w' hb'
                     go_simp
                     with_reducible rfl
                   simp only [Act.put, List.setIfInBounds_toArray, List.set_cons_zero, List.set_cons_succ])
                | (refine SeqS.take1 (v := undef) (by first | assumption | trivial) (by kernel_rfl) (by decide +kernel) (by decide +kernel) (Or.inr ⟨by rfl, rfl⟩) ?_
                   simp only [Act.put, List.setIfInBounds_toArray, List.set_cons_zero, List.set_cons_succ])
                | (refine SeqS.take2 (v := ?_) (by first | assumption | trivial) (by kernel_rfl) (by decide +kernel) (by decide +kernel) (Or.inl ⟨by rfl, ?_⟩) ?_
                   rotate_left
                   focus
                     intro w' hb'
                     go_simp
                     with_reducible rfl
                   simp only [Act.put, List.setIfInBounds_toArray, List.set_cons_zero, List.set_cons_succ])
                | (refine SeqS.take2 (v := undef) (by first | assumption | trivial) (by kernel_rfl) (by decide +kernel) (by decide +kernel) (Or.inr ⟨by rfl, rfl⟩) ?_
                   simp only [Act.put, List.setIfInBounds_toArray, List.set_cons_zero, List.set_cons_succ]))
              refine SeqS.done (by decide +kernel) ?_
              have B13 := BH.out.trans (S13.mono BH.out.size)
              clear S13 b12 b13 AL BH YR IB hq
              go_wp2
              go_ret
              exact ⟨rfl, B13⟩
end Go.Proofs.YtcfachgfgogllaaDoor

/-
  The law PayloadFinds, as its statement's frame takes it. Conditions: the rows' own.
-/
namespace Go.Proofs.YtcfachgfgogllaaDoor
open Go.RowKit

theorem law_payfinds (a : Option Addr) (n c : Nat) (ts : List Tier) (x : List Int) (k : Int) (w : World) (hG : Glob w) (hT : TiersAt w a n c ts) (hr : ∀ t ∈ ts, Ranged t) (hm : c ≤ maxLen) (hx : x.length = 32) (_ : ∀ y ∈ x, (Lit.int .u8 y).wf = true) (hk : (Lit.int .u8 k).wf = true) :
    Calls Tryd.prog 5 #[.agg #[.slice a n c], .agg (x.map (Value.int .u8)).toArray, .int .u8 k] w fun q w' => q = .returned (.bool true) ∧ Below w.heap.size w w' := by
  have h : 0 ≤ k := by
    simp [Lit.wf, IntKind.min, IntKind.max, IntKind.signed, IntKind.bits] at hk
    omega
  obtain ⟨A, rfl⟩ : ∃ A : Nat, k = (A : Int) := ⟨k.toNat, by omega⟩
  exact payFinds_any a n c ts x A w hG hT hr (Nat.le_trans hT.2.1 hm) hx
end Go.Proofs.YtcfachgfgogllaaDoor

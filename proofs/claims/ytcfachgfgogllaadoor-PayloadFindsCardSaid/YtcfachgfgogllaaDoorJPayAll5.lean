/-
  Texts of stages that were proved on their own, joined: PpRight, PayRefB, PpIds, PpFind. Each begins with its own words.
-/
import Derived.Test.YtcfachgfgogllaaDoorJPayAll3
import Derived.Test.YtcfachgfgogllaaDoorJPayAll4
import Derived.Test.YtcfachgfgogllaaDoorAppends
import Derived.Test.YtcfachgfgogllaaDoorJPayAll0
import Derived.Test.YtcfachgfgogllaaDoorShaSumFn
import Derived.Test.YtcfachgfgogllaaDoorShaRefSum
import Derived.Test.YtcfachgfgogllaaDoorEqArr
import Derived.Test.YtcfachgfgogllaaDoorSteps
import Derived.Great.BuildSlice

/-
  What package payload's rises and Right come to. New memory alone is written. Conditions: fees below 2^32.
-/
namespace Go.Proofs.YtcfachgfgogllaaDoor
open Go.RowKit

set_option maxRecDepth 100000 in
set_option maxHeartbeats 400000 in
theorem ppRises_any (a : Option Addr) (k c : Nat) (us : List Tier) (f : Int) (w : World) (hU : TiersAt w a k c us) (h0 : 0 ≤ f) (hk : k ≤ maxLen) :
    Calls Tryd.prog 28 #[.slice a k c, .int .u32 f] w fun q w' => q = .returned (.bool (decide (lastF (-1) us < f))) ∧ w = w' := by
  by_cases hz : k = 0
  · have hul : us = [] := List.length_eq_zero_iff.1 (hU.1.trans hz)
    have hlast : decide (lastF (-1) us < f) = true := by rw [hul]; exact decide_eq_true (show (-1 : Int) < f by omega)
    rw [hlast]
    have hz0 : ((k : Int) == 0) = true := by rw [hz]; rfl
    clear hlast hul hU hz h0 hk
    go_enter Tryd.func28, Tryd.ntmps28
    go_wp2
    go_ret
    exact ⟨rfl, rfl⟩
  · obtain ⟨b, off, t, A, d, rfl, ht, c0, c1, hI, _⟩ := hU.get (k - 1) (by omega)
    obtain ⟨m, hm⟩ : ∃ m, k - 1 = m := ⟨_, rfl⟩
    rw [hm] at ht c0 c1
    have hlast := lastF_take (-1) ht
    rw [List.take_of_length_le (by rw [hU.1]; omega)] at hlast
    rw [hlast]
    obtain ⟨g, hg⟩ : ∃ g, t.1 = g := ⟨_, rfl⟩
    rw [hg] at c0 ⊢
    have hz0 : ((k : Int) == 0) = false := beq_false_of_ne (by omega)
    have hsub : wrap64 ((k : Int) - 1) = (m : Int) := by unfold maxLen at hk; unfold wrap64; omega
    have hmk : (m : Int) < (k : Int) := by omega
    clear hlast hU ht hI c1 hm hg hk hz h0
    by_cases hgf : g < f
    · go_enter Tryd.func28, Tryd.ntmps28
      go_wp2
      go_ret
      exact ⟨by first | rfl | simp [hgf], rfl⟩
    · go_enter Tryd.func28, Tryd.ntmps28
      go_wp2
      go_ret
      exact ⟨by first | rfl | simp [hgf], rfl⟩
theorem TiersAt.take {w : World} {a : Option Addr} {n c : Nat} {ts : List Tier} (h : TiersAt w a n c ts) (j : Nat) (hj : j ≤ n) : TiersAt w a j c (ts.take j) := by
  refine ⟨by rw [List.length_take, h.1]; omega, by have := h.2.1; omega, ?_⟩
  rcases h.2.2 with h0 | ⟨b, off, ha, hc⟩
  · exact .inl (by omega)
  · refine .inr ⟨b, off, ha, fun i t ht => ?_⟩
    rw [List.getElem?_take] at ht
    split at ht
    · exact hc i t ht
    · cases ht
theorem sizeTier : (Tryd.prog.info? 41).map (·.size) = some 2 := by kernel_rfl
theorem rowTier : IsRow Tryd.prog 41 2 := IsRow.struct Tryd.underlying41 sizeTier
theorem zeroTier : Zero Tryd.prog 41 [.int .u32 0, .slice none 0 0] := by unfold Zero; kernel_rfl

set_option maxRecDepth 100000 in
set_option maxHeartbeats 2000000 in
theorem ppRight_any (a : Option Addr) (n c : Nat) (ts : List Tier) (w : World) (hT : TiersAt w a n c ts) (hr : ∀ t ∈ ts, Ranged t) (hn : n ≤ maxLen) :
    Calls Tryd.prog 11 #[.agg #[.slice a n c]] w fun q w' => q = .returned (.bool (rightB ts)) ∧ Below w.heap.size w w' := by
  have hl := hT.1
  have hb := below1 w (.cells #[.slice a n c] 24)
  have hk : Blk (w.alloc (.cells #[.slice a n c] 24)) w.heap.size 24 [.slice a n c] := Blk.new w 24 [.slice a n c]
  have hT1 := hT.keep hb
  obtain ⟨W, hW⟩ : ∃ W, w.alloc (.cells #[.slice a n c] 24) = W := ⟨_, rfl⟩
  rw [hW] at hb hk hT1
  have hnm : (n : Int) ≤ 9223372036854775807 := by unfold maxLen at hn; omega
  have hnN := Lib.hid hn
  obtain ⟨F, hF⟩ : ∃ F, rightB ts = F := ⟨_, rfl⟩
  have hFH := Lib.hid hF
  rw [hF]
  obtain ⟨G, hG⟩ : ∃ G, w.heap.size = G := ⟨_, rfl⟩
  have hGH := Lib.hid hG
  have hkc := hk.cell 0
  rw [hG] at hk
  have hWH := Lib.hid hW
  have hbH := Lib.hid hb
  clear hF hT hn hG hb
  by_cases h1 : n < 1
  · have h1i : (n : Int) < 1 := by omega
    have g1 : decide ((n : Int) < 1) = true := decide_eq_true h1i
    have hFf : F = false := by rw [← hFH.out]; unfold rightB; rw [decide_eq_false (show ¬ 1 ≤ ts.length by omega), Bool.and_false, Bool.false_and]
    clear hk hT1
    go_enter Tryd.func11, Tryd.ntmps11
    go_wp2
    go_ret
    exact ⟨by first | rfl | (rw [hFf]; rfl), hbH.out⟩
  have h1i : ¬ (n : Int) < 1 := by omega
  have g1 : decide ((n : Int) < 1) = false := decide_eq_false h1i
  by_cases h8 : 8 < n
  · have h8i : (8 : Int) < (n : Int) := by omega
    have g8 : decide ((8 : Int) < (n : Int)) = true := decide_eq_true h8i
    have hFf : F = false := by rw [← hFH.out]; unfold rightB; rw [decide_eq_false (show ¬ ts.length ≤ 8 by omega), Bool.and_false]
    clear hk hT1
    go_enter Tryd.func11, Tryd.ntmps11
    go_wp2
    go_ret
    exact ⟨by first | rfl | (rw [hFf]; rfl), hbH.out⟩
  have h8i : ¬ (8 : Int) < (n : Int) := by omega
  have g8 : decide ((8 : Int) < (n : Int)) = false := decide_eq_false h8i
  have hFend := Lib.hid (fun h : tiersOkB (-1) ts = true => (by rw [← hFH.out]; unfold rightB; rw [h, decide_eq_true (show 1 ≤ ts.length by omega), decide_eq_true (show ts.length ≤ 8 by omega)]; rfl : F = true))
  have hn8 := Lib.hid h8
  clear h1 h8
  go_enter Tryd.func11, Tryd.ntmps11
  go_wp2_with fail
  have hb := hbH.out
  rw [hGH.out]
  clear hW hkc
  go_loopw [19] (fun i wr => ∃ j : Nat, j ≤ n ∧ i = .int .i64 j ∧ tiersOkB (-1) (ts.take j) = true ∧ Blk wr G 24 [.slice a n c] ∧ TiersAt wr a n c ts ∧ Below w.heap.size w wr) (fun i _ => n - (intOf i).toNat)
  case atStart => exact ⟨0, Nat.zero_le _, rfl, rfl, hk, hT1, hb⟩
  case round =>
    clear hk hT1 hb
    obtain ⟨j, hj, rfl, hok, hk, hT1, hb⟩ := hrel
    by_cases hlt : j < n
    · have hji : (j : Int) < (n : Int) := by omega
      obtain ⟨b, off, t, A, d, rfl, ht, c0, c1, hI, hrg⟩ := hT1.get j hlt
      have hrt := hr t (List.mem_of_getElem? ht)
      have hbad := fun h => tiers_bad (-1) ht h
      have hstp := tiers_step (-1) ht hok
      have hFbad := Lib.hid (fun h => (by rw [← hFH.out]; unfold rightB; rw [hbad h, Bool.false_and, Bool.false_and] : F = false))
      have hltH := Lib.hid hlt
      have hfe := hrt.fee
      have hTj := hT1.take j (Nat.le_of_lt hlt)
      have hjc : j ≤ c := by have := hT1.2.1; omega
      obtain ⟨LF, hLF⟩ : ∃ x, lastF (-1) (ts.take j) = x := ⟨_, rfl⟩
      have hris := Lib.hid (fun w' (h : Below wr.heap.size wr w') => ppRises_any (some ⟨b, off, none⟩) j c (ts.take j) t.1 w' (hTj.keep h) hfe.1 (by have := hnN.out; omega))
      obtain ⟨L, hL⟩ : ∃ L, t.2.length = L := ⟨_, rfl⟩
      obtain ⟨f, hf⟩ : ∃ f, t.1 = f := ⟨_, rfl⟩
      rw [hLF] at hFbad hstp hris
      rw [hL] at c1 hFbad hstp hrg
      rw [hf] at c0 hFbad hstp hfe hrg hris
      have hstH := Lib.hid hstp
      clear hlt hj hok hbad hstp hI ht hL hf hrt hfe hTj hLF
      by_cases h1 : L < 1
      · have hFf := hFbad.out (.inl h1)
        have h1i : (L : Int) < 1 := by omega
        have g1 : decide ((L : Int) < 1) = true := decide_eq_true h1i
        clear h1 hris
        go_wp2_with fail
        obtain ⟨H, hH⟩ : ∃ H, wr.heap.size = H := ⟨_, rfl⟩
        obtain ⟨V, hV⟩ : ∃ V, wr.alloc (.cells #[.int .u32 f, .slice A L d] 41) = V := ⟨_, rfl⟩
        have hkV : Blk V G 24 [.slice (some ⟨b, off, none⟩) n c] := by rw [← hV]; exact hk.alloc _
        have hN : Blk V H 41 [.int .u32 f, .slice A L d] := by rw [← hV, ← hH]; exact Blk.new wr _ _
        have bV : Below wr.heap.size wr V := by rw [← hV]; exact below1 wr _
        rw [hV, hH]
        have l0 := Lib.hid hkV.lt
        have l1 := Lib.hid hN.lt
        have k0 := Lib.hid (hkV.cell 0)
        have e0 := Lib.hid (hN.cell 0)
        have e1 := Lib.hid (hN.cell 1)
        have b1 : Below V.heap.size V V.drew := (Below.refl _ _).drew
        have bD : Below wr.heap.size wr V.drew := bV.trans (b1.mono bV.size)
        have BD : Below w.heap.size w V.drew := hb.trans (bD.mono hb.size)
        clear hV hH c0 c1 hrg hk hN hb
        refine region_seqS (fun w' => Below V.heap.size V w') (by kernel_rfl) b1 ?_
        simp only [pairs, Nat.reduceAdd]
        repeat (first
          | (refine SeqS.take (v := ?_) (by first | assumption | trivial) (by kernel_rfl) (by decide +kernel) (by decide +kernel) (Or.inl ⟨by rfl, ?_⟩) ?_
             rotate_left
             focus
               intro w' hb'
               go_simp
               with_reducible rfl
             simp only [Act.put, List.setIfInBounds_toArray, List.set_cons_zero, List.set_cons_succ])
          | (refine SeqS.take (v := ?_) (by first | assumption | trivial) (by kernel_rfl) (by decide +kernel) (by decide +kernel) (Or.inl ⟨by rfl, ?_⟩) ?_
             rotate_left
             focus
               intro w' hb'
               have d0 : w'.cell? ⟨G, 0, none⟩ = some (.slice (some ⟨b, off, none⟩) n c) := (hb'.cell l0.out).trans k0.out
               go_simp
               with_reducible rfl
             simp only [Act.put, List.setIfInBounds_toArray, List.set_cons_zero, List.set_cons_succ])
          | (refine SeqS.take (v := ?_) (by first | assumption | trivial) (by kernel_rfl) (by decide +kernel) (by decide +kernel) (Or.inl ⟨by rfl, ?_⟩) ?_
             rotate_left
             focus
               intro w' hb'
               have d0 : w'.cell? ⟨H, 0, none⟩ = some (.int .u32 f) := (hb'.cell l1.out).trans e0.out
               go_simp
               with_reducible rfl
             simp only [Act.put, List.setIfInBounds_toArray, List.set_cons_zero, List.set_cons_succ])
          | (refine SeqS.take (v := ?_) (by first | assumption | trivial) (by kernel_rfl) (by decide +kernel) (by decide +kernel) (Or.inl ⟨by rfl, ?_⟩) ?_
             rotate_left
             focus
               intro w' hb'
               have d0 : w'.cell? ⟨H, 1, none⟩ = some (.slice A L d) := (hb'.cell l1.out).trans e1.out
               go_simp
               with_reducible rfl
             simp only [Act.put, List.setIfInBounds_toArray, List.set_cons_zero, List.set_cons_succ])
          | (refine SeqS.take (v := undef) (by first | assumption | trivial) (by kernel_rfl) (by decide +kernel) (by decide +kernel) (Or.inr ⟨by rfl, rfl⟩) ?_
             simp only [Act.put, List.setIfInBounds_toArray, List.set_cons_zero, List.set_cons_succ])
          | (refine SeqS.take1 (v := ?_) (by first | assumption | trivial) (by kernel_rfl) (by decide +kernel) (by decide +kernel) (Or.inl ⟨by rfl, ?_⟩) ?_
             rotate_left
             focus
               intro w' hb'
               go_simp
               with_reducible rfl
             simp only [Act.put, List.setIfInBounds_toArray, List.set_cons_zero, List.set_cons_succ])
          | (refine SeqS.take1 (v := ?_) (by first | assumption | trivial) (by kernel_rfl) (by decide +kernel) (by decide +kernel) (Or.inl ⟨by rfl, ?_⟩) ?_
             rotate_left
             focus
               intro w' hb'
               have d0 : w'.cell? ⟨G, 0, none⟩ = some (.slice (some ⟨b, off, none⟩) n c) := (hb'.cell l0.out).trans k0.out
               go_simp
               with_reducible rfl
             simp only [Act.put, List.setIfInBounds_toArray, List.set_cons_zero, List.set_cons_succ])
          | (refine SeqS.take1 (v := ?_) (by first | assumption | trivial) (by kernel_rfl) (by decide +kernel) (by decide +kernel) (Or.inl ⟨by rfl, ?_⟩) ?_
             rotate_left
             focus
               intro w' hb'
               have d0 : w'.cell? ⟨H, 0, none⟩ = some (.int .u32 f) := (hb'.cell l1.out).trans e0.out
               go_simp
               with_reducible rfl
             simp only [Act.put, List.setIfInBounds_toArray, List.set_cons_zero, List.set_cons_succ])
          | (refine SeqS.take1 (v := ?_) (by first | assumption | trivial) (by kernel_rfl) (by decide +kernel) (by decide +kernel) (Or.inl ⟨by rfl, ?_⟩) ?_
             rotate_left
             focus
               intro w' hb'
               have d0 : w'.cell? ⟨H, 1, none⟩ = some (.slice A L d) := (hb'.cell l1.out).trans e1.out
               go_simp
               with_reducible rfl
             simp only [Act.put, List.setIfInBounds_toArray, List.set_cons_zero, List.set_cons_succ])
          | (refine SeqS.take1 (v := undef) (by first | assumption | trivial) (by kernel_rfl) (by decide +kernel) (by decide +kernel) (Or.inr ⟨by rfl, rfl⟩) ?_
             simp only [Act.put, List.setIfInBounds_toArray, List.set_cons_zero, List.set_cons_succ])
          | (refine SeqS.take2 (v := ?_) (by first | assumption | trivial) (by kernel_rfl) (by decide +kernel) (by decide +kernel) (Or.inl ⟨by rfl, ?_⟩) ?_
             rotate_left
             focus
               intro w' hb'
               go_simp
               with_reducible rfl
             simp only [Act.put, List.setIfInBounds_toArray, List.set_cons_zero, List.set_cons_succ])
          | (refine SeqS.take2 (v := ?_) (by first | assumption | trivial) (by kernel_rfl) (by decide +kernel) (by decide +kernel) (Or.inl ⟨by rfl, ?_⟩) ?_
             rotate_left
             focus
               intro w' hb'
               have d0 : w'.cell? ⟨G, 0, none⟩ = some (.slice (some ⟨b, off, none⟩) n c) := (hb'.cell l0.out).trans k0.out
               go_simp
               with_reducible rfl
             simp only [Act.put, List.setIfInBounds_toArray, List.set_cons_zero, List.set_cons_succ])
          | (refine SeqS.take2 (v := ?_) (by first | assumption | trivial) (by kernel_rfl) (by decide +kernel) (by decide +kernel) (Or.inl ⟨by rfl, ?_⟩) ?_
             rotate_left
             focus
               intro w' hb'
               have d0 : w'.cell? ⟨H, 0, none⟩ = some (.int .u32 f) := (hb'.cell l1.out).trans e0.out
               go_simp
               with_reducible rfl
             simp only [Act.put, List.setIfInBounds_toArray, List.set_cons_zero, List.set_cons_succ])
          | (refine SeqS.take2 (v := ?_) (by first | assumption | trivial) (by kernel_rfl) (by decide +kernel) (by decide +kernel) (Or.inl ⟨by rfl, ?_⟩) ?_
             rotate_left
             focus
               intro w' hb'
               have d0 : w'.cell? ⟨H, 1, none⟩ = some (.slice A L d) := (hb'.cell l1.out).trans e1.out
               go_simp
               with_reducible rfl
             simp only [Act.put, List.setIfInBounds_toArray, List.set_cons_zero, List.set_cons_succ])
          | (refine SeqS.take2 (v := undef) (by first | assumption | trivial) (by kernel_rfl) (by decide +kernel) (by decide +kernel) (Or.inr ⟨by rfl, rfl⟩) ?_
             simp only [Act.put, List.setIfInBounds_toArray, List.set_cons_zero, List.set_cons_succ]))
        refine SeqS.done (by decide +kernel) ?_
        obtain ⟨V2, hV2⟩ : ∃ V2, V.drew = V2 := ⟨_, rfl⟩
        rw [hV2] at BD ⊢
        clear hV2 b1 bD
        go_wp2
        go_ret
        exact ⟨by first | rfl | (rw [hFf]; rfl), BD⟩
      have h1i : ¬ (L : Int) < 1 := by omega
      have g1 : decide ((L : Int) < 1) = false := decide_eq_false h1i
      by_cases h2 : 64 < L
      · have hFf := hFbad.out (.inr (.inl h2))
        have h2i : 64 < (L : Int) := by omega
        have g2 : decide ((64 : Int) < (L : Int)) = true := decide_eq_true h2i
        clear h1 h2 hris
        go_wp2_with fail
        obtain ⟨H, hH⟩ : ∃ H, wr.heap.size = H := ⟨_, rfl⟩
        obtain ⟨V, hV⟩ : ∃ V, wr.alloc (.cells #[.int .u32 f, .slice A L d] 41) = V := ⟨_, rfl⟩
        have hkV : Blk V G 24 [.slice (some ⟨b, off, none⟩) n c] := by rw [← hV]; exact hk.alloc _
        have hN : Blk V H 41 [.int .u32 f, .slice A L d] := by rw [← hV, ← hH]; exact Blk.new wr _ _
        have bV : Below wr.heap.size wr V := by rw [← hV]; exact below1 wr _
        rw [hV, hH]
        have l0 := Lib.hid hkV.lt
        have l1 := Lib.hid hN.lt
        have k0 := Lib.hid (hkV.cell 0)
        have e0 := Lib.hid (hN.cell 0)
        have e1 := Lib.hid (hN.cell 1)
        have b1 : Below V.heap.size V V.drew := (Below.refl _ _).drew
        have bD : Below wr.heap.size wr V.drew := bV.trans (b1.mono bV.size)
        have BD : Below w.heap.size w V.drew := hb.trans (bD.mono hb.size)
        clear hV hH c0 c1 hrg hk hN hb
        refine region_seqS (fun w' => Below V.heap.size V w') (by kernel_rfl) b1 ?_
        simp only [pairs, Nat.reduceAdd]
        repeat (first
          | (refine SeqS.take (v := ?_) (by first | assumption | trivial) (by kernel_rfl) (by decide +kernel) (by decide +kernel) (Or.inl ⟨by rfl, ?_⟩) ?_
             rotate_left
             focus
               intro w' hb'
               go_simp
               with_reducible rfl
             simp only [Act.put, List.setIfInBounds_toArray, List.set_cons_zero, List.set_cons_succ])
          | (refine SeqS.take (v := ?_) (by first | assumption | trivial) (by kernel_rfl) (by decide +kernel) (by decide +kernel) (Or.inl ⟨by rfl, ?_⟩) ?_
             rotate_left
             focus
               intro w' hb'
               have d0 : w'.cell? ⟨G, 0, none⟩ = some (.slice (some ⟨b, off, none⟩) n c) := (hb'.cell l0.out).trans k0.out
               go_simp
               with_reducible rfl
             simp only [Act.put, List.setIfInBounds_toArray, List.set_cons_zero, List.set_cons_succ])
          | (refine SeqS.take (v := ?_) (by first | assumption | trivial) (by kernel_rfl) (by decide +kernel) (by decide +kernel) (Or.inl ⟨by rfl, ?_⟩) ?_
             rotate_left
             focus
               intro w' hb'
               have d0 : w'.cell? ⟨H, 0, none⟩ = some (.int .u32 f) := (hb'.cell l1.out).trans e0.out
               go_simp
               with_reducible rfl
             simp only [Act.put, List.setIfInBounds_toArray, List.set_cons_zero, List.set_cons_succ])
          | (refine SeqS.take (v := ?_) (by first | assumption | trivial) (by kernel_rfl) (by decide +kernel) (by decide +kernel) (Or.inl ⟨by rfl, ?_⟩) ?_
             rotate_left
             focus
               intro w' hb'
               have d0 : w'.cell? ⟨H, 1, none⟩ = some (.slice A L d) := (hb'.cell l1.out).trans e1.out
               go_simp
               with_reducible rfl
             simp only [Act.put, List.setIfInBounds_toArray, List.set_cons_zero, List.set_cons_succ])
          | (refine SeqS.take (v := undef) (by first | assumption | trivial) (by kernel_rfl) (by decide +kernel) (by decide +kernel) (Or.inr ⟨by rfl, rfl⟩) ?_
             simp only [Act.put, List.setIfInBounds_toArray, List.set_cons_zero, List.set_cons_succ])
          | (refine SeqS.take1 (v := ?_) (by first | assumption | trivial) (by kernel_rfl) (by decide +kernel) (by decide +kernel) (Or.inl ⟨by rfl, ?_⟩) ?_
             rotate_left
             focus
               intro w' hb'
               go_simp
               with_reducible rfl
             simp only [Act.put, List.setIfInBounds_toArray, List.set_cons_zero, List.set_cons_succ])
          | (refine SeqS.take1 (v := ?_) (by first | assumption | trivial) (by kernel_rfl) (by decide +kernel) (by decide +kernel) (Or.inl ⟨by rfl, ?_⟩) ?_
             rotate_left
             focus
               intro w' hb'
               have d0 : w'.cell? ⟨G, 0, none⟩ = some (.slice (some ⟨b, off, none⟩) n c) := (hb'.cell l0.out).trans k0.out
               go_simp
               with_reducible rfl
             simp only [Act.put, List.setIfInBounds_toArray, List.set_cons_zero, List.set_cons_succ])
          | (refine SeqS.take1 (v := ?_) (by first | assumption | trivial) (by kernel_rfl) (by decide +kernel) (by decide +kernel) (Or.inl ⟨by rfl, ?_⟩) ?_
             rotate_left
             focus
               intro w' hb'
               have d0 : w'.cell? ⟨H, 0, none⟩ = some (.int .u32 f) := (hb'.cell l1.out).trans e0.out
               go_simp
               with_reducible rfl
             simp only [Act.put, List.setIfInBounds_toArray, List.set_cons_zero, List.set_cons_succ])
          | (refine SeqS.take1 (v := ?_) (by first | assumption | trivial) (by kernel_rfl) (by decide +kernel) (by decide +kernel) (Or.inl ⟨by rfl, ?_⟩) ?_
             rotate_left
             focus
               intro w' hb'
               have d0 : w'.cell? ⟨H, 1, none⟩ = some (.slice A L d) := (hb'.cell l1.out).trans e1.out
               go_simp
               with_reducible rfl
             simp only [Act.put, List.setIfInBounds_toArray, List.set_cons_zero, List.set_cons_succ])
          | (refine SeqS.take1 (v := undef) (by first | assumption | trivial) (by kernel_rfl) (by decide +kernel) (by decide +kernel) (Or.inr ⟨by rfl, rfl⟩) ?_
             simp only [Act.put, List.setIfInBounds_toArray, List.set_cons_zero, List.set_cons_succ])
          | (refine SeqS.take2 (v := ?_) (by first | assumption | trivial) (by kernel_rfl) (by decide +kernel) (by decide +kernel) (Or.inl ⟨by rfl, ?_⟩) ?_
             rotate_left
             focus
               intro w' hb'
               go_simp
               with_reducible rfl
             simp only [Act.put, List.setIfInBounds_toArray, List.set_cons_zero, List.set_cons_succ])
          | (refine SeqS.take2 (v := ?_) (by first | assumption | trivial) (by kernel_rfl) (by decide +kernel) (by decide +kernel) (Or.inl ⟨by rfl, ?_⟩) ?_
             rotate_left
             focus
               intro w' hb'
               have d0 : w'.cell? ⟨G, 0, none⟩ = some (.slice (some ⟨b, off, none⟩) n c) := (hb'.cell l0.out).trans k0.out
               go_simp
               with_reducible rfl
             simp only [Act.put, List.setIfInBounds_toArray, List.set_cons_zero, List.set_cons_succ])
          | (refine SeqS.take2 (v := ?_) (by first | assumption | trivial) (by kernel_rfl) (by decide +kernel) (by decide +kernel) (Or.inl ⟨by rfl, ?_⟩) ?_
             rotate_left
             focus
               intro w' hb'
               have d0 : w'.cell? ⟨H, 0, none⟩ = some (.int .u32 f) := (hb'.cell l1.out).trans e0.out
               go_simp
               with_reducible rfl
             simp only [Act.put, List.setIfInBounds_toArray, List.set_cons_zero, List.set_cons_succ])
          | (refine SeqS.take2 (v := ?_) (by first | assumption | trivial) (by kernel_rfl) (by decide +kernel) (by decide +kernel) (Or.inl ⟨by rfl, ?_⟩) ?_
             rotate_left
             focus
               intro w' hb'
               have d0 : w'.cell? ⟨H, 1, none⟩ = some (.slice A L d) := (hb'.cell l1.out).trans e1.out
               go_simp
               with_reducible rfl
             simp only [Act.put, List.setIfInBounds_toArray, List.set_cons_zero, List.set_cons_succ])
          | (refine SeqS.take2 (v := undef) (by first | assumption | trivial) (by kernel_rfl) (by decide +kernel) (by decide +kernel) (Or.inr ⟨by rfl, rfl⟩) ?_
             simp only [Act.put, List.setIfInBounds_toArray, List.set_cons_zero, List.set_cons_succ]))
        refine SeqS.done (by decide +kernel) ?_
        obtain ⟨V2, hV2⟩ : ∃ V2, V.drew = V2 := ⟨_, rfl⟩
        rw [hV2] at BD ⊢
        clear hV2 b1 bD
        go_wp2
        go_ret
        exact ⟨by first | rfl | (rw [hFf]; rfl), BD⟩
      have h2i : ¬ 64 < (L : Int) := by omega
      have g2 : decide ((64 : Int) < (L : Int)) = false := decide_eq_false h2i
      by_cases h3 : LF < f
      · rw [decide_eq_true h3] at hris
        have hnew := Lib.hid (hstH.out (by omega) (by omega) h3)
        clear h1 h2 h3
        go_wp2_with fail
        obtain ⟨H, hH⟩ : ∃ H, wr.heap.size = H := ⟨_, rfl⟩
        obtain ⟨V, hV⟩ : ∃ V, wr.alloc (.cells #[.int .u32 f, .slice A L d] 41) = V := ⟨_, rfl⟩
        have hkV : Blk V G 24 [.slice (some ⟨b, off, none⟩) n c] := by rw [← hV]; exact hk.alloc _
        have hN : Blk V H 41 [.int .u32 f, .slice A L d] := by rw [← hV, ← hH]; exact Blk.new wr _ _
        have bV : Below wr.heap.size wr V := by rw [← hV]; exact below1 wr _
        rw [hV, hH]
        have l0 := Lib.hid hkV.lt
        have l1 := Lib.hid hN.lt
        have k0 := Lib.hid (hkV.cell 0)
        have e0 := Lib.hid (hN.cell 0)
        have e1 := Lib.hid (hN.cell 1)
        have b1 : Below V.heap.size V V.drew := (Below.refl _ _).drew
        have bD : Below wr.heap.size wr V.drew := bV.trans (b1.mono bV.size)
        have BD : Below w.heap.size w V.drew := hb.trans (bD.mono hb.size)
        clear hV hH c0 c1 hrg hk hN hb
        refine region_seqS (fun w' => Below V.heap.size V w') (by kernel_rfl) b1 ?_
        simp only [pairs, Nat.reduceAdd]
        repeat (first
          | (refine SeqS.take (v := ?_) (by first | assumption | trivial) (by kernel_rfl) (by decide +kernel) (by decide +kernel) (Or.inl ⟨by rfl, ?_⟩) ?_
             rotate_left
             focus
               intro w' hb'
               go_simp
               with_reducible rfl
             simp only [Act.put, List.setIfInBounds_toArray, List.set_cons_zero, List.set_cons_succ])
          | (refine SeqS.take (v := ?_) (by first | assumption | trivial) (by kernel_rfl) (by decide +kernel) (by decide +kernel) (Or.inl ⟨by rfl, ?_⟩) ?_
             rotate_left
             focus
               intro w' hb'
               have d0 : w'.cell? ⟨G, 0, none⟩ = some (.slice (some ⟨b, off, none⟩) n c) := (hb'.cell l0.out).trans k0.out
               go_simp
               with_reducible rfl
             simp only [Act.put, List.setIfInBounds_toArray, List.set_cons_zero, List.set_cons_succ])
          | (refine SeqS.take (v := ?_) (by first | assumption | trivial) (by kernel_rfl) (by decide +kernel) (by decide +kernel) (Or.inl ⟨by rfl, ?_⟩) ?_
             rotate_left
             focus
               intro w' hb'
               have d0 : w'.cell? ⟨H, 0, none⟩ = some (.int .u32 f) := (hb'.cell l1.out).trans e0.out
               go_simp
               with_reducible rfl
             simp only [Act.put, List.setIfInBounds_toArray, List.set_cons_zero, List.set_cons_succ])
          | (refine SeqS.take (v := ?_) (by first | assumption | trivial) (by kernel_rfl) (by decide +kernel) (by decide +kernel) (Or.inl ⟨by rfl, ?_⟩) ?_
             rotate_left
             focus
               intro w' hb'
               have d0 : w'.cell? ⟨H, 1, none⟩ = some (.slice A L d) := (hb'.cell l1.out).trans e1.out
               go_simp
               with_reducible rfl
             simp only [Act.put, List.setIfInBounds_toArray, List.set_cons_zero, List.set_cons_succ])
          | (refine SeqS.take (v := undef) (by first | assumption | trivial) (by kernel_rfl) (by decide +kernel) (by decide +kernel) (Or.inr ⟨by rfl, rfl⟩) ?_
             simp only [Act.put, List.setIfInBounds_toArray, List.set_cons_zero, List.set_cons_succ])
          | (refine SeqS.take1 (v := ?_) (by first | assumption | trivial) (by kernel_rfl) (by decide +kernel) (by decide +kernel) (Or.inl ⟨by rfl, ?_⟩) ?_
             rotate_left
             focus
               intro w' hb'
               go_simp
               with_reducible rfl
             simp only [Act.put, List.setIfInBounds_toArray, List.set_cons_zero, List.set_cons_succ])
          | (refine SeqS.take1 (v := ?_) (by first | assumption | trivial) (by kernel_rfl) (by decide +kernel) (by decide +kernel) (Or.inl ⟨by rfl, ?_⟩) ?_
             rotate_left
             focus
               intro w' hb'
               have d0 : w'.cell? ⟨G, 0, none⟩ = some (.slice (some ⟨b, off, none⟩) n c) := (hb'.cell l0.out).trans k0.out
               go_simp
               with_reducible rfl
             simp only [Act.put, List.setIfInBounds_toArray, List.set_cons_zero, List.set_cons_succ])
          | (refine SeqS.take1 (v := ?_) (by first | assumption | trivial) (by kernel_rfl) (by decide +kernel) (by decide +kernel) (Or.inl ⟨by rfl, ?_⟩) ?_
             rotate_left
             focus
               intro w' hb'
               have d0 : w'.cell? ⟨H, 0, none⟩ = some (.int .u32 f) := (hb'.cell l1.out).trans e0.out
               go_simp
               with_reducible rfl
             simp only [Act.put, List.setIfInBounds_toArray, List.set_cons_zero, List.set_cons_succ])
          | (refine SeqS.take1 (v := ?_) (by first | assumption | trivial) (by kernel_rfl) (by decide +kernel) (by decide +kernel) (Or.inl ⟨by rfl, ?_⟩) ?_
             rotate_left
             focus
               intro w' hb'
               have d0 : w'.cell? ⟨H, 1, none⟩ = some (.slice A L d) := (hb'.cell l1.out).trans e1.out
               go_simp
               with_reducible rfl
             simp only [Act.put, List.setIfInBounds_toArray, List.set_cons_zero, List.set_cons_succ])
          | (refine SeqS.take1 (v := undef) (by first | assumption | trivial) (by kernel_rfl) (by decide +kernel) (by decide +kernel) (Or.inr ⟨by rfl, rfl⟩) ?_
             simp only [Act.put, List.setIfInBounds_toArray, List.set_cons_zero, List.set_cons_succ])
          | (refine SeqS.take2 (v := ?_) (by first | assumption | trivial) (by kernel_rfl) (by decide +kernel) (by decide +kernel) (Or.inl ⟨by rfl, ?_⟩) ?_
             rotate_left
             focus
               intro w' hb'
               go_simp
               with_reducible rfl
             simp only [Act.put, List.setIfInBounds_toArray, List.set_cons_zero, List.set_cons_succ])
          | (refine SeqS.take2 (v := ?_) (by first | assumption | trivial) (by kernel_rfl) (by decide +kernel) (by decide +kernel) (Or.inl ⟨by rfl, ?_⟩) ?_
             rotate_left
             focus
               intro w' hb'
               have d0 : w'.cell? ⟨G, 0, none⟩ = some (.slice (some ⟨b, off, none⟩) n c) := (hb'.cell l0.out).trans k0.out
               go_simp
               with_reducible rfl
             simp only [Act.put, List.setIfInBounds_toArray, List.set_cons_zero, List.set_cons_succ])
          | (refine SeqS.take2 (v := ?_) (by first | assumption | trivial) (by kernel_rfl) (by decide +kernel) (by decide +kernel) (Or.inl ⟨by rfl, ?_⟩) ?_
             rotate_left
             focus
               intro w' hb'
               have d0 : w'.cell? ⟨H, 0, none⟩ = some (.int .u32 f) := (hb'.cell l1.out).trans e0.out
               go_simp
               with_reducible rfl
             simp only [Act.put, List.setIfInBounds_toArray, List.set_cons_zero, List.set_cons_succ])
          | (refine SeqS.take2 (v := ?_) (by first | assumption | trivial) (by kernel_rfl) (by decide +kernel) (by decide +kernel) (Or.inl ⟨by rfl, ?_⟩) ?_
             rotate_left
             focus
               intro w' hb'
               have d0 : w'.cell? ⟨H, 1, none⟩ = some (.slice A L d) := (hb'.cell l1.out).trans e1.out
               go_simp
               with_reducible rfl
             simp only [Act.put, List.setIfInBounds_toArray, List.set_cons_zero, List.set_cons_succ])
          | (refine SeqS.take2 (v := undef) (by first | assumption | trivial) (by kernel_rfl) (by decide +kernel) (by decide +kernel) (Or.inr ⟨by rfl, rfl⟩) ?_
             simp only [Act.put, List.setIfInBounds_toArray, List.set_cons_zero, List.set_cons_succ]))
        refine SeqS.alone (by decide +kernel) (by rfl) (fun K hK => ?_)
        go_simp
        go_at_call 28
        refine (hris.out _ bD).mono ?_
        rintro e w3 ⟨rfl, rfl⟩
        go_simp
        refine hK _ _ b1 ?_
        clear hK K
        repeat (first
          | (refine SeqS.take (v := ?_) (by first | assumption | trivial) (by kernel_rfl) (by decide +kernel) (by decide +kernel) (Or.inl ⟨by rfl, ?_⟩) ?_
             rotate_left
             focus
               intro w' hb'
               go_simp
               with_reducible rfl
             simp only [Act.put, List.setIfInBounds_toArray, List.set_cons_zero, List.set_cons_succ])
          | (refine SeqS.take (v := ?_) (by first | assumption | trivial) (by kernel_rfl) (by decide +kernel) (by decide +kernel) (Or.inl ⟨by rfl, ?_⟩) ?_
             rotate_left
             focus
               intro w' hb'
               have d0 : w'.cell? ⟨G, 0, none⟩ = some (.slice (some ⟨b, off, none⟩) n c) := (hb'.cell l0.out).trans k0.out
               go_simp
               with_reducible rfl
             simp only [Act.put, List.setIfInBounds_toArray, List.set_cons_zero, List.set_cons_succ])
          | (refine SeqS.take (v := ?_) (by first | assumption | trivial) (by kernel_rfl) (by decide +kernel) (by decide +kernel) (Or.inl ⟨by rfl, ?_⟩) ?_
             rotate_left
             focus
               intro w' hb'
               have d0 : w'.cell? ⟨H, 0, none⟩ = some (.int .u32 f) := (hb'.cell l1.out).trans e0.out
               go_simp
               with_reducible rfl
             simp only [Act.put, List.setIfInBounds_toArray, List.set_cons_zero, List.set_cons_succ])
          | (refine SeqS.take (v := ?_) (by first | assumption | trivial) (by kernel_rfl) (by decide +kernel) (by decide +kernel) (Or.inl ⟨by rfl, ?_⟩) ?_
             rotate_left
             focus
               intro w' hb'
               have d0 : w'.cell? ⟨H, 1, none⟩ = some (.slice A L d) := (hb'.cell l1.out).trans e1.out
               go_simp
               with_reducible rfl
             simp only [Act.put, List.setIfInBounds_toArray, List.set_cons_zero, List.set_cons_succ])
          | (refine SeqS.take (v := undef) (by first | assumption | trivial) (by kernel_rfl) (by decide +kernel) (by decide +kernel) (Or.inr ⟨by rfl, rfl⟩) ?_
             simp only [Act.put, List.setIfInBounds_toArray, List.set_cons_zero, List.set_cons_succ])
          | (refine SeqS.take1 (v := ?_) (by first | assumption | trivial) (by kernel_rfl) (by decide +kernel) (by decide +kernel) (Or.inl ⟨by rfl, ?_⟩) ?_
             rotate_left
             focus
               intro w' hb'
               go_simp
               with_reducible rfl
             simp only [Act.put, List.setIfInBounds_toArray, List.set_cons_zero, List.set_cons_succ])
          | (refine SeqS.take1 (v := ?_) (by first | assumption | trivial) (by kernel_rfl) (by decide +kernel) (by decide +kernel) (Or.inl ⟨by rfl, ?_⟩) ?_
             rotate_left
             focus
               intro w' hb'
               have d0 : w'.cell? ⟨G, 0, none⟩ = some (.slice (some ⟨b, off, none⟩) n c) := (hb'.cell l0.out).trans k0.out
               go_simp
               with_reducible rfl
             simp only [Act.put, List.setIfInBounds_toArray, List.set_cons_zero, List.set_cons_succ])
          | (refine SeqS.take1 (v := ?_) (by first | assumption | trivial) (by kernel_rfl) (by decide +kernel) (by decide +kernel) (Or.inl ⟨by rfl, ?_⟩) ?_
             rotate_left
             focus
               intro w' hb'
               have d0 : w'.cell? ⟨H, 0, none⟩ = some (.int .u32 f) := (hb'.cell l1.out).trans e0.out
               go_simp
               with_reducible rfl
             simp only [Act.put, List.setIfInBounds_toArray, List.set_cons_zero, List.set_cons_succ])
          | (refine SeqS.take1 (v := ?_) (by first | assumption | trivial) (by kernel_rfl) (by decide +kernel) (by decide +kernel) (Or.inl ⟨by rfl, ?_⟩) ?_
             rotate_left
             focus
               intro w' hb'
               have d0 : w'.cell? ⟨H, 1, none⟩ = some (.slice A L d) := (hb'.cell l1.out).trans e1.out
               go_simp
               with_reducible rfl
             simp only [Act.put, List.setIfInBounds_toArray, List.set_cons_zero, List.set_cons_succ])
          | (refine SeqS.take1 (v := undef) (by first | assumption | trivial) (by kernel_rfl) (by decide +kernel) (by decide +kernel) (Or.inr ⟨by rfl, rfl⟩) ?_
             simp only [Act.put, List.setIfInBounds_toArray, List.set_cons_zero, List.set_cons_succ])
          | (refine SeqS.take2 (v := ?_) (by first | assumption | trivial) (by kernel_rfl) (by decide +kernel) (by decide +kernel) (Or.inl ⟨by rfl, ?_⟩) ?_
             rotate_left
             focus
               intro w' hb'
               go_simp
               with_reducible rfl
             simp only [Act.put, List.setIfInBounds_toArray, List.set_cons_zero, List.set_cons_succ])
          | (refine SeqS.take2 (v := ?_) (by first | assumption | trivial) (by kernel_rfl) (by decide +kernel) (by decide +kernel) (Or.inl ⟨by rfl, ?_⟩) ?_
             rotate_left
             focus
               intro w' hb'
               have d0 : w'.cell? ⟨G, 0, none⟩ = some (.slice (some ⟨b, off, none⟩) n c) := (hb'.cell l0.out).trans k0.out
               go_simp
               with_reducible rfl
             simp only [Act.put, List.setIfInBounds_toArray, List.set_cons_zero, List.set_cons_succ])
          | (refine SeqS.take2 (v := ?_) (by first | assumption | trivial) (by kernel_rfl) (by decide +kernel) (by decide +kernel) (Or.inl ⟨by rfl, ?_⟩) ?_
             rotate_left
             focus
               intro w' hb'
               have d0 : w'.cell? ⟨H, 0, none⟩ = some (.int .u32 f) := (hb'.cell l1.out).trans e0.out
               go_simp
               with_reducible rfl
             simp only [Act.put, List.setIfInBounds_toArray, List.set_cons_zero, List.set_cons_succ])
          | (refine SeqS.take2 (v := ?_) (by first | assumption | trivial) (by kernel_rfl) (by decide +kernel) (by decide +kernel) (Or.inl ⟨by rfl, ?_⟩) ?_
             rotate_left
             focus
               intro w' hb'
               have d0 : w'.cell? ⟨H, 1, none⟩ = some (.slice A L d) := (hb'.cell l1.out).trans e1.out
               go_simp
               with_reducible rfl
             simp only [Act.put, List.setIfInBounds_toArray, List.set_cons_zero, List.set_cons_succ])
          | (refine SeqS.take2 (v := undef) (by first | assumption | trivial) (by kernel_rfl) (by decide +kernel) (by decide +kernel) (Or.inr ⟨by rfl, rfl⟩) ?_
             simp only [Act.put, List.setIfInBounds_toArray, List.set_cons_zero, List.set_cons_succ]))
        refine SeqS.done (by decide +kernel) ?_
        have hkd := hkV.drew
        have hTd := (hT1.keep bV).keep b1
        obtain ⟨V2, hV2⟩ : ∃ V2, V.drew = V2 := ⟨_, rfl⟩
        rw [hV2] at hkd hTd BD ⊢
        clear hV2 b1 hkV hT1 bV bD
        go_wp2
        exact ⟨⟨j + 1, by have := hltH.out; omega, by congr 1, hnew.out, hkd, hTd, BD⟩, by simp only [intOf]; have := hltH.out; omega⟩
      · rw [decide_eq_false h3] at hris
        have hFf := hFbad.out (.inr (.inr h3))
        clear h1 h2 h3
        go_wp2_with fail
        obtain ⟨H, hH⟩ : ∃ H, wr.heap.size = H := ⟨_, rfl⟩
        obtain ⟨V, hV⟩ : ∃ V, wr.alloc (.cells #[.int .u32 f, .slice A L d] 41) = V := ⟨_, rfl⟩
        have hkV : Blk V G 24 [.slice (some ⟨b, off, none⟩) n c] := by rw [← hV]; exact hk.alloc _
        have hN : Blk V H 41 [.int .u32 f, .slice A L d] := by rw [← hV, ← hH]; exact Blk.new wr _ _
        have bV : Below wr.heap.size wr V := by rw [← hV]; exact below1 wr _
        rw [hV, hH]
        have l0 := Lib.hid hkV.lt
        have l1 := Lib.hid hN.lt
        have k0 := Lib.hid (hkV.cell 0)
        have e0 := Lib.hid (hN.cell 0)
        have e1 := Lib.hid (hN.cell 1)
        have b1 : Below V.heap.size V V.drew := (Below.refl _ _).drew
        have bD : Below wr.heap.size wr V.drew := bV.trans (b1.mono bV.size)
        have BD : Below w.heap.size w V.drew := hb.trans (bD.mono hb.size)
        clear hV hH c0 c1 hrg hk hN hb
        refine region_seqS (fun w' => Below V.heap.size V w') (by kernel_rfl) b1 ?_
        simp only [pairs, Nat.reduceAdd]
        repeat (first
          | (refine SeqS.take (v := ?_) (by first | assumption | trivial) (by kernel_rfl) (by decide +kernel) (by decide +kernel) (Or.inl ⟨by rfl, ?_⟩) ?_
             rotate_left
             focus
               intro w' hb'
               go_simp
               with_reducible rfl
             simp only [Act.put, List.setIfInBounds_toArray, List.set_cons_zero, List.set_cons_succ])
          | (refine SeqS.take (v := ?_) (by first | assumption | trivial) (by kernel_rfl) (by decide +kernel) (by decide +kernel) (Or.inl ⟨by rfl, ?_⟩) ?_
             rotate_left
             focus
               intro w' hb'
               have d0 : w'.cell? ⟨G, 0, none⟩ = some (.slice (some ⟨b, off, none⟩) n c) := (hb'.cell l0.out).trans k0.out
               go_simp
               with_reducible rfl
             simp only [Act.put, List.setIfInBounds_toArray, List.set_cons_zero, List.set_cons_succ])
          | (refine SeqS.take (v := ?_) (by first | assumption | trivial) (by kernel_rfl) (by decide +kernel) (by decide +kernel) (Or.inl ⟨by rfl, ?_⟩) ?_
             rotate_left
             focus
               intro w' hb'
               have d0 : w'.cell? ⟨H, 0, none⟩ = some (.int .u32 f) := (hb'.cell l1.out).trans e0.out
               go_simp
               with_reducible rfl
             simp only [Act.put, List.setIfInBounds_toArray, List.set_cons_zero, List.set_cons_succ])
          | (refine SeqS.take (v := ?_) (by first | assumption | trivial) (by kernel_rfl) (by decide +kernel) (by decide +kernel) (Or.inl ⟨by rfl, ?_⟩) ?_
             rotate_left
             focus
               intro w' hb'
               have d0 : w'.cell? ⟨H, 1, none⟩ = some (.slice A L d) := (hb'.cell l1.out).trans e1.out
               go_simp
               with_reducible rfl
             simp only [Act.put, List.setIfInBounds_toArray, List.set_cons_zero, List.set_cons_succ])
          | (refine SeqS.take (v := undef) (by first | assumption | trivial) (by kernel_rfl) (by decide +kernel) (by decide +kernel) (Or.inr ⟨by rfl, rfl⟩) ?_
             simp only [Act.put, List.setIfInBounds_toArray, List.set_cons_zero, List.set_cons_succ])
          | (refine SeqS.take1 (v := ?_) (by first | assumption | trivial) (by kernel_rfl) (by decide +kernel) (by decide +kernel) (Or.inl ⟨by rfl, ?_⟩) ?_
             rotate_left
             focus
               intro w' hb'
               go_simp
               with_reducible rfl
             simp only [Act.put, List.setIfInBounds_toArray, List.set_cons_zero, List.set_cons_succ])
          | (refine SeqS.take1 (v := ?_) (by first | assumption | trivial) (by kernel_rfl) (by decide +kernel) (by decide +kernel) (Or.inl ⟨by rfl, ?_⟩) ?_
             rotate_left
             focus
               intro w' hb'
               have d0 : w'.cell? ⟨G, 0, none⟩ = some (.slice (some ⟨b, off, none⟩) n c) := (hb'.cell l0.out).trans k0.out
               go_simp
               with_reducible rfl
             simp only [Act.put, List.setIfInBounds_toArray, List.set_cons_zero, List.set_cons_succ])
          | (refine SeqS.take1 (v := ?_) (by first | assumption | trivial) (by kernel_rfl) (by decide +kernel) (by decide +kernel) (Or.inl ⟨by rfl, ?_⟩) ?_
             rotate_left
             focus
               intro w' hb'
               have d0 : w'.cell? ⟨H, 0, none⟩ = some (.int .u32 f) := (hb'.cell l1.out).trans e0.out
               go_simp
               with_reducible rfl
             simp only [Act.put, List.setIfInBounds_toArray, List.set_cons_zero, List.set_cons_succ])
          | (refine SeqS.take1 (v := ?_) (by first | assumption | trivial) (by kernel_rfl) (by decide +kernel) (by decide +kernel) (Or.inl ⟨by rfl, ?_⟩) ?_
             rotate_left
             focus
               intro w' hb'
               have d0 : w'.cell? ⟨H, 1, none⟩ = some (.slice A L d) := (hb'.cell l1.out).trans e1.out
               go_simp
               with_reducible rfl
             simp only [Act.put, List.setIfInBounds_toArray, List.set_cons_zero, List.set_cons_succ])
          | (refine SeqS.take1 (v := undef) (by first | assumption | trivial) (by kernel_rfl) (by decide +kernel) (by decide +kernel) (Or.inr ⟨by rfl, rfl⟩) ?_
             simp only [Act.put, List.setIfInBounds_toArray, List.set_cons_zero, List.set_cons_succ])
          | (refine SeqS.take2 (v := ?_) (by first | assumption | trivial) (by kernel_rfl) (by decide +kernel) (by decide +kernel) (Or.inl ⟨by rfl, ?_⟩) ?_
             rotate_left
             focus
               intro w' hb'
               go_simp
               with_reducible rfl
             simp only [Act.put, List.setIfInBounds_toArray, List.set_cons_zero, List.set_cons_succ])
          | (refine SeqS.take2 (v := ?_) (by first | assumption | trivial) (by kernel_rfl) (by decide +kernel) (by decide +kernel) (Or.inl ⟨by rfl, ?_⟩) ?_
             rotate_left
             focus
               intro w' hb'
               have d0 : w'.cell? ⟨G, 0, none⟩ = some (.slice (some ⟨b, off, none⟩) n c) := (hb'.cell l0.out).trans k0.out
               go_simp
               with_reducible rfl
             simp only [Act.put, List.setIfInBounds_toArray, List.set_cons_zero, List.set_cons_succ])
          | (refine SeqS.take2 (v := ?_) (by first | assumption | trivial) (by kernel_rfl) (by decide +kernel) (by decide +kernel) (Or.inl ⟨by rfl, ?_⟩) ?_
             rotate_left
             focus
               intro w' hb'
               have d0 : w'.cell? ⟨H, 0, none⟩ = some (.int .u32 f) := (hb'.cell l1.out).trans e0.out
               go_simp
               with_reducible rfl
             simp only [Act.put, List.setIfInBounds_toArray, List.set_cons_zero, List.set_cons_succ])
          | (refine SeqS.take2 (v := ?_) (by first | assumption | trivial) (by kernel_rfl) (by decide +kernel) (by decide +kernel) (Or.inl ⟨by rfl, ?_⟩) ?_
             rotate_left
             focus
               intro w' hb'
               have d0 : w'.cell? ⟨H, 1, none⟩ = some (.slice A L d) := (hb'.cell l1.out).trans e1.out
               go_simp
               with_reducible rfl
             simp only [Act.put, List.setIfInBounds_toArray, List.set_cons_zero, List.set_cons_succ])
          | (refine SeqS.take2 (v := undef) (by first | assumption | trivial) (by kernel_rfl) (by decide +kernel) (by decide +kernel) (Or.inr ⟨by rfl, rfl⟩) ?_
             simp only [Act.put, List.setIfInBounds_toArray, List.set_cons_zero, List.set_cons_succ]))
        refine SeqS.alone (by decide +kernel) (by rfl) (fun K hK => ?_)
        go_simp
        go_at_call 28
        refine (hris.out _ bD).mono ?_
        rintro e w3 ⟨rfl, rfl⟩
        go_simp
        refine hK _ _ b1 ?_
        clear hK K
        repeat (first
          | (refine SeqS.take (v := ?_) (by first | assumption | trivial) (by kernel_rfl) (by decide +kernel) (by decide +kernel) (Or.inl ⟨by rfl, ?_⟩) ?_
             rotate_left
             focus
               intro w' hb'
               go_simp
               with_reducible rfl
             simp only [Act.put, List.setIfInBounds_toArray, List.set_cons_zero, List.set_cons_succ])
          | (refine SeqS.take (v := ?_) (by first | assumption | trivial) (by kernel_rfl) (by decide +kernel) (by decide +kernel) (Or.inl ⟨by rfl, ?_⟩) ?_
             rotate_left
             focus
               intro w' hb'
               have d0 : w'.cell? ⟨G, 0, none⟩ = some (.slice (some ⟨b, off, none⟩) n c) := (hb'.cell l0.out).trans k0.out
               go_simp
               with_reducible rfl
             simp only [Act.put, List.setIfInBounds_toArray, List.set_cons_zero, List.set_cons_succ])
          | (refine SeqS.take (v := ?_) (by first | assumption | trivial) (by kernel_rfl) (by decide +kernel) (by decide +kernel) (Or.inl ⟨by rfl, ?_⟩) ?_
             rotate_left
             focus
               intro w' hb'
               have d0 : w'.cell? ⟨H, 0, none⟩ = some (.int .u32 f) := (hb'.cell l1.out).trans e0.out
               go_simp
               with_reducible rfl
             simp only [Act.put, List.setIfInBounds_toArray, List.set_cons_zero, List.set_cons_succ])
          | (refine SeqS.take (v := ?_) (by first | assumption | trivial) (by kernel_rfl) (by decide +kernel) (by decide +kernel) (Or.inl ⟨by rfl, ?_⟩) ?_
             rotate_left
             focus
               intro w' hb'
               have d0 : w'.cell? ⟨H, 1, none⟩ = some (.slice A L d) := (hb'.cell l1.out).trans e1.out
               go_simp
               with_reducible rfl
             simp only [Act.put, List.setIfInBounds_toArray, List.set_cons_zero, List.set_cons_succ])
          | (refine SeqS.take (v := undef) (by first | assumption | trivial) (by kernel_rfl) (by decide +kernel) (by decide +kernel) (Or.inr ⟨by rfl, rfl⟩) ?_
             simp only [Act.put, List.setIfInBounds_toArray, List.set_cons_zero, List.set_cons_succ])
          | (refine SeqS.take1 (v := ?_) (by first | assumption | trivial) (by kernel_rfl) (by decide +kernel) (by decide +kernel) (Or.inl ⟨by rfl, ?_⟩) ?_
             rotate_left
             focus
               intro w' hb'
               go_simp
               with_reducible rfl
             simp only [Act.put, List.setIfInBounds_toArray, List.set_cons_zero, List.set_cons_succ])
          | (refine SeqS.take1 (v := ?_) (by first | assumption | trivial) (by kernel_rfl) (by decide +kernel) (by decide +kernel) (Or.inl ⟨by rfl, ?_⟩) ?_
             rotate_left
             focus
               intro w' hb'
               have d0 : w'.cell? ⟨G, 0, none⟩ = some (.slice (some ⟨b, off, none⟩) n c) := (hb'.cell l0.out).trans k0.out
               go_simp
               with_reducible rfl
             simp only [Act.put, List.setIfInBounds_toArray, List.set_cons_zero, List.set_cons_succ])
          | (refine SeqS.take1 (v := ?_) (by first | assumption | trivial) (by kernel_rfl) (by decide +kernel) (by decide +kernel) (Or.inl ⟨by rfl, ?_⟩) ?_
             rotate_left
             focus
               intro w' hb'
               have d0 : w'.cell? ⟨H, 0, none⟩ = some (.int .u32 f) := (hb'.cell l1.out).trans e0.out
               go_simp
               with_reducible rfl
             simp only [Act.put, List.setIfInBounds_toArray, List.set_cons_zero, List.set_cons_succ])
          | (refine SeqS.take1 (v := ?_) (by first | assumption | trivial) (by kernel_rfl) (by decide +kernel) (by decide +kernel) (Or.inl ⟨by rfl, ?_⟩) ?_
             rotate_left
             focus
               intro w' hb'
               have d0 : w'.cell? ⟨H, 1, none⟩ = some (.slice A L d) := (hb'.cell l1.out).trans e1.out
               go_simp
               with_reducible rfl
             simp only [Act.put, List.setIfInBounds_toArray, List.set_cons_zero, List.set_cons_succ])
          | (refine SeqS.take1 (v := undef) (by first | assumption | trivial) (by kernel_rfl) (by decide +kernel) (by decide +kernel) (Or.inr ⟨by rfl, rfl⟩) ?_
             simp only [Act.put, List.setIfInBounds_toArray, List.set_cons_zero, List.set_cons_succ])
          | (refine SeqS.take2 (v := ?_) (by first | assumption | trivial) (by kernel_rfl) (by decide +kernel) (by decide +kernel) (Or.inl ⟨by rfl, ?_⟩) ?_
             rotate_left
             focus
               intro w' hb'
               go_simp
               with_reducible rfl
             simp only [Act.put, List.setIfInBounds_toArray, List.set_cons_zero, List.set_cons_succ])
          | (refine SeqS.take2 (v := ?_) (by first | assumption | trivial) (by kernel_rfl) (by decide +kernel) (by decide +kernel) (Or.inl ⟨by rfl, ?_⟩) ?_
             rotate_left
             focus
               intro w' hb'
               have d0 : w'.cell? ⟨G, 0, none⟩ = some (.slice (some ⟨b, off, none⟩) n c) := (hb'.cell l0.out).trans k0.out
               go_simp
               with_reducible rfl
             simp only [Act.put, List.setIfInBounds_toArray, List.set_cons_zero, List.set_cons_succ])
          | (refine SeqS.take2 (v := ?_) (by first | assumption | trivial) (by kernel_rfl) (by decide +kernel) (by decide +kernel) (Or.inl ⟨by rfl, ?_⟩) ?_
             rotate_left
             focus
               intro w' hb'
               have d0 : w'.cell? ⟨H, 0, none⟩ = some (.int .u32 f) := (hb'.cell l1.out).trans e0.out
               go_simp
               with_reducible rfl
             simp only [Act.put, List.setIfInBounds_toArray, List.set_cons_zero, List.set_cons_succ])
          | (refine SeqS.take2 (v := ?_) (by first | assumption | trivial) (by kernel_rfl) (by decide +kernel) (by decide +kernel) (Or.inl ⟨by rfl, ?_⟩) ?_
             rotate_left
             focus
               intro w' hb'
               have d0 : w'.cell? ⟨H, 1, none⟩ = some (.slice A L d) := (hb'.cell l1.out).trans e1.out
               go_simp
               with_reducible rfl
             simp only [Act.put, List.setIfInBounds_toArray, List.set_cons_zero, List.set_cons_succ])
          | (refine SeqS.take2 (v := undef) (by first | assumption | trivial) (by kernel_rfl) (by decide +kernel) (by decide +kernel) (Or.inr ⟨by rfl, rfl⟩) ?_
             simp only [Act.put, List.setIfInBounds_toArray, List.set_cons_zero, List.set_cons_succ]))
        refine SeqS.done (by decide +kernel) ?_
        obtain ⟨V2, hV2⟩ : ∃ V2, V.drew = V2 := ⟨_, rfl⟩
        rw [hV2] at BD ⊢
        clear hV2 b1 bD
        go_wp2
        go_ret
        exact ⟨by first | rfl | (rw [hFf]; rfl), BD⟩
    · obtain rfl : n = j := by omega
      have hji : ¬ (n : Int) < (n : Int) := by omega
      rw [List.take_of_length_le (by omega)] at hok
      have hFt := hFend.out hok
      clear hlt hj hok
      go_wp2
      go_ret
      exact ⟨by first | rfl | (rw [hFt]; rfl), hb⟩
end Go.Proofs.YtcfachgfgogllaaDoor

/-
  The document's own Bytes and Encode of a payload (layer 13). New memory alone is written. Conditions: fees below 2^32, bytes below 256.
-/
namespace Go.Proofs.YtcfachgfgogllaaDoor
open Go.RowKit

/-- A tier that came in, read later: its bytes as they were at first. -/
theorem TiersAt.got {w wr : World} {a : Option Addr} {n c : Nat} {ts : List Tier} (h : TiersAt w a n c ts) (hb : Below w.heap.size w wr) (i : Nat) (hi : i < n) :
    ∃ b off t A d, a = some ⟨b, off, none⟩ ∧ ts[i]? = some t ∧ wr.cell? ⟨b, off + i * 2, none⟩ = some (.int .u32 t.1) ∧ wr.cell? ⟨b, off + i * 2 + 1, none⟩ = some (.slice A t.2.length d) ∧ Ints .u8 w A t.2.length d t.2 ∧ wr.rangeAt b (off + i * 2) [.int .u32 t.1, .slice A t.2.length d] := by
  obtain ⟨b, off, t, A, d, ha, ht, c0, c1, hI, hr⟩ := h.get i hi
  have k0 := (hb.cell (World.block_lt_of_cell? w _ c0)).trans c0
  have k1 := (hb.cell (World.block_lt_of_cell? w _ c1)).trans c1
  refine ⟨b, off, t, A, d, ha, ht, k0, k1, hI, fun j v hj => ?_⟩
  have h3 := hr j v hj
  exact (hb.cell (World.block_lt_of_cell? w _ h3)).trans h3
theorem flatB_le (ts : List Tier) (h : ∀ t ∈ ts, t.2.length ≤ 64) : (flatB ts).length ≤ 69 * ts.length := by
  induction ts with
  | nil => exact Nat.zero_le _
  | cons t r ih =>
    have h1 := ih (fun x hx => h x (by simp [hx]))
    have h2 := h t (by simp)
    rw [flatB, List.length_append, tierB_len, List.length_cons]
    omega
theorem flatB_step {ts : List Tier} {j : Nat} {t : Tier} (h : ts[j]? = some t) : flatB (ts.take (j + 1)) = flatB (ts.take j) ++ tierB t := by
  have hi := (List.getElem?_eq_some_iff.1 h).1
  rw [List.getElem?_eq_getElem hi] at h
  injection h with h
  rw [List.take_succ_eq_append_getElem hi, h, flatB_append]
  show _ ++ (tierB t ++ []) = _
  rw [List.append_nil]
theorem own_made1 {w : World} {B : Nat} (x : Int) (hB : B ≤ w.heap.size) : (w.alloc (.cells #[.int .u8 x] 5)).ownsRow B 5 1 (.slice (some ⟨w.heap.size, 0, none⟩) 1 1) 1 (([x] : List Int).map (Value.int .u8)) :=
  ⟨rfl, .inr ⟨w.heap.size, 1, #[.int .u8 x], rfl, hB, heap_alloc_new w _, Nat.le_refl _, by unfold maxLen; decide, rfl, rfl⟩⟩
theorem owns_blk {w : World} {B s n g : Nat} {e t : TypeId} {v : Value} {xs cs : List Value} (h : w.ownsRow B e s v n xs) (k : Blk w g t cs) (he : t ≠ e) : some g ≠ v.ownBlock := by
  rcases h.2 with ⟨rfl, _⟩ | ⟨q, cap, cur, rfl, _, hq, _⟩
  · intro hb; cases hb
  · intro hb
    have hb : some g = some q := hb
    injection hb with hb
    subst hb
    unfold Blk at k
    rw [k] at hq
    injection hq with hq
    injection hq with _ h2 _
    exact he h2
theorem ints_made1 (w : World) (x : Int) : Ints .u8 (w.alloc (.cells #[.int .u8 x] 5)) (some ⟨w.heap.size, 0, none⟩) 1 1 [x] := by
  refine ⟨rfl, Nat.le_refl _, .inr ⟨_, _, rfl, fun i hi => ?_⟩⟩
  obtain rfl : i = 0 := by omega
  exact (Blk.new w 5 [.int .u8 x]).cell 0

set_option maxRecDepth 100000 in
set_option maxHeartbeats 2000000 in
theorem r13Bytes_any (a : Option Addr) (n c : Nat) (ts : List Tier) (w : World) (hT : TiersAt w a n c ts) (hr : ∀ t ∈ ts, Ranged t) (hn : n ≤ 8) (h64 : ∀ t ∈ ts, t.2.length ≤ 64) :
    Calls Tryd.prog 27 #[.agg #[.slice a n c]] w fun q w' => ∃ b d, q = .returned (.slice b (payB ts).length d) ∧ w'.ownsRow w.heap.size 5 1 (.slice b (payB ts).length d) (payB ts).length ((payB ts).map (Value.int .u8)) ∧ Below w.heap.size w w' := by
  obtain ⟨i0, hi, hz0, hz1, hz2⟩ := info_u8b
  have hl := hT.1
  have hb := below1 w (.cells #[.slice a n c] 24)
  have hk := Blk.new w 24 [.slice a n c]
  obtain ⟨W, hW⟩ : ∃ W, w.alloc (.cells #[.slice a n c] 24) = W := ⟨_, rfl⟩
  rw [hW] at hb hk
  have hkc := hk.cell 0
  have hn8 : IntKind.u8.wrap (n : Int) = (n : Int) := by rw [IntKind.wrap_u8]; omega
  have hnm : (n : Int) ≤ 8 := by omega
  have hkH := Lib.hid hk
  have hbH := Lib.hid hb
  have hTH := Lib.hid hT
  have hnH := Lib.hid hn
  have h64H := Lib.hid h64
  clear hT hk hb hn h64
  go_enter Tryd.func27, Tryd.ntmps27
  go_wp2_with fail
  have hk1 := hkH.out.alloc (.cells #[.int .u8 (n : Int)] 5)
  have hb1 := hbH.out.alloc hbH.out.size (.cells #[.int .u8 (n : Int)] 5)
  have hown1 := own_made1 (w := W) (B := w.heap.size) (n : Int) hbH.out.size
  obtain ⟨V, hV⟩ : ∃ V, W.alloc (.cells #[.int .u8 (n : Int)] 5) = V := ⟨_, rfl⟩
  rw [hV] at hk1 hb1 hown1 ⊢
  obtain ⟨G, hG⟩ : ∃ G, w.heap.size = G := ⟨_, rfl⟩
  rw [hG] at hk1 ⊢
  have hGH := Lib.hid hG
  clear hV hkc hW hkH hbH hG hn8
  go_loopw [3, 4] (fun v i wr => ∃ j : Nat, j ≤ n ∧ i = .int .i64 j ∧ wr.ownsRow w.heap.size 5 1 v ((n : Int) :: flatB (ts.take j)).length (((n : Int) :: flatB (ts.take j)).map (Value.int .u8)) ∧ Blk wr G 24 [.slice a n c] ∧ Below w.heap.size w wr) (fun _ i _ => n - (intOf i).toNat)
  case atStart => exact ⟨0, Nat.zero_le _, rfl, hown1, hk1, hb1⟩
  case round =>
    clear hown1 hk1 hb1
    obtain ⟨j, hj, rfl, hown, hk, hB⟩ := hrel
    have k0 := hk.cell 0
    by_cases hlt : j < n
    · have hji : (j : Int) < (n : Int) := by omega
      obtain ⟨b, off, t, A, d, rfl, ht, c0, c1, hI, hrg⟩ := hTH.out.got hB j hlt
      have rt := hr t (List.mem_of_getElem? ht)
      have hL64 := h64H.out t (List.mem_of_getElem? ht)
      have hst := flatB_step ht
      have hlen := flatB_le (ts.take j) (fun x hx => h64H.out x (List.mem_of_mem_take hx))
      rw [List.length_take] at hlen
      obtain ⟨cs, hcs⟩ : ∃ cs, (n : Int) :: flatB (ts.take j) = cs := ⟨_, rfl⟩
      have hcl : cs.length ≤ 553 := by rw [← hcs, List.length_cons]; have := hnH.out; omega
      have hst2 : (n : Int) :: flatB (ts.take (j + 1)) = cs ++ tierB t := by rw [hst, ← hcs]; rfl
      rw [hcs] at hown
      have b1 := below1 wr (.cells #[.int .u32 t.1, .slice A t.2.length d] 41)
      have hB2 := hB.trans (b1.mono hB.size)
      have hown2 := own_stay9 hown b1
      have hk2 := hk.alloc (.cells #[.int .u32 t.1, .slice A t.2.length d] 41)
      have hN2 := Blk.new wr 41 [.int .u32 t.1, .slice A t.2.length d]
      have hnum := rNumber_any t.1 4 (wr.alloc (.cells #[.int .u32 t.1, .slice A t.2.length d] 41)) (by decide)
      have hf64 : IntKind.u64.wrap t.1 = t.1 := by have := rt.fee; rw [IntKind.wrap_u64]; omega
      have hL8 : IntKind.u8.wrap ((t.2.length : Nat) : Int) = ((t.2.length : Nat) : Int) := by rw [IntKind.wrap_u8]; omega
      have htb : tierB t = beL t.1 4 ++ ([((t.2.length : Nat) : Int)] ++ t.2) := rfl
      rw [htb] at hst2
      obtain ⟨L, hL⟩ : ∃ L, t.2.length = L := ⟨_, rfl⟩
      obtain ⟨f, hf⟩ : ∃ f, t.1 = f := ⟨_, rfl⟩
      have hb4 : (beL f 4).length = 4 := beL_len f 4
      obtain ⟨bs, hbs⟩ : ∃ bs, beL f 4 = bs := ⟨_, rfl⟩
      obtain ⟨ys, hys⟩ : ∃ ys, t.2 = ys := ⟨_, rfl⟩
      rw [hbs] at hb4
      rw [hL] at c1 hrg hL64 hB2 hown2 hk2 hN2 hI hnum hL8 hst2
      rw [hf] at c0 hrg hB2 hown2 hk2 hN2 hnum hf64 hst2
      rw [hbs] at hnum hst2
      rw [hys] at hI hst2
      have hltH := Lib.hid hlt
      have hstH := Lib.hid hst2
      have hclH := Lib.hid hcl
      have hLH := Lib.hid hL64
      have hnumH := Lib.hid hnum
      have hKH := Lib.hid (And.intro hown2 (And.intro hk2 (And.intro hN2 (And.intro hI hB2))))
      have hb4H := Lib.hid hb4
      clear hlt hj hown hk hB hI rt hst hlen hcs hcl b1 hB2 hown2 hk2 hN2 hnum htb hL hf hbs hys hst2 ht hL64 hb4
      go_wp2_with fail
      refine hnumH.out.mono ?_
      rintro q w3 ⟨nb, nc, rfl, ho3, b3⟩
      have hown3 := own_stay9 hKH.out.1 b3
      have hk3 := hKH.out.2.1.keep b3 hKH.out.2.1.lt
      have hN3 := hKH.out.2.2.1.keep b3 hKH.out.2.2.1.lt
      have hIH := Lib.hid hKH.out.2.2.2.1
      have hB3 := hKH.out.2.2.2.2.trans (b3.mono hKH.out.2.2.2.2.size)
      obtain ⟨nb', nc', hv', hnI⟩ := Ints.of_owns ho3
      injection hv' with e5 _ e6
      subst e5; subst e6
      obtain ⟨H, hH⟩ : ∃ H, wr.heap.size = H := ⟨_, rfl⟩
      rw [hH] at hN3
      try rw [hH]
      have tp : 24 ≠ 5 := by decide
      have tt : 41 ≠ 5 := by decide
      clear hKH hnumH b3 ho3 hH c0 c1 hrg k0
      go_wp2_with (at_builtin; refine wpList_append_ints rfl (.tmp 23) (.tmp 27) 27 rfl w.heap.size 5 i0 (.int .u8 0) 1 Tryd.underlying27 hi hz0 hz1 hz2 rfl rfl hown3 rfl hnI ?_ ?_ hB3.size ?_; (have := hclH.out; unfold maxLen; omega); (have := hclH.out; omega); intro v4 w4 hown4 hg4; refine RowKit.Hid.out ?_)
      refine Lib.hid ?_
      rw [← List.map_append] at hown4
      have hk4 := hk3.grown hg4 (owns_blk hown3 hk3 tp)
      have hN4 := hN3.grown hg4 (owns_blk hown3 hN3 tt)
      have hB4 := hB3.grown hg4 hB3.size (fun q hq => (hown3.lt q hq).1)
      have hk5 := hk4.alloc (.cells #[.int .u8 (L : Int)] 5)
      have hN5 := hN4.alloc (.cells #[.int .u8 (L : Int)] 5)
      have hB5 := hB4.alloc hB4.size (.cells #[.int .u8 (L : Int)] 5)
      have hown5 := hown4.alloc (.cells #[.int .u8 (L : Int)] 5)
      have hI5 := ints_made1 w4 (L : Int)
      have c1 := hN4.cell 1
      obtain ⟨V5, hV5⟩ : ∃ V, w4.alloc (.cells #[.int .u8 (L : Int)] 5) = V := ⟨_, rfl⟩
      rw [hV5] at hk5 hN5 hB5 hown5 hI5
      have hV5H := Lib.hid hV5
      clear hk3 hN3 hB3 hown3 hnI hown4 hg4 hk4 hN4 hB4
      go_wp2_with (at_builtin; refine wpList_append_ints rfl (.tmp 29) (.tmp 34) 27 rfl w.heap.size 5 i0 (.int .u8 0) 1 Tryd.underlying27 hi hz0 hz1 hz2 rfl rfl hown5 rfl hI5 ?_ ?_ hB5.size ?_; (have := hclH.out; unfold maxLen; omega); (have := hclH.out; omega); intro v6 w6 hown6 hg6; refine RowKit.Hid.out ?_)
      refine Lib.hid ?_
      rw [← List.map_append] at hown6
      have hk6 := hk5.grown hg6 (owns_blk hown5 hk5 tp)
      have hN6 := hN5.grown hg6 (owns_blk hown5 hN5 tt)
      have hB6 := hB5.grown hg6 hB5.size (fun q hq => (hown5.lt q hq).1)
      have c1 := hN6.cell 1
      have hI6 := hIH.out.keep hB6
      clear hk5 hN5 hB5 hown5 hI5 hg6 hV5H
      go_wp2_with (at_builtin; refine wpList_append_ints rfl (.tmp 36) (.tmp 38) 27 rfl w.heap.size 5 i0 (.int .u8 0) 1 Tryd.underlying27 hi hz0 hz1 hz2 rfl rfl hown6 rfl hI6 ?_ ?_ hB6.size ?_; (have := hclH.out; have := hLH.out; unfold maxLen; omega); (have := hclH.out; have := hLH.out; omega); intro v7 w7 hown7 hg7; refine RowKit.Hid.out ?_)
      refine Lib.hid ?_
      rw [← List.map_append] at hown7
      have hk7 := hk6.grown hg7 (owns_blk hown6 hk6 tp)
      have hB7 := hB6.grown hg7 hB6.size (fun q hq => (hown6.lt q hq).1)
      have hown8 : w7.ownsRow w.heap.size 5 1 v7 ((n : Int) :: flatB (ts.take (j + 1))).length (((n : Int) :: flatB (ts.take (j + 1))).map (Value.int .u8)) := by
        have hlen := hown7.1
        rw [hstH.out]
        rw [List.append_assoc, List.append_assoc] at hown7
        have e : (cs ++ (bs ++ ([(L : Int)] ++ ys))).length = cs.length + 4 + 1 + L := by
          rw [List.length_map, Nat.mul_one] at hlen
          rw [← hlen, List.append_assoc, List.append_assoc]
        rw [e]
        exact hown7
      clear hk6 hN6 hB6 hown6 hI6 hg7 hown7 c1
      go_wp2
      exact ⟨⟨j + 1, by have := hltH.out; omega, by congr 1, hown8, hk7, hB7⟩, by simp only [intOf]; have := hltH.out; omega⟩
    · obtain rfl : n = j := by omega
      have hji : ¬ (n : Int) < (n : Int) := by omega
      rw [List.take_of_length_le (by omega)] at hown
      clear hlt hj
      go_wp2
      go_ret
      obtain ⟨b, d, hv⟩ := own_slice32 hown
      subst hv
      have hpay : payB ts = (n : Int) :: flatB ts := by unfold payB; rw [hl]
      rw [hpay]
      exact ⟨b, d, rfl, hown, hB⟩

set_option maxRecDepth 100000 in
set_option maxHeartbeats 800000 in
theorem r13Encode_any (a : Option Addr) (n c : Nat) (ts : List Tier) (w : World) (hT : TiersAt w a n c ts) (hr : ∀ t ∈ ts, Ranged t) (hn : n ≤ maxLen) :
    Calls Tryd.prog 10 #[.agg #[.slice a n c]] w fun q w' => ∃ b d, q = .returned (.tuple #[.slice b (encL ts).1.length d, .int .i64 (encL ts).2]) ∧ Ints .u8 w' b (encL ts).1.length d (encL ts).1 ∧ Below w.heap.size w w' := by
  have hb := below1 w (.cells #[.slice a n c] 24)
  have hkc := (Blk.new w 24 [.slice a n c]).cell 0
  have hR := Lib.hid (r13Right_any a n c ts _ (hT.keep hb) hr hn)
  have hbH := Lib.hid hb
  have hTH := Lib.hid hT
  unfold encL
  by_cases hg : rightB ts = true
  · have hB := fun w' (h : Below w.heap.size w w') => r13Bytes_any a n c ts w' (hT.keep h) hr (by
      have := (rightB_right ts hr).1 hg
      have := this.2.2
      have := hT.1
      omega) (fun t ht => by
      have h1 := (rightB_right ts hr).1 hg
      obtain ⟨i, hi, rfl⟩ := List.mem_iff_getElem.1 ht
      have h2 := (Rises.append (ts.take i) (ts.drop i) (-1) (by rw [List.take_append_drop]; exact h1.1)).2
      rw [List.drop_eq_getElem_cons hi] at h2
      exact h2.1.len.2)
    have hBH := Lib.hid hB
    rw [hg] at hR
    rw [if_pos hg]
    clear hT hb hB
    go_enter Tryd.func10, Tryd.ntmps10
    go_wp2_with fail
    refine hR.out.mono ?_
    rintro q w2 ⟨rfl, b2⟩
    have hB2 := hbH.out.trans (b2.mono hbH.out.size)
    have hk2 := (b2.cell (p := ⟨w.heap.size, 0, none⟩) (by rw [size1]; exact Nat.lt_succ_self _)).trans hkc
    clear hkc b2 hR hbH
    go_wp2_with fail
    refine (hBH.out w2 hB2).mono ?_
    rintro q w3 ⟨b, d, rfl, ho, b3⟩
    obtain ⟨b', d', hv, hI⟩ := Ints.of_owns ho
    injection hv with e1 _ e2
    subst e1; subst e2
    go_wp2
    go_ret2
    exact ⟨b, d, rfl, hI, hB2.trans (b3.mono hB2.size)⟩
  · have hgf : rightB ts = false := by simpa using hg
    rw [hgf] at hR
    rw [if_neg hg]
    clear hT hb
    go_enter Tryd.func10, Tryd.ntmps10
    go_wp2_with fail
    refine hR.out.mono ?_
    rintro q w2 ⟨rfl, b2⟩
    go_wp2
    go_ret2
    exact ⟨none, 0, rfl, ⟨rfl, Nat.le_refl _, .inl rfl⟩, hbH.out.trans (b2.mono hbH.out.size)⟩
end Go.Proofs.YtcfachgfgogllaaDoor

/-
  What package payload's TxID, IDs and Find, and the document's own ID and Find (layer 13), come to. New memory alone is written. Conditions: sha's package variables hold the constants and the starts; at most a thousand tiers of at most a thousand bytes.
-/
namespace Go.Proofs.YtcfachgfgogllaaDoor
open Go.RowKit

theorem one_part13 (w : World) (A : Option Addr) (m c : Nat) (xs : List Int) (hx : Ints .u8 w A m c xs) (t : TypeId) : Parts (w.alloc (.cells #[.slice A m c] t)) (some ⟨w.heap.size, 0, none⟩) 1 1 [xs] :=
  Parts.of_blk (Blk.new w t [.slice A m c]) rfl (fun i hi => by
    rcases i with _ | i
    · exact ⟨A, m, c, rfl, hx.keep (below1 _ _)⟩
    · omega)
theorem noGuard13 : Tryd.prog.eqGuardType Tryd.prog.depth 36 = false := by kernel_rfl
theorem size8_13 : (Tryd.prog.info? 5).map (·.size) = some 1 := by kernel_rfl
theorem idEq13 (xs ys : List Int) (hx : xs.length = 32) (hy : ys.length = 32) (w : World) : (Op.equalIn 10000 36 (.agg (xs.map (Value.int .u8)).toArray) (.agg (ys.map (Value.int .u8)).toArray)).run Tryd.prog w = .ok (decide (xs = ys)) w := by
  rw [run_equalIn_ints (P := Tryd.prog) w 9998 36 5 32 .u8 Tryd.underlying36 Tryd.underlying5 size8_13 xs ys hx hy]
  congr 1
  by_cases e : xs = ys
  · subst e; simp
  · rw [decide_eq_false e]; simp [e]

set_option maxRecDepth 100000 in
set_option maxHeartbeats 800000 in
theorem ppTxID_any (a : Option Addr) (n c : Nat) (xs : List Int) (w : World) (hG : Glob w) (hI : Ints .u8 w a n c xs) (hx : ∀ x ∈ xs, 0 ≤ x ∧ x < 256) (hn : n ≤ 1000) :
    Calls Tryd.prog 18 #[.slice a n c] w fun q w' => q = .returned (.agg ((shaSum xs).map (Value.int .u8)).toArray) ∧ Below w.heap.size w w' := by
  have hl := hI.len
  have b0 := below1 w (.cells (zb 32).toArray 36)
  have hR0 := Blk.new w 36 (zb 32)
  have hI0 := hI.keep b0
  have hG0 := hG.keep b0 (Nat.le_refl _)
  have hP := one_part13 _ a n c xs hI0 27
  rw [size1] at hP
  have b1 := below1 (w.alloc (.cells (zb 32).toArray 36)) (.cells #[.slice a n c] 27)
  have hR1 := hR0.keep b1 hR0.lt
  have hG1 := hG0.keep b1 (Nat.le_refl _)
  have hB1 := b0.trans (b1.mono b0.size)
  have hc := Lib.hid (sumFn_any _ 1 1 [xs] _ hP (by intro p hp; obtain rfl := List.mem_singleton.1 hp; exact hx) hG1 (by simp; omega) (by decide))
  rw [show [xs].flatten = xs by simp] at hc
  obtain ⟨X, hX⟩ : ∃ X, (shaSum xs).map (Value.int .u8) = X := ⟨_, rfl⟩
  have hXl : X.length = 32 := by rw [← hX, List.length_map, shaSum_length]
  have HI : IsRow Tryd.prog 36 X.length := by rw [hXl]; exact rowId
  have HO1 := Lib.hid (show ∀ v ∈ X, v.oneCell' = true by rw [← hX]; exact ints_oneCell' _ _)
  have HOF := Lib.hid (show 0 + X.length ≤ (zb 32).length by rw [hXl]; decide)
  have hov := Lib.hid (overV_all (zb 32) X (by rw [hXl]; rfl))
  rw [hX] at hc ⊢
  have hR1H := Lib.hid hR1
  have hB1H := Lib.hid hB1
  clear hX hXl hP hG1 hG0 hI0 hG hI hR1 hR0 b1 b0 hB1 hx hn hl
  go_enter Tryd.func18, Tryd.ntmps18
  go_wp2_with ((with_reducible refine wpList_alloc_blk rfl 36 rfl zeroId ?_))
  refine hc.out.mono ?_
  rintro q w5 ⟨rfl, b5⟩
  have hR5 := hR1H.out.keep b5 hR1H.out.lt
  have hB5 := hB1H.out.trans (b5.mono hB1H.out.size)
  clear hc hR1H b5
  go_wp2_with ((with_reducible refine wpList_store_part rfl 36 (.tmp 2) (.tmp 5) rfl ?_ ?_ hR5 HI HOF.out HO1.out ?_); rfl; rfl; intro w9 hR9 hg9)
  rw [hov.out] at hR9
  (try simp only [Exit.inBlock, Exit.then])
  refine bodyPost_ret (results_blk rfl rfl hR9 HI) rfl ?_
  exact ⟨rfl, hB5.trans (below_of_grown hg9 (Nat.le_refl _) hR5.lt)⟩

set_option maxRecDepth 100000 in
set_option maxHeartbeats 800000 in
theorem r13ID_any (a : Option Addr) (n c : Nat) (xs : List Int) (w : World) (hI : Ints .u8 w a n c xs) (hx : ∀ x ∈ xs, 0 ≤ x ∧ x < 256) (hn : n ≤ 1000) :
    Calls Tryd.prog 17 #[.slice a n c] w fun q w' => q = .returned (.agg ((shaSum xs).map (Value.int .u8)).toArray) ∧ Below w.heap.size w w' := by
  have b0 := below1 w (.cells (zb 32).toArray 36)
  have hR0 := Blk.new w 36 (zb 32)
  have hc := Lib.hid (refSum_any a n c xs _ (hI.keep b0) hx (by omega))
  obtain ⟨X, hX⟩ : ∃ X, (shaSum xs).map (Value.int .u8) = X := ⟨_, rfl⟩
  have hXl : X.length = 32 := by rw [← hX, List.length_map, shaSum_length]
  have HI : IsRow Tryd.prog 36 X.length := by rw [hXl]; exact rowId
  have HO1 := Lib.hid (show ∀ v ∈ X, v.oneCell' = true by rw [← hX]; exact ints_oneCell' _ _)
  have HOF := Lib.hid (show 0 + X.length ≤ (zb 32).length by rw [hXl]; decide)
  have hov := Lib.hid (overV_all (zb 32) X (by rw [hXl]; rfl))
  rw [hX] at hc ⊢
  have hR0H := Lib.hid hR0
  have b0H := Lib.hid b0
  clear hX hXl hI hR0 b0 hx hn
  go_enter Tryd.func17, Tryd.ntmps17
  go_wp2_with ((with_reducible refine wpList_alloc_blk rfl 36 rfl zeroId ?_))
  refine hc.out.mono ?_
  rintro q w5 ⟨rfl, b5⟩
  have hR5 := hR0H.out.keep b5 hR0H.out.lt
  have hB5 := b0H.out.trans (b5.mono b0H.out.size)
  clear hc hR0H b5
  go_wp2_with ((with_reducible refine wpList_store_part rfl 36 (.tmp 2) (.tmp 4) rfl ?_ ?_ hR5 HI HOF.out HO1.out ?_); rfl; rfl; intro w9 hR9 hg9)
  rw [hov.out] at hR9
  (try simp only [Exit.inBlock, Exit.then])
  refine bodyPost_ret (results_blk rfl rfl hR9 HI) rfl ?_
  exact ⟨rfl, hB5.trans (below_of_grown hg9 (Nat.le_refl _) hR5.lt)⟩

theorem idsL_step {ts : List Tier} {j : Nat} {t : Tier} (h : ts[j]? = some t) : idsL (ts.take (j + 1)) = idsL (ts.take j) ++ shaSum t.2 := by
  have hi := (List.getElem?_eq_some_iff.1 h).1
  rw [List.getElem?_eq_getElem hi] at h
  injection h with h
  rw [List.take_succ_eq_append_getElem hi, h]
  simp [idsL]

set_option maxRecDepth 100000 in
set_option maxHeartbeats 2000000 in
theorem ppIDs_any (a : Option Addr) (n c : Nat) (ts : List Tier) (w : World) (hG : Glob w) (hT : TiersAt w a n c ts) (hr : ∀ t ∈ ts, Ranged t) (hs : Small ts) :
    Calls Tryd.prog 16 #[.agg #[.slice a n c]] w fun q w' => ∃ b d, q = .returned (.slice b n d) ∧ IdsAt w' b n d (idsL ts) ∧ (∀ x, b = some x → w.heap.size ≤ x.block) ∧ Below w.heap.size w w' := by
  obtain ⟨i0, hi, hz0, hz1, hz2⟩ := info_id9
  have hl := hT.1
  have hb := below1 w (.cells #[.slice a n c] 24)
  have hkc := (Blk.new w 24 [.slice a n c]).cell 0
  obtain ⟨W, hW⟩ : ∃ W, w.alloc (.cells #[.slice a n c] 24) = W := ⟨_, rfl⟩
  rw [hW] at hb hkc
  have hsm := Lib.hid hs.2
  have hn8 : n ≤ 1000 := by have := hs.1; omega
  have hn8H := Lib.hid hn8
  have hnm : (n : Int) ≤ 1000 := by omega
  have hbH := Lib.hid hb
  have hGT := Lib.hid (And.intro hG hT)
  clear hG hT hs hb hn8
  go_enter Tryd.func16, Tryd.ntmps16
  go_wp2_with fail
  clear hW hkc
  go_loopw [3, 9] (fun v i wr => ∃ j : Nat, j ≤ n ∧ i = .int .i64 j ∧ wr.ownsRow w.heap.size 36 32 v j ((idsL (ts.take j)).map (Value.int .u8)) ∧ Below w.heap.size w wr) (fun _ i _ => n - (intOf i).toNat)
  case atStart => exact ⟨0, Nat.zero_le _, rfl, World.ownsRow_nil _ _ _ _, hbH.out⟩
  case round =>
    obtain ⟨j, hj, rfl, hown, hB⟩ := hrel
    by_cases hlt : j < n
    · have hji : (j : Int) < (n : Int) := by omega
      obtain ⟨b, off, t, A, d, rfl, ht, c0, c1, hI, hrg⟩ := (hGT.out.2.keep hB).get j hlt
      have rt := hr t (List.mem_of_getElem? ht)
      have hst := idsL_step ht
      have b1 := below1 wr (.cells #[.int .u32 t.1, .slice A t.2.length d] 41)
      have hB2 := hB.trans (b1.mono hB.size)
      have hc := ppTxID_any A t.2.length d t.2 _ (hGT.out.1.keep hB2 (Nat.le_refl _)) (hI.keep b1) rt.ok (hsm.out t (List.mem_of_getElem? ht))
      have hown1 := own_stay9 hown b1
      have hXl : (shaSum t.2).length = 32 := shaSum_length _
      obtain ⟨xs, hxs⟩ : ∃ xs, shaSum t.2 = xs := ⟨_, rfl⟩
      rw [hxs] at hst hc hXl
      obtain ⟨X, hX⟩ : ∃ X, xs.map (Value.int .u8) = X := ⟨_, rfl⟩
      have hXX : X.length = 32 := by rw [← hX, List.length_map, hXl]
      have hone : ∀ u ∈ X, u.oneCell' = true := by rw [← hX]; exact ints_oneCell' _ _
      rw [hX] at hc
      have hstm : (idsL (ts.take (j + 1))).map (Value.int .u8) = (idsL (ts.take j)).map (Value.int .u8) ++ X := by rw [hst, List.map_append, hX]
      obtain ⟨L, hL⟩ : ∃ L, t.2.length = L := ⟨_, rfl⟩
      obtain ⟨f, hf⟩ : ∃ f, t.1 = f := ⟨_, rfl⟩
      rw [hL] at c1
      rw [hf] at c0
      rw [hL, hf] at hrg hc hown1 hB2
      have hKH := Lib.hid (And.intro hown1 hB2)
      have hcH := Lib.hid hc
      have hstH := Lib.hid hstm
      have hltH := Lib.hid hlt
      have hXH := Lib.hid hXX
      have hoH := Lib.hid hone
      clear hlt hj hown hB hI rt hst b1 hc hown1 hB2 hXl hxs hX hXX hone hstm hL hf ht
      go_wp2_with fail
      refine hcH.out.mono ?_
      rintro q w3 ⟨rfl, b3⟩
      have hown3 := own_stay9 hKH.out.1 b3
      have hB3 := hKH.out.2.trans (b3.mono hKH.out.2.size)
      clear hKH hcH b3 c0 c1 hrg
      have own4H := Lib.hid (hown3.alloc (.cells X.toArray 36))
      have hnewH := Lib.hid (Blk.new w3 36 X)
      have hB4 := Lib.hid (hB3.alloc hB3.size (.cells X.toArray 36))
      clear hown3 hB3
      go_wp2_with (first
        | (refine wpList_buildSlice rfl 37 36 1 #[(0, .tmp 16)] rfl X.toArray i0 _ Tryd.underlying37 hi hz0 (by rw [hz1]; decide) (by rw [hz1]; decide) (fill_id i0 _ hz1 X hXH.out _ (by rw [Array.toList_map]; rfl)) ?_)
        | (at_builtin; refine wpList_append_own _ rfl _ _ 37 rfl w.heap.size 36 i0 _ 32 32 Tryd.underlying37 hi hz0 hz1 hz2 (by simp [Value.cells]) (by decide) _ _ _ rfl own4H.out ⟨w3.heap.size, 0, none⟩ 1 1 X rfl hXH.out ?c1 hoH.out ?c3 ?c4 ?c5 ?_))
      case c1 =>
        intro t u ht
        rw [add_at9, hnewH.out.cell]
        exact ht
      case c3 => have := hltH.out; have := hn8H.out; unfold maxLen; omega
      case c4 => have := hltH.out; have := hn8H.out; omega
      case c5 => exact hB4.out.size
      intro v5 W5 hown5 hg5 _
      have own5 : W5.ownsRow w.heap.size 36 32 v5 (j + 1) ((idsL (ts.take (j + 1))).map (Value.int .u8)) := by
        rw [hstH.out]
        exact hown5
      have b5 : Below w.heap.size w W5 := hB4.out.grown hg5 hB4.out.size (fun q hq => (own4H.out.lt q hq).1)
      clear hown5 hg5
      go_wp2
      exact ⟨⟨j + 1, by have := hltH.out; omega, by congr 1, own5, b5⟩, by simp only [intOf]; have := hltH.out; omega⟩
    · obtain rfl : n = j := by omega
      have hji : ¬ (n : Int) < (n : Int) := by omega
      rw [List.take_of_length_le (by omega)] at hown
      clear hlt hj
      go_wp2
      go_ret
      obtain ⟨b, d, hv⟩ := own_slice32 hown
      subst hv
      exact ⟨b, d, rfl, IdsAt.of_owns hown, fun x hx => (hown.lt x.block (by rw [hx]; rfl)).1, hB⟩
end Go.Proofs.YtcfachgfgogllaaDoor

/-
  What package payload's Find, and the document's own (layer 13), come to. New memory alone is written. Conditions: sha's package variables hold the constants and the starts; at most a thousand tiers of at most a thousand bytes.
-/
namespace Go.Proofs.YtcfachgfgogllaaDoor
open Go.RowKit

theorem not_in_step {ts : List Tier} {x : List Int} {j : Nat} {t : Tier} (h : ∀ u ∈ ts.take j, shaSum u.2 ≠ x) (ht : ts[j]? = some t) (hne : shaSum t.2 ≠ x) : ∀ u ∈ ts.take (j + 1), shaSum u.2 ≠ x := by
  have hi := (List.getElem?_eq_some_iff.1 ht).1
  rw [List.getElem?_eq_getElem hi] at ht
  injection ht with ht
  rw [List.take_succ_eq_append_getElem hi, ht]
  intro u hu
  rcases List.mem_append.1 hu with hu | hu
  · exact h u hu
  · obtain rfl := List.mem_singleton.1 hu
    exact hne

set_option maxRecDepth 100000 in
set_option maxHeartbeats 2000000 in
theorem ppFind_any (a : Option Addr) (n c : Nat) (ts : List Tier) (x : List Int) (w : World) (hG : Glob w) (hT : TiersAt w a n c ts) (hr : ∀ t ∈ ts, Ranged t) (hs : Small ts) (hx : x.length = 32) :
    Calls Tryd.prog 19 #[.agg #[.slice a n c], .agg (x.map (Value.int .u8)).toArray] w fun q w' => q = .returned (.tuple #[.int .i64 ((findL ts x).1 : Int), .bool (findL ts x).2]) ∧ Below w.heap.size w w' := by
  have hl := hT.1
  have hn8 : n ≤ 1000 := by have := hs.1; omega
  have hnm : (n : Int) ≤ 1000 := by omega
  have hfs := Lib.hid (fun i t => findL_some (ts := ts) (x := x) (i := i) (t := t))
  have hfn := Lib.hid (findL_none (ts := ts) (x := x))
  have heq := Lib.hid (fun (t : Tier) => idEq13 (shaSum t.2) x (shaSum_length _) hx)
  obtain ⟨X, hX⟩ : ∃ X, x.map (Value.int .u8) = X := ⟨_, rfl⟩
  have hXX : X.length = 32 := by rw [← hX, List.length_map, hx]
  have HI : IsRow Tryd.prog 36 X.length := by rw [hXX]; exact rowId
  rw [hX] at heq ⊢
  have hb := below2 w (.cells #[.slice a n c] 24) (.cells X.toArray 36)
  have hkc := ((Blk.new w 24 [.slice a n c]).alloc (.cells X.toArray 36)).cell 0
  have hid := Lib.hid (Blk.new1 w (.cells #[.slice a n c] 24) 36 X)
  have hsm := Lib.hid hs.2
  have hbH := Lib.hid hb
  have hGT := Lib.hid (And.intro hG hT)
  obtain ⟨R, hR⟩ : ∃ R, findL ts x = R := ⟨_, rfl⟩
  rw [hR] at hfs hfn ⊢
  obtain ⟨R1, R2⟩ := R
  dsimp only
  clear hG hT hs hb hn8 hX hXX hx hR
  go_enter Tryd.func19, Tryd.ntmps19
  go_wp2_with fail
  obtain ⟨W, hW⟩ : ∃ W, (w.alloc (.cells #[.slice a n c] 24)).alloc (.cells X.toArray 36) = W := ⟨_, rfl⟩
  obtain ⟨I, hIe⟩ : ∃ I, w.heap.size + 1 = I := ⟨_, rfl⟩
  have hid0 : Blk W I 36 X := by rw [← hW, ← hIe]; exact hid.out
  have hbW : Below w.heap.size w W := by rw [← hW]; exact hbH.out
  rw [hW, hIe]
  have hIH := Lib.hid hIe
  clear hW hkc hbH hid hIe
  go_loopw [11] (fun i wr => ∃ j : Nat, j ≤ n ∧ i = .int .i64 j ∧ (∀ u ∈ ts.take j, shaSum u.2 ≠ x) ∧ Blk wr I 36 X ∧ Below w.heap.size w wr) (fun i _ => n - (intOf i).toNat)
  case atStart => exact ⟨0, Nat.zero_le _, rfl, by simp, hid0, hbW⟩
  case round =>
    clear hid0 hbW
    obtain ⟨j, hj, rfl, hno, hid, hB⟩ := hrel
    by_cases hlt : j < n
    · have hji : (j : Int) < (n : Int) := by omega
      obtain ⟨b, off, t, A, d, rfl, ht, c0, c1, hI, hrg⟩ := (hGT.out.2.keep hB).get j hlt
      have rt := hr t (List.mem_of_getElem? ht)
      have hfound := Lib.hid (fun h => hfs.out j t ht h hno)
      have hnext := Lib.hid (not_in_step hno ht)
      have hq := heq.out t
      have hc := Lib.hid (fun w' (h : Below wr.heap.size wr w') => ppTxID_any A t.2.length d t.2 w' (hGT.out.1.keep (hB.trans (h.mono hB.size)) (Nat.le_refl _)) (hI.keep h) rt.ok (hsm.out t (List.mem_of_getElem? ht)))
      obtain ⟨F, hF⟩ : ∃ F, decide (shaSum t.2 = x) = F := ⟨_, rfl⟩
      rw [hF] at hq
      have hFH := Lib.hid hF
      obtain ⟨Y, hY⟩ : ∃ Y, (shaSum t.2).map (Value.int .u8) = Y := ⟨_, rfl⟩
      rw [hY] at hq hc
      obtain ⟨L, hL⟩ : ∃ L, t.2.length = L := ⟨_, rfl⟩
      obtain ⟨f, hf⟩ : ∃ f, t.1 = f := ⟨_, rfl⟩
      rw [hL] at c1 hrg hc
      rw [hf] at c0 hrg
      have hltH := Lib.hid hlt
      clear hlt hj hno hI rt hF hY hL hf ht
      go_wp2_with fail
      obtain ⟨H, hH⟩ : ∃ H, wr.heap.size = H := ⟨_, rfl⟩
      obtain ⟨V, hV⟩ : ∃ V, wr.alloc (.cells #[.int .u32 f, .slice A L d] 41) = V := ⟨_, rfl⟩
      have hidV : Blk V I 36 X := by rw [← hV]; exact hid.alloc _
      have hN : Blk V H 41 [.int .u32 f, .slice A L d] := by rw [← hV, ← hH]; exact Blk.new wr _ _
      have bV : Below wr.heap.size wr V := by rw [← hV]; exact below1 wr _
      rw [hV, hH]
      have l1 := Lib.hid hN.lt
      have e1 := Lib.hid (hN.cell 1)
      have BB := Lib.hid (fun w' (h : Below V.heap.size V w') => hidV.keep h hidV.lt)
      have b1 : Below V.heap.size V V.drew := (Below.refl _ _).drew
      have bD : Below wr.heap.size wr V.drew := bV.trans (b1.mono bV.size)
      have bVH := Lib.hid (hB.trans (bV.mono hB.size))
      have hng := noGuard13
      clear hV hH c0 c1 hrg hid hN hB bV hidV
      refine region_seqS (fun w' => Below V.heap.size V w') (by kernel_rfl) b1 ?_
      simp only [pairs, Nat.reduceAdd]
      repeat (first
        | (refine SeqS.take (v := .agg (X).toArray) (by first | assumption | trivial) (by kernel_rfl) (by decide +kernel) (by decide +kernel) (yields_blk (by rfl) 36 (.tmp 3) rfl rfl (fun w' h => BB.out w' h) (HI)) ?_
           simp only [Act.put, List.setIfInBounds_toArray, List.set_cons_zero, List.set_cons_succ])
        | (refine SeqS.take (v := ?_) (by first | assumption | trivial) (by kernel_rfl) (by decide +kernel) (by decide +kernel) (Or.inl ⟨by rfl, ?_⟩) ?_
           rotate_left
           focus
             intro w' hb'
             go_simp
             with_reducible rfl
           simp only [Act.put, List.setIfInBounds_toArray, List.set_cons_zero, List.set_cons_succ])
        | (refine SeqS.take (v := ?_) (by first | assumption | trivial) (by kernel_rfl) (by decide +kernel) (by decide +kernel) (Or.inl ⟨by rfl, ?_⟩) ?_
           rotate_left
           focus
             intro w' hb'
             have d0 : w'.cell? ⟨H, 1, none⟩ = some (.slice A L d) := (hb'.cell l1.out).trans e1.out
             go_simp
             with_reducible rfl
           simp only [Act.put, List.setIfInBounds_toArray, List.set_cons_zero, List.set_cons_succ])
        | (refine SeqS.take (v := undef) (by first | assumption | trivial) (by kernel_rfl) (by decide +kernel) (by decide +kernel) (Or.inr ⟨by rfl, rfl⟩) ?_
           simp only [Act.put, List.setIfInBounds_toArray, List.set_cons_zero, List.set_cons_succ])
        | (refine SeqS.take1 (v := .agg (X).toArray) (by first | assumption | trivial) (by kernel_rfl) (by decide +kernel) (by decide +kernel) (yields_blk (by rfl) 36 (.tmp 3) rfl rfl (fun w' h => BB.out w' h) (HI)) ?_
           simp only [Act.put, List.setIfInBounds_toArray, List.set_cons_zero, List.set_cons_succ])
        | (refine SeqS.take1 (v := ?_) (by first | assumption | trivial) (by kernel_rfl) (by decide +kernel) (by decide +kernel) (Or.inl ⟨by rfl, ?_⟩) ?_
           rotate_left
           focus
             intro w' hb'
             go_simp
             with_reducible rfl
           simp only [Act.put, List.setIfInBounds_toArray, List.set_cons_zero, List.set_cons_succ])
        | (refine SeqS.take1 (v := ?_) (by first | assumption | trivial) (by kernel_rfl) (by decide +kernel) (by decide +kernel) (Or.inl ⟨by rfl, ?_⟩) ?_
           rotate_left
           focus
             intro w' hb'
             have d0 : w'.cell? ⟨H, 1, none⟩ = some (.slice A L d) := (hb'.cell l1.out).trans e1.out
             go_simp
             with_reducible rfl
           simp only [Act.put, List.setIfInBounds_toArray, List.set_cons_zero, List.set_cons_succ])
        | (refine SeqS.take1 (v := undef) (by first | assumption | trivial) (by kernel_rfl) (by decide +kernel) (by decide +kernel) (Or.inr ⟨by rfl, rfl⟩) ?_
           simp only [Act.put, List.setIfInBounds_toArray, List.set_cons_zero, List.set_cons_succ])
        | (refine SeqS.take2 (v := .agg (X).toArray) (by first | assumption | trivial) (by kernel_rfl) (by decide +kernel) (by decide +kernel) (yields_blk (by rfl) 36 (.tmp 3) rfl rfl (fun w' h => BB.out w' h) (HI)) ?_
           simp only [Act.put, List.setIfInBounds_toArray, List.set_cons_zero, List.set_cons_succ])
        | (refine SeqS.take2 (v := ?_) (by first | assumption | trivial) (by kernel_rfl) (by decide +kernel) (by decide +kernel) (Or.inl ⟨by rfl, ?_⟩) ?_
           rotate_left
           focus
             intro w' hb'
             go_simp
             with_reducible rfl
           simp only [Act.put, List.setIfInBounds_toArray, List.set_cons_zero, List.set_cons_succ])
        | (refine SeqS.take2 (v := ?_) (by first | assumption | trivial) (by kernel_rfl) (by decide +kernel) (by decide +kernel) (Or.inl ⟨by rfl, ?_⟩) ?_
           rotate_left
           focus
             intro w' hb'
             have d0 : w'.cell? ⟨H, 1, none⟩ = some (.slice A L d) := (hb'.cell l1.out).trans e1.out
             go_simp
             with_reducible rfl
           simp only [Act.put, List.setIfInBounds_toArray, List.set_cons_zero, List.set_cons_succ])
        | (refine SeqS.take2 (v := undef) (by first | assumption | trivial) (by kernel_rfl) (by decide +kernel) (by decide +kernel) (Or.inr ⟨by rfl, rfl⟩) ?_
           simp only [Act.put, List.setIfInBounds_toArray, List.set_cons_zero, List.set_cons_succ])
        | (refine SeqS.take3 (v := .agg (X).toArray) (by first | assumption | trivial) (by kernel_rfl) (by decide +kernel) (by decide +kernel) (yields_blk (by rfl) 36 (.tmp 3) rfl rfl (fun w' h => BB.out w' h) (HI)) ?_
           simp only [Act.put, List.setIfInBounds_toArray, List.set_cons_zero, List.set_cons_succ])
        | (refine SeqS.take3 (v := ?_) (by first | assumption | trivial) (by kernel_rfl) (by decide +kernel) (by decide +kernel) (Or.inl ⟨by rfl, ?_⟩) ?_
           rotate_left
           focus
             intro w' hb'
             go_simp
             with_reducible rfl
           simp only [Act.put, List.setIfInBounds_toArray, List.set_cons_zero, List.set_cons_succ])
        | (refine SeqS.take3 (v := ?_) (by first | assumption | trivial) (by kernel_rfl) (by decide +kernel) (by decide +kernel) (Or.inl ⟨by rfl, ?_⟩) ?_
           rotate_left
           focus
             intro w' hb'
             have d0 : w'.cell? ⟨H, 1, none⟩ = some (.slice A L d) := (hb'.cell l1.out).trans e1.out
             go_simp
             with_reducible rfl
           simp only [Act.put, List.setIfInBounds_toArray, List.set_cons_zero, List.set_cons_succ])
        | (refine SeqS.take3 (v := undef) (by first | assumption | trivial) (by kernel_rfl) (by decide +kernel) (by decide +kernel) (Or.inr ⟨by rfl, rfl⟩) ?_
           simp only [Act.put, List.setIfInBounds_toArray, List.set_cons_zero, List.set_cons_succ]))
      refine SeqS.alone (by decide +kernel) (by rfl) (fun K hK => ?_)
      go_simp
      go_at_call 18
      refine (hc.out _ bD).mono ?_
      rintro e w3 ⟨rfl, b3⟩
      go_simp
      have S3 : Below V.heap.size V w3 := b1.trans (b3.mono b1.size)
      refine hK _ _ S3 ?_
      clear hK K
      repeat (first
        | (refine SeqS.take (v := ?_) (by first | assumption | trivial) (by kernel_rfl) (by decide +kernel) (by decide +kernel) (Or.inl ⟨by rfl, ?_⟩) ?_
           rotate_left
           focus
             intro w' hb'
             go_simp
             with_reducible rfl
           simp only [Act.put, List.setIfInBounds_toArray, List.set_cons_zero, List.set_cons_succ])
        | (refine SeqS.take (v := ?_) (by first | assumption | trivial) (by kernel_rfl) (by decide +kernel) (by decide +kernel) (Or.inl ⟨by rfl, ?_⟩) ?_
           rotate_left
           focus
             intro w' hb'
             have d0 := hq w'
             go_simp
             with_reducible rfl
           simp only [Act.put, List.setIfInBounds_toArray, List.set_cons_zero, List.set_cons_succ])
        | (refine SeqS.take (v := undef) (by first | assumption | trivial) (by kernel_rfl) (by decide +kernel) (by decide +kernel) (Or.inr ⟨by rfl, rfl⟩) ?_
           simp only [Act.put, List.setIfInBounds_toArray, List.set_cons_zero, List.set_cons_succ])
        | (refine SeqS.take1 (v := ?_) (by first | assumption | trivial) (by kernel_rfl) (by decide +kernel) (by decide +kernel) (Or.inl ⟨by rfl, ?_⟩) ?_
           rotate_left
           focus
             intro w' hb'
             go_simp
             with_reducible rfl
           simp only [Act.put, List.setIfInBounds_toArray, List.set_cons_zero, List.set_cons_succ])
        | (refine SeqS.take1 (v := ?_) (by first | assumption | trivial) (by kernel_rfl) (by decide +kernel) (by decide +kernel) (Or.inl ⟨by rfl, ?_⟩) ?_
           rotate_left
           focus
             intro w' hb'
             have d0 := hq w'
             go_simp
             with_reducible rfl
           simp only [Act.put, List.setIfInBounds_toArray, List.set_cons_zero, List.set_cons_succ])
        | (refine SeqS.take1 (v := undef) (by first | assumption | trivial) (by kernel_rfl) (by decide +kernel) (by decide +kernel) (Or.inr ⟨by rfl, rfl⟩) ?_
           simp only [Act.put, List.setIfInBounds_toArray, List.set_cons_zero, List.set_cons_succ])
        | (refine SeqS.take2 (v := ?_) (by first | assumption | trivial) (by kernel_rfl) (by decide +kernel) (by decide +kernel) (Or.inl ⟨by rfl, ?_⟩) ?_
           rotate_left
           focus
             intro w' hb'
             go_simp
             with_reducible rfl
           simp only [Act.put, List.setIfInBounds_toArray, List.set_cons_zero, List.set_cons_succ])
        | (refine SeqS.take2 (v := ?_) (by first | assumption | trivial) (by kernel_rfl) (by decide +kernel) (by decide +kernel) (Or.inl ⟨by rfl, ?_⟩) ?_
           rotate_left
           focus
             intro w' hb'
             have d0 := hq w'
             go_simp
             with_reducible rfl
           simp only [Act.put, List.setIfInBounds_toArray, List.set_cons_zero, List.set_cons_succ])
        | (refine SeqS.take2 (v := undef) (by first | assumption | trivial) (by kernel_rfl) (by decide +kernel) (by decide +kernel) (Or.inr ⟨by rfl, rfl⟩) ?_
           simp only [Act.put, List.setIfInBounds_toArray, List.set_cons_zero, List.set_cons_succ]))
      refine SeqS.done (by decide +kernel) ?_
      have hid3 := BB.out _ S3
      have B3 := bVH.out.trans (S3.mono bVH.out.size)
      clear BB b1 bD S3 b3 hc l1 e1
      cases F with
      | true =>
        have hR := hfound.out (of_decide_eq_true hFH.out)
        injection hR with hR1 hR2
        subst hR1; subst hR2
        go_wp2
        go_ret2
        exact ⟨rfl, B3⟩
      | false =>
        have hgo := Lib.hid (hnext.out (of_decide_eq_false hFH.out))
        go_wp2
        exact ⟨⟨j + 1, by have := hltH.out; omega, by congr 1, hgo.out, hid3, B3⟩, by simp only [intOf]; have := hltH.out; omega⟩
    · obtain rfl : n = j := by omega
      have hji : ¬ (n : Int) < (n : Int) := by omega
      rw [List.take_of_length_le (by omega)] at hno
      have hR := hfn.out hno
      injection hR with hR1 hR2
      subst hR1; subst hR2
      clear hlt hj hno
      go_wp2
      go_ret2
      exact ⟨rfl, hB⟩

set_option maxRecDepth 100000 in
set_option maxHeartbeats 2000000 in
theorem r13Find_any (a : Option Addr) (n c : Nat) (ts : List Tier) (x : List Int) (w : World) (hT : TiersAt w a n c ts) (hr : ∀ t ∈ ts, Ranged t) (hs : Small ts) (hx : x.length = 32) :
    Calls Tryd.prog 20 #[.agg #[.slice a n c], .agg (x.map (Value.int .u8)).toArray] w fun q w' => q = .returned (.tuple #[.int .i64 ((findL ts x).1 : Int), .bool (findL ts x).2]) ∧ Below w.heap.size w w' := by
  have hl := hT.1
  have hn8 : n ≤ 1000 := by have := hs.1; omega
  have hnm : (n : Int) ≤ 1000 := by omega
  have hfs := Lib.hid (fun i t => findL_some (ts := ts) (x := x) (i := i) (t := t))
  have hfn := Lib.hid (findL_none (ts := ts) (x := x))
  have heq := Lib.hid (fun (t : Tier) => idEq13 (shaSum t.2) x (shaSum_length _) hx)
  obtain ⟨X, hX⟩ : ∃ X, x.map (Value.int .u8) = X := ⟨_, rfl⟩
  have hXX : X.length = 32 := by rw [← hX, List.length_map, hx]
  have HI : IsRow Tryd.prog 36 X.length := by rw [hXX]; exact rowId
  rw [hX] at heq ⊢
  have hb := below2 w (.cells #[.slice a n c] 24) (.cells X.toArray 36)
  have hk := Lib.hid ((Blk.new w 24 [.slice a n c]).alloc (.cells X.toArray 36))
  have hid := Lib.hid (Blk.new1 w (.cells #[.slice a n c] 24) 36 X)
  have hsm := Lib.hid hs.2
  have hbH := Lib.hid hb
  have hTH := Lib.hid hT
  obtain ⟨R, hR⟩ : ∃ R, findL ts x = R := ⟨_, rfl⟩
  rw [hR] at hfs hfn ⊢
  obtain ⟨R1, R2⟩ := R
  dsimp only
  clear hT hs hb hn8 hX hXX hx hR
  go_enter Tryd.func20, Tryd.ntmps20
  go_wp2_with fail
  obtain ⟨W, hW⟩ : ∃ W, (w.alloc (.cells #[.slice a n c] 24)).alloc (.cells X.toArray 36) = W := ⟨_, rfl⟩
  obtain ⟨I, hIe⟩ : ∃ I, w.heap.size + 1 = I := ⟨_, rfl⟩
  obtain ⟨G, hG⟩ : ∃ G, w.heap.size = G := ⟨_, rfl⟩
  have hid0 : Blk W I 36 X := by rw [← hW, ← hIe]; exact hid.out
  have hk0 : Blk W G 24 [.slice a n c] := by rw [← hW, ← hG]; exact hk.out
  have hbW : Below w.heap.size w W := by rw [← hW]; exact hbH.out
  rw [hW, hIe, hG]
  have hIH := Lib.hid hIe
  have hGH := Lib.hid hG
  clear hW hbH hid hIe hk hG
  go_loopw [6] (fun i wr => ∃ j : Nat, j ≤ n ∧ i = .int .i64 j ∧ (∀ u ∈ ts.take j, shaSum u.2 ≠ x) ∧ Blk wr G 24 [.slice a n c] ∧ Blk wr I 36 X ∧ Below w.heap.size w wr) (fun i _ => n - (intOf i).toNat)
  case atStart => exact ⟨0, Nat.zero_le _, rfl, by simp, hk0, hid0, hbW⟩
  case round =>
    clear hid0 hbW hk0
    obtain ⟨j, hj, rfl, hno, hk, hid, hB⟩ := hrel
    have k0 := hk.cell 0
    by_cases hlt : j < n
    · have hji : (j : Int) < (n : Int) := by omega
      obtain ⟨b, off, t, A, d, rfl, ht, c0, c1, hI, hrg⟩ := (hTH.out.keep hB).get j hlt
      have rt := hr t (List.mem_of_getElem? ht)
      have hfound := Lib.hid (fun h => hfs.out j t ht h hno)
      have hnext := Lib.hid (not_in_step hno ht)
      have hq := heq.out t
      have hc := Lib.hid (fun w' (h : Below wr.heap.size wr w') => r13ID_any A t.2.length d t.2 w' (hI.keep h) rt.ok (hsm.out t (List.mem_of_getElem? ht)))
      obtain ⟨F, hF⟩ : ∃ F, decide (shaSum t.2 = x) = F := ⟨_, rfl⟩
      rw [hF] at hq
      have hFH := Lib.hid hF
      obtain ⟨Y, hY⟩ : ∃ Y, (shaSum t.2).map (Value.int .u8) = Y := ⟨_, rfl⟩
      rw [hY] at hq hc
      obtain ⟨L, hL⟩ : ∃ L, t.2.length = L := ⟨_, rfl⟩
      rw [hL] at c1 hc
      have hltH := Lib.hid hlt
      have l0 := Lib.hid hk.lt
      have l1 := Lib.hid (World.block_lt_of_cell? wr _ c1)
      have e0 := Lib.hid k0
      have e1 := Lib.hid c1
      clear hlt hj hno hI rt hF hY hL ht c0 c1 hrg
      go_wp2_with fail
      clear k0
      have BB := Lib.hid (fun w' (h : Below wr.heap.size wr w') => hid.keep h hid.lt)
      have KK := Lib.hid (fun w' (h : Below wr.heap.size wr w') => hk.keep h hk.lt)
      have b1 : Below wr.heap.size wr wr.drew := (Below.refl _ _).drew
      have bVH := Lib.hid hB
      have hng := noGuard13
      clear hid hB hk
      refine region_seqS (fun w' => Below wr.heap.size wr w') (by kernel_rfl) b1 ?_
      simp only [pairs, Nat.reduceAdd]
      repeat (first
        | (refine SeqS.take (v := .agg (X).toArray) (by first | assumption | trivial) (by kernel_rfl) (by decide +kernel) (by decide +kernel) (yields_blk (by rfl) 36 (.tmp 3) rfl rfl (fun w' h => BB.out w' h) (HI)) ?_
           simp only [Act.put, List.setIfInBounds_toArray, List.set_cons_zero, List.set_cons_succ])
        | (refine SeqS.take (v := ?_) (by first | assumption | trivial) (by kernel_rfl) (by decide +kernel) (by decide +kernel) (Or.inl ⟨by rfl, ?_⟩) ?_
           rotate_left
           focus
             intro w' hb'
             go_simp
             with_reducible rfl
           simp only [Act.put, List.setIfInBounds_toArray, List.set_cons_zero, List.set_cons_succ])
        | (refine SeqS.take (v := ?_) (by first | assumption | trivial) (by kernel_rfl) (by decide +kernel) (by decide +kernel) (Or.inl ⟨by rfl, ?_⟩) ?_
           rotate_left
           focus
             intro w' hb'
             have d0 : w'.cell? ⟨G, 0, none⟩ = some (.slice (some ⟨b, off, none⟩) n c) := (hb'.cell l0.out).trans e0.out
             go_simp
             with_reducible rfl
           simp only [Act.put, List.setIfInBounds_toArray, List.set_cons_zero, List.set_cons_succ])
        | (refine SeqS.take (v := ?_) (by first | assumption | trivial) (by kernel_rfl) (by decide +kernel) (by decide +kernel) (Or.inl ⟨by rfl, ?_⟩) ?_
           rotate_left
           focus
             intro w' hb'
             have d0 : w'.cell? ⟨b, off + j * 2 + 1, none⟩ = some (.slice A L d) := (hb'.cell l1.out).trans e1.out
             go_simp
             with_reducible rfl
           simp only [Act.put, List.setIfInBounds_toArray, List.set_cons_zero, List.set_cons_succ])
        | (refine SeqS.take (v := undef) (by first | assumption | trivial) (by kernel_rfl) (by decide +kernel) (by decide +kernel) (Or.inr ⟨by rfl, rfl⟩) ?_
           simp only [Act.put, List.setIfInBounds_toArray, List.set_cons_zero, List.set_cons_succ])
        | (refine SeqS.take1 (v := .agg (X).toArray) (by first | assumption | trivial) (by kernel_rfl) (by decide +kernel) (by decide +kernel) (yields_blk (by rfl) 36 (.tmp 3) rfl rfl (fun w' h => BB.out w' h) (HI)) ?_
           simp only [Act.put, List.setIfInBounds_toArray, List.set_cons_zero, List.set_cons_succ])
        | (refine SeqS.take1 (v := ?_) (by first | assumption | trivial) (by kernel_rfl) (by decide +kernel) (by decide +kernel) (Or.inl ⟨by rfl, ?_⟩) ?_
           rotate_left
           focus
             intro w' hb'
             go_simp
             with_reducible rfl
           simp only [Act.put, List.setIfInBounds_toArray, List.set_cons_zero, List.set_cons_succ])
        | (refine SeqS.take1 (v := ?_) (by first | assumption | trivial) (by kernel_rfl) (by decide +kernel) (by decide +kernel) (Or.inl ⟨by rfl, ?_⟩) ?_
           rotate_left
           focus
             intro w' hb'
             have d0 : w'.cell? ⟨G, 0, none⟩ = some (.slice (some ⟨b, off, none⟩) n c) := (hb'.cell l0.out).trans e0.out
             go_simp
             with_reducible rfl
           simp only [Act.put, List.setIfInBounds_toArray, List.set_cons_zero, List.set_cons_succ])
        | (refine SeqS.take1 (v := ?_) (by first | assumption | trivial) (by kernel_rfl) (by decide +kernel) (by decide +kernel) (Or.inl ⟨by rfl, ?_⟩) ?_
           rotate_left
           focus
             intro w' hb'
             have d0 : w'.cell? ⟨b, off + j * 2 + 1, none⟩ = some (.slice A L d) := (hb'.cell l1.out).trans e1.out
             go_simp
             with_reducible rfl
           simp only [Act.put, List.setIfInBounds_toArray, List.set_cons_zero, List.set_cons_succ])
        | (refine SeqS.take1 (v := undef) (by first | assumption | trivial) (by kernel_rfl) (by decide +kernel) (by decide +kernel) (Or.inr ⟨by rfl, rfl⟩) ?_
           simp only [Act.put, List.setIfInBounds_toArray, List.set_cons_zero, List.set_cons_succ])
        | (refine SeqS.take2 (v := .agg (X).toArray) (by first | assumption | trivial) (by kernel_rfl) (by decide +kernel) (by decide +kernel) (yields_blk (by rfl) 36 (.tmp 3) rfl rfl (fun w' h => BB.out w' h) (HI)) ?_
           simp only [Act.put, List.setIfInBounds_toArray, List.set_cons_zero, List.set_cons_succ])
        | (refine SeqS.take2 (v := ?_) (by first | assumption | trivial) (by kernel_rfl) (by decide +kernel) (by decide +kernel) (Or.inl ⟨by rfl, ?_⟩) ?_
           rotate_left
           focus
             intro w' hb'
             go_simp
             with_reducible rfl
           simp only [Act.put, List.setIfInBounds_toArray, List.set_cons_zero, List.set_cons_succ])
        | (refine SeqS.take2 (v := ?_) (by first | assumption | trivial) (by kernel_rfl) (by decide +kernel) (by decide +kernel) (Or.inl ⟨by rfl, ?_⟩) ?_
           rotate_left
           focus
             intro w' hb'
             have d0 : w'.cell? ⟨G, 0, none⟩ = some (.slice (some ⟨b, off, none⟩) n c) := (hb'.cell l0.out).trans e0.out
             go_simp
             with_reducible rfl
           simp only [Act.put, List.setIfInBounds_toArray, List.set_cons_zero, List.set_cons_succ])
        | (refine SeqS.take2 (v := ?_) (by first | assumption | trivial) (by kernel_rfl) (by decide +kernel) (by decide +kernel) (Or.inl ⟨by rfl, ?_⟩) ?_
           rotate_left
           focus
             intro w' hb'
             have d0 : w'.cell? ⟨b, off + j * 2 + 1, none⟩ = some (.slice A L d) := (hb'.cell l1.out).trans e1.out
             go_simp
             with_reducible rfl
           simp only [Act.put, List.setIfInBounds_toArray, List.set_cons_zero, List.set_cons_succ])
        | (refine SeqS.take2 (v := undef) (by first | assumption | trivial) (by kernel_rfl) (by decide +kernel) (by decide +kernel) (Or.inr ⟨by rfl, rfl⟩) ?_
           simp only [Act.put, List.setIfInBounds_toArray, List.set_cons_zero, List.set_cons_succ])
        | (refine SeqS.take3 (v := .agg (X).toArray) (by first | assumption | trivial) (by kernel_rfl) (by decide +kernel) (by decide +kernel) (yields_blk (by rfl) 36 (.tmp 3) rfl rfl (fun w' h => BB.out w' h) (HI)) ?_
           simp only [Act.put, List.setIfInBounds_toArray, List.set_cons_zero, List.set_cons_succ])
        | (refine SeqS.take3 (v := ?_) (by first | assumption | trivial) (by kernel_rfl) (by decide +kernel) (by decide +kernel) (Or.inl ⟨by rfl, ?_⟩) ?_
           rotate_left
           focus
             intro w' hb'
             go_simp
             with_reducible rfl
           simp only [Act.put, List.setIfInBounds_toArray, List.set_cons_zero, List.set_cons_succ])
        | (refine SeqS.take3 (v := ?_) (by first | assumption | trivial) (by kernel_rfl) (by decide +kernel) (by decide +kernel) (Or.inl ⟨by rfl, ?_⟩) ?_
           rotate_left
           focus
             intro w' hb'
             have d0 : w'.cell? ⟨G, 0, none⟩ = some (.slice (some ⟨b, off, none⟩) n c) := (hb'.cell l0.out).trans e0.out
             go_simp
             with_reducible rfl
           simp only [Act.put, List.setIfInBounds_toArray, List.set_cons_zero, List.set_cons_succ])
        | (refine SeqS.take3 (v := ?_) (by first | assumption | trivial) (by kernel_rfl) (by decide +kernel) (by decide +kernel) (Or.inl ⟨by rfl, ?_⟩) ?_
           rotate_left
           focus
             intro w' hb'
             have d0 : w'.cell? ⟨b, off + j * 2 + 1, none⟩ = some (.slice A L d) := (hb'.cell l1.out).trans e1.out
             go_simp
             with_reducible rfl
           simp only [Act.put, List.setIfInBounds_toArray, List.set_cons_zero, List.set_cons_succ])
        | (refine SeqS.take3 (v := undef) (by first | assumption | trivial) (by kernel_rfl) (by decide +kernel) (by decide +kernel) (Or.inr ⟨by rfl, rfl⟩) ?_
           simp only [Act.put, List.setIfInBounds_toArray, List.set_cons_zero, List.set_cons_succ]))
      refine SeqS.alone (by decide +kernel) (by rfl) (fun K hK => ?_)
      go_simp
      go_at_call 17
      refine (hc.out _ b1).mono ?_
      rintro e w3 ⟨rfl, b3⟩
      go_simp
      have S3 : Below wr.heap.size wr w3 := b1.trans (b3.mono b1.size)
      refine hK _ _ S3 ?_
      clear hK K
      repeat (first
        | (refine SeqS.take (v := ?_) (by first | assumption | trivial) (by kernel_rfl) (by decide +kernel) (by decide +kernel) (Or.inl ⟨by rfl, ?_⟩) ?_
           rotate_left
           focus
             intro w' hb'
             go_simp
             with_reducible rfl
           simp only [Act.put, List.setIfInBounds_toArray, List.set_cons_zero, List.set_cons_succ])
        | (refine SeqS.take (v := ?_) (by first | assumption | trivial) (by kernel_rfl) (by decide +kernel) (by decide +kernel) (Or.inl ⟨by rfl, ?_⟩) ?_
           rotate_left
           focus
             intro w' hb'
             have d0 := hq w'
             go_simp
             with_reducible rfl
           simp only [Act.put, List.setIfInBounds_toArray, List.set_cons_zero, List.set_cons_succ])
        | (refine SeqS.take (v := undef) (by first | assumption | trivial) (by kernel_rfl) (by decide +kernel) (by decide +kernel) (Or.inr ⟨by rfl, rfl⟩) ?_
           simp only [Act.put, List.setIfInBounds_toArray, List.set_cons_zero, List.set_cons_succ])
        | (refine SeqS.take1 (v := ?_) (by first | assumption | trivial) (by kernel_rfl) (by decide +kernel) (by decide +kernel) (Or.inl ⟨by rfl, ?_⟩) ?_
           rotate_left
           focus
             intro w' hb'
             go_simp
             with_reducible rfl
           simp only [Act.put, List.setIfInBounds_toArray, List.set_cons_zero, List.set_cons_succ])
        | (refine SeqS.take1 (v := ?_) (by first | assumption | trivial) (by kernel_rfl) (by decide +kernel) (by decide +kernel) (Or.inl ⟨by rfl, ?_⟩) ?_
           rotate_left
           focus
             intro w' hb'
             have d0 := hq w'
             go_simp
             with_reducible rfl
           simp only [Act.put, List.setIfInBounds_toArray, List.set_cons_zero, List.set_cons_succ])
        | (refine SeqS.take1 (v := undef) (by first | assumption | trivial) (by kernel_rfl) (by decide +kernel) (by decide +kernel) (Or.inr ⟨by rfl, rfl⟩) ?_
           simp only [Act.put, List.setIfInBounds_toArray, List.set_cons_zero, List.set_cons_succ])
        | (refine SeqS.take2 (v := ?_) (by first | assumption | trivial) (by kernel_rfl) (by decide +kernel) (by decide +kernel) (Or.inl ⟨by rfl, ?_⟩) ?_
           rotate_left
           focus
             intro w' hb'
             go_simp
             with_reducible rfl
           simp only [Act.put, List.setIfInBounds_toArray, List.set_cons_zero, List.set_cons_succ])
        | (refine SeqS.take2 (v := ?_) (by first | assumption | trivial) (by kernel_rfl) (by decide +kernel) (by decide +kernel) (Or.inl ⟨by rfl, ?_⟩) ?_
           rotate_left
           focus
             intro w' hb'
             have d0 := hq w'
             go_simp
             with_reducible rfl
           simp only [Act.put, List.setIfInBounds_toArray, List.set_cons_zero, List.set_cons_succ])
        | (refine SeqS.take2 (v := undef) (by first | assumption | trivial) (by kernel_rfl) (by decide +kernel) (by decide +kernel) (Or.inr ⟨by rfl, rfl⟩) ?_
           simp only [Act.put, List.setIfInBounds_toArray, List.set_cons_zero, List.set_cons_succ]))
      refine SeqS.done (by decide +kernel) ?_
      have hid3 := BB.out _ S3
      have hk3 := KK.out _ S3
      have B3 := bVH.out.trans (S3.mono bVH.out.size)
      clear BB KK b1 S3 b3 hc l1 e1 l0 e0
      cases F with
      | true =>
        have hR := hfound.out (of_decide_eq_true hFH.out)
        injection hR with hR1 hR2
        subst hR1; subst hR2
        go_wp2
        go_ret2
        exact ⟨rfl, B3⟩
      | false =>
        have hgo := Lib.hid (hnext.out (of_decide_eq_false hFH.out))
        go_wp2
        exact ⟨⟨j + 1, by have := hltH.out; omega, by congr 1, hgo.out, hk3, hid3, B3⟩, by simp only [intOf]; have := hltH.out; omega⟩
    · obtain rfl : n = j := by omega
      have hji : ¬ (n : Int) < (n : Int) := by omega
      rw [List.take_of_length_le (by omega)] at hno
      have hR := hfn.out hno
      injection hR with hR1 hR2
      subst hR1; subst hR2
      clear hlt hj hno
      go_wp2
      go_ret2
      exact ⟨rfl, hB⟩
end Go.Proofs.YtcfachgfgogllaaDoor

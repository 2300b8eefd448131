/-
  Texts of stages that were proved on their own, joined: PayRef, RwRef, RwNum, RwIds, RpMem. Each begins with its own words.
-/
import Derived.Test.YtcfachgfgogllaaDoorJPayAll0
import Derived.Test.YtcfachgfgogllaaDoorJPayAll1
import Derived.Test.YtcfachgfgogllaaDoorSeqS
import Derived.RegionTactic
import Derived.ChangeAlike
import Derived.Deep.QuietTactic
import Derived.BigQuiet
import Derived.StillTailTactics
import Derived.Test.YtcfachgfgogllaaDoorSteps

/-
  The document's own looks at payloads (layer 13): Few, Right, Same. New memory alone is written. Conditions: at most a million tiers.
-/
namespace Go.Proofs.YtcfachgfgogllaaDoor
open Go.RowKit

def fewB (ts : List Tier) : Bool := (ts.all fun t => decide (t.2.length ≤ 200)) && decide (ts.length ≤ 20)
theorem all_take_step {ts : List Tier} {i : Nat} {t : Tier} {p : Tier → Bool} (h : ts[i]? = some t) (hg : (ts.take i).all p = true) (hp : p t = true) : (ts.take (i + 1)).all p = true := by
  have hi := (List.getElem?_eq_some_iff.1 h).1
  rw [List.getElem?_eq_getElem hi] at h
  injection h with h
  rw [List.take_succ_eq_append_getElem hi, h, List.all_append, hg]
  simp [hp]
theorem all_bad {ts : List Tier} {i : Nat} {t : Tier} {p : Tier → Bool} (h : ts[i]? = some t) (hp : p t = false) : ts.all p = false := by
  rw [Bool.eq_false_iff]
  intro h2
  have := List.all_eq_true.1 h2 t (List.mem_of_getElem? h)
  rw [hp] at this
  cases this

set_option maxRecDepth 100000 in
set_option maxHeartbeats 1000000 in
theorem r13Few_any (a : Option Addr) (n c : Nat) (ts : List Tier) (w : World) (hT : TiersAt w a n c ts) (hn : n ≤ maxLen) :
    Calls Tryd.prog 7 #[.agg #[.slice a n c]] w fun q w' => q = .returned (.bool (fewB ts)) ∧ Below w.heap.size w w' := by
  have hl := hT.1
  have hb := below1 w (.cells #[.slice a n c] 24)
  have hk : (w.alloc (.cells #[.slice a n c] 24)).cell? ⟨w.heap.size, 0, none⟩ = some (.slice a n c) := (Blk.new w 24 [.slice a n c]).cell 0
  have hT1 := hT.keep hb
  obtain ⟨W, hW⟩ : ∃ W, w.alloc (.cells #[.slice a n c] 24) = W := ⟨_, rfl⟩
  rw [hW] at hb hk hT1
  have hnm : (n : Int) ≤ 9223372036854775807 := by unfold maxLen at hn; omega
  obtain ⟨F, hF⟩ : ∃ F, fewB ts = F := ⟨_, rfl⟩
  have hFH := Lib.hid hF
  rw [hF]
  clear hF hT hn
  go_enter Tryd.func7, Tryd.ntmps7
  go_wp2_with fail
  (try rw [hW])
  clear hW
  go_loopw [3] (fun i wr => ∃ j : Nat, j ≤ n ∧ i = .int .i64 j ∧ ((ts.take j).all fun t => decide (t.2.length ≤ 200)) = true ∧ wr = W) (fun i _ => n - (intOf i).toNat)
  case atStart => exact ⟨0, Nat.zero_le _, rfl, rfl, rfl⟩
  case round =>
    obtain ⟨j, hj, rfl, hall, hwr⟩ := hrel
    have hwr' := hwr.symm
    subst hwr'
    by_cases hlt : j < n
    · have hji : (j : Int) < (n : Int) := by omega
      obtain ⟨b, off, t, A, d, rfl, ht, c0, c1, hI, _⟩ := hT1.get j hlt
      have hb2 := fun (h : ¬ t.2.length ≤ 200) => all_bad (p := fun t => decide (t.2.length ≤ 200)) ht (decide_eq_false h)
      have hs2 := fun (h : t.2.length ≤ 200) => all_take_step (p := fun t => decide (t.2.length ≤ 200)) ht hall (decide_eq_true h)
      obtain ⟨L, hL⟩ : ∃ L, t.2.length = L := ⟨_, rfl⟩
      rw [hL] at c1 hb2 hs2
      have hltH := Lib.hid hlt
      by_cases h2 : L ≤ 200
      · have h2i : ¬ 200 < (L : Int) := by omega
        have hsH := Lib.hid (hs2 h2)
        clear hlt hj hall hb2 hs2 hL hI c0 ht
        go_wp2
        exact ⟨⟨j + 1, by have := hltH.out; omega, by congr 1, hsH.out, by trivial⟩, by simp only [intOf]; have := hltH.out; omega⟩
      · have h2i : 200 < (L : Int) := by omega
        have hFf : F = false := by rw [← hFH.out]; unfold fewB; rw [hb2 h2, Bool.false_and]
        clear hlt hj hall hb2 hs2 hL hI c0 ht
        go_wp2
        go_ret
        exact ⟨rfl, hb⟩
    · obtain rfl : n = j := by omega
      have hji : ¬ (n : Int) < (n : Int) := by omega
      rw [List.take_of_length_le (by omega)] at hall
      have hFf : F = decide (n ≤ 20) := by rw [← hFH.out]; unfold fewB; rw [hall, hl, Bool.true_and]
      clear hlt hj hall
      go_wp2
      go_ret
      refine ⟨?_, hb⟩
      show Ending.returned (.bool (decide ((n : Int) ≤ 20))) = .returned (.bool (decide (n ≤ 20)))
      congr 2
      exact decide_eq_decide.2 (by omega)

set_option maxRecDepth 100000 in
set_option maxHeartbeats 1600000 in
theorem r13Right_any (a : Option Addr) (n c : Nat) (ts : List Tier) (w : World) (hT : TiersAt w a n c ts) (hr : ∀ t ∈ ts, Ranged t) (hn : n ≤ maxLen) :
    Calls Tryd.prog 12 #[.agg #[.slice a n c]] w fun q w' => q = .returned (.bool (rightB ts)) ∧ Below w.heap.size w w' := by
  have hl := hT.1
  have hb := below1 w (.cells #[.slice a n c] 24)
  have hk : Blk (w.alloc (.cells #[.slice a n c] 24)) w.heap.size 24 [.slice a n c] := Blk.new w 24 [.slice a n c]
  have hT1 := hT.keep hb
  obtain ⟨W, hW⟩ : ∃ W, w.alloc (.cells #[.slice a n c] 24) = W := ⟨_, rfl⟩
  rw [hW] at hb hk hT1
  have hnm : (n : Int) ≤ 9223372036854775807 := by unfold maxLen at hn; omega
  have hnN := Lib.hid hn
  obtain ⟨F, hF⟩ : ∃ F, rightB ts = F := ⟨_, rfl⟩
  have hFH := Lib.hid hF
  rw [hF]
  obtain ⟨G, hG⟩ : ∃ G, w.heap.size = G := ⟨_, rfl⟩
  have hGH := Lib.hid hG
  rw [hG] at hk
  clear hF hT hn hG
  go_enter Tryd.func12, Tryd.ntmps12
  go_wp2_with fail
  (try rw [hW])
  (try rw [hGH.out])
  clear hW
  go_loopw [3] (fun i wr => ∃ j : Nat, j ≤ n ∧ i = .int .i64 j ∧ tiersOkB (-1) (ts.take j) = true ∧ Blk wr G 24 [.slice a n c] ∧ TiersAt wr a n c ts ∧ Below w.heap.size w wr) (fun i _ => n - (intOf i).toNat)
  case atStart => exact ⟨0, Nat.zero_le _, rfl, rfl, hk, hT1, hb⟩
  case round =>
    clear hk hT1 hb
    obtain ⟨j, hj, rfl, hok, hk, hT1, hb⟩ := hrel
    have k0 := hk.cell 0
    by_cases hlt : j < n
    · have hji : (j : Int) < (n : Int) := by omega
      obtain ⟨b, off, t, A, d, rfl, ht, c0, c1, hI, _⟩ := hT1.get j hlt
      have hrt := hr t (List.mem_of_getElem? ht)
      have hbad := fun h => tiers_bad (-1) ht h
      have hstp := tiers_step (-1) ht hok
      have hFbad := Lib.hid (fun h => (by rw [← hFH.out]; unfold rightB; rw [hbad h, Bool.false_and, Bool.false_and] : F = false))
      have hltH := Lib.hid hlt
      have hfe := hrt.fee
      obtain ⟨L, hL⟩ : ∃ L, t.2.length = L := ⟨_, rfl⟩
      obtain ⟨f, hf⟩ : ∃ f, t.1 = f := ⟨_, rfl⟩
      rw [hL] at c1 hFbad hstp
      rw [hf] at c0 hFbad hstp hfe
      have hstH := Lib.hid hstp
      by_cases h1 : L < 1
      · have h1i : (L : Int) < 1 := by omega
        have hFf := hFbad.out (.inl h1)
        clear hlt hj hok hbad hstp hI ht hL hf hrt hT1
        obtain ⟨w2, hw2⟩ : ∃ w2, wr.drew = w2 := ⟨_, rfl⟩
        have B1 : Below w.heap.size w w2 := by rw [← hw2]; exact hb.drew
        have b1 : Below wr.heap.size wr w2 := by rw [← hw2]; exact (Below.refl _ _).drew
        have K1 := hk.keep b1 hk.lt
        go_wp2_with fail
        refine region_seqS (fun _ => True) (by kernel_rfl) trivial ?_
        simp only [pairs, Nat.reduceAdd]
        rw [hw2]
        clear k0 c0 c1 hw2
        repeat (first
          | (refine SeqS.take (v := ?_) (by first | assumption | trivial) (by kernel_rfl) (by decide +kernel) (by decide +kernel) (Or.inl ⟨by rfl, ?_⟩) ?_
             rotate_left
             focus
               intro w' hb'
               go_simp
               with_reducible rfl
             simp only [Act.put, List.setIfInBounds_toArray, List.set_cons_zero, List.set_cons_succ])
          | (refine SeqS.take (v := undef) (by first | assumption | trivial) (by kernel_rfl) (by decide +kernel) (by decide +kernel) (Or.inr ⟨by rfl, rfl⟩) ?_
             simp only [Act.put, List.setIfInBounds_toArray, List.set_cons_zero, List.set_cons_succ])
          | (refine SeqS.take1 (v := ?_) (by first | assumption | trivial) (by kernel_rfl) (by decide +kernel) (by decide +kernel) (Or.inl ⟨by rfl, ?_⟩) ?_
             rotate_left
             focus
               intro w' hb'
               go_simp
               with_reducible rfl
             simp only [Act.put, List.setIfInBounds_toArray, List.set_cons_zero, List.set_cons_succ])
          | (refine SeqS.take1 (v := undef) (by first | assumption | trivial) (by kernel_rfl) (by decide +kernel) (by decide +kernel) (Or.inr ⟨by rfl, rfl⟩) ?_
             simp only [Act.put, List.setIfInBounds_toArray, List.set_cons_zero, List.set_cons_succ])
          | (refine SeqS.take2 (v := ?_) (by first | assumption | trivial) (by kernel_rfl) (by decide +kernel) (by decide +kernel) (Or.inl ⟨by rfl, ?_⟩) ?_
             rotate_left
             focus
               intro w' hb'
               go_simp
               with_reducible rfl
             simp only [Act.put, List.setIfInBounds_toArray, List.set_cons_zero, List.set_cons_succ])
          | (refine SeqS.take2 (v := undef) (by first | assumption | trivial) (by kernel_rfl) (by decide +kernel) (by decide +kernel) (Or.inr ⟨by rfl, rfl⟩) ?_
             simp only [Act.put, List.setIfInBounds_toArray, List.set_cons_zero, List.set_cons_succ]))
        refine SeqS.done (by decide +kernel) ?_
        clear hk hb b1 K1
        go_wp2
        go_ret
        exact ⟨by rw [hFf]; rfl, by first | exact B1 | (rw [hGH.out]; exact B1) | (rw [← hGH.out]; exact B1)⟩
      have h1i : ¬ (L : Int) < 1 := by omega
      have g1 : decide ((L : Int) < 1) = false := decide_eq_false h1i
      by_cases h2 : 64 < L
      · have h2i : 64 < (L : Int) := by omega
        have g2 : decide ((64 : Int) < (L : Int)) = true := decide_eq_true h2i
        have hFf := hFbad.out (.inr (.inl h2))
        clear hlt hj hok hbad hstp hI ht hL hf hrt hT1
        obtain ⟨w2, hw2⟩ : ∃ w2, wr.drew = w2 := ⟨_, rfl⟩
        have B1 : Below w.heap.size w w2 := by rw [← hw2]; exact hb.drew
        have b1 : Below wr.heap.size wr w2 := by rw [← hw2]; exact (Below.refl _ _).drew
        have K1 := hk.keep b1 hk.lt
        go_wp2_with fail
        refine region_seqS (fun _ => True) (by kernel_rfl) trivial ?_
        simp only [pairs, Nat.reduceAdd]
        rw [hw2]
        clear k0 c0 c1 hw2
        repeat (first
          | (refine SeqS.take (v := ?_) (by first | assumption | trivial) (by kernel_rfl) (by decide +kernel) (by decide +kernel) (Or.inl ⟨by rfl, ?_⟩) ?_
             rotate_left
             focus
               intro w' hb'
               go_simp
               with_reducible rfl
             simp only [Act.put, List.setIfInBounds_toArray, List.set_cons_zero, List.set_cons_succ])
          | (refine SeqS.take (v := undef) (by first | assumption | trivial) (by kernel_rfl) (by decide +kernel) (by decide +kernel) (Or.inr ⟨by rfl, rfl⟩) ?_
             simp only [Act.put, List.setIfInBounds_toArray, List.set_cons_zero, List.set_cons_succ])
          | (refine SeqS.take1 (v := ?_) (by first | assumption | trivial) (by kernel_rfl) (by decide +kernel) (by decide +kernel) (Or.inl ⟨by rfl, ?_⟩) ?_
             rotate_left
             focus
               intro w' hb'
               go_simp
               with_reducible rfl
             simp only [Act.put, List.setIfInBounds_toArray, List.set_cons_zero, List.set_cons_succ])
          | (refine SeqS.take1 (v := undef) (by first | assumption | trivial) (by kernel_rfl) (by decide +kernel) (by decide +kernel) (Or.inr ⟨by rfl, rfl⟩) ?_
             simp only [Act.put, List.setIfInBounds_toArray, List.set_cons_zero, List.set_cons_succ])
          | (refine SeqS.take2 (v := ?_) (by first | assumption | trivial) (by kernel_rfl) (by decide +kernel) (by decide +kernel) (Or.inl ⟨by rfl, ?_⟩) ?_
             rotate_left
             focus
               intro w' hb'
               go_simp
               with_reducible rfl
             simp only [Act.put, List.setIfInBounds_toArray, List.set_cons_zero, List.set_cons_succ])
          | (refine SeqS.take2 (v := undef) (by first | assumption | trivial) (by kernel_rfl) (by decide +kernel) (by decide +kernel) (Or.inr ⟨by rfl, rfl⟩) ?_
             simp only [Act.put, List.setIfInBounds_toArray, List.set_cons_zero, List.set_cons_succ]))
        refine SeqS.done (by decide +kernel) ?_
        clear hk hb b1 K1
        go_wp2
        go_ret
        exact ⟨by rw [hFf]; rfl, by first | exact B1 | (rw [hGH.out]; exact B1) | (rw [← hGH.out]; exact B1)⟩
      have h2i : ¬ 64 < (L : Int) := by omega
      have g2 : decide ((64 : Int) < (L : Int)) = false := decide_eq_false h2i
      by_cases h3 : j = 0
      · have h3i : ¬ (0 : Int) < (j : Int) := by omega
        have g3 : decide ((0 : Int) < (j : Int)) = false := decide_eq_false h3i
        have g3n : decide (0 < j) = false := decide_eq_false (by omega)
        have h3n : ¬ 0 < j := by omega
        have hnew := Lib.hid (hstH.out (by omega) (by omega) (by rw [h3]; show (-1 : Int) < f; omega))
        clear hlt hj hok hbad hstp hI ht hL hf hrt h3
        obtain ⟨w2, hw2⟩ : ∃ w2, wr.drew = w2 := ⟨_, rfl⟩
        have B1 : Below w.heap.size w w2 := by rw [← hw2]; exact hb.drew
        have b1 : Below wr.heap.size wr w2 := by rw [← hw2]; exact (Below.refl _ _).drew
        have K1 := hk.keep b1 hk.lt
        go_wp2_with fail
        refine region_seqS (fun _ => True) (by kernel_rfl) trivial ?_
        simp only [pairs, Nat.reduceAdd]
        rw [hw2]
        clear k0 c0 c1 hw2
        repeat (first
          | (refine SeqS.take (v := ?_) (by first | assumption | trivial) (by kernel_rfl) (by decide +kernel) (by decide +kernel) (Or.inl ⟨by rfl, ?_⟩) ?_
             rotate_left
             focus
               intro w' hb'
               go_simp
               with_reducible rfl
             simp only [Act.put, List.setIfInBounds_toArray, List.set_cons_zero, List.set_cons_succ])
          | (refine SeqS.take (v := undef) (by first | assumption | trivial) (by kernel_rfl) (by decide +kernel) (by decide +kernel) (Or.inr ⟨by rfl, rfl⟩) ?_
             simp only [Act.put, List.setIfInBounds_toArray, List.set_cons_zero, List.set_cons_succ])
          | (refine SeqS.take1 (v := ?_) (by first | assumption | trivial) (by kernel_rfl) (by decide +kernel) (by decide +kernel) (Or.inl ⟨by rfl, ?_⟩) ?_
             rotate_left
             focus
               intro w' hb'
               go_simp
               with_reducible rfl
             simp only [Act.put, List.setIfInBounds_toArray, List.set_cons_zero, List.set_cons_succ])
          | (refine SeqS.take1 (v := undef) (by first | assumption | trivial) (by kernel_rfl) (by decide +kernel) (by decide +kernel) (Or.inr ⟨by rfl, rfl⟩) ?_
             simp only [Act.put, List.setIfInBounds_toArray, List.set_cons_zero, List.set_cons_succ])
          | (refine SeqS.take2 (v := ?_) (by first | assumption | trivial) (by kernel_rfl) (by decide +kernel) (by decide +kernel) (Or.inl ⟨by rfl, ?_⟩) ?_
             rotate_left
             focus
               intro w' hb'
               go_simp
               with_reducible rfl
             simp only [Act.put, List.setIfInBounds_toArray, List.set_cons_zero, List.set_cons_succ])
          | (refine SeqS.take2 (v := undef) (by first | assumption | trivial) (by kernel_rfl) (by decide +kernel) (by decide +kernel) (Or.inr ⟨by rfl, rfl⟩) ?_
             simp only [Act.put, List.setIfInBounds_toArray, List.set_cons_zero, List.set_cons_succ]))
        refine SeqS.done (by decide +kernel) ?_
        have T1 := hT1.keep b1
        clear hk hb b1 hT1
        go_wp2
        exact ⟨⟨j + 1, by have := hltH.out; omega, by congr 1, hnew.out, K1, T1, B1⟩, by simp only [intOf]; have := hltH.out; omega⟩
      · have h3i : (0 : Int) < (j : Int) := by omega
        have g3 : decide ((0 : Int) < (j : Int)) = true := decide_eq_true h3i
        have g3n : decide (0 < j) = true := decide_eq_true (by omega)
        have h3n : 0 < j := by omega
        obtain ⟨b', off', u, A', d', hba, hu, e0, _, _, _⟩ := hT1.get (j - 1) (by omega)
        injection hba with hba
        injection hba with q1 q2 _
        subst q1; subst q2
        have hlast := lastF_take (-1) hu
        rw [show j - 1 + 1 = j by omega] at hlast
        obtain ⟨g, hg⟩ : ∃ g, u.1 = g := ⟨_, rfl⟩
        rw [hg] at e0 hlast
        obtain ⟨P, hP⟩ : ∃ P, j - 1 = P := ⟨_, rfl⟩
        have hPw : IntKind.i64.wrap ((j : Int) - 1) = (P : Int) := by rw [IntKind.wrap_i64]; have := hnN.out; unfold maxLen at this; omega
        have hPw2 : IntKind.i64.wrap (P : Int) = (P : Int) := by rw [IntKind.wrap_i64]; have := hnN.out; unfold maxLen at this; omega
        have hPn : (P : Int) < (n : Int) := by omega
        rw [hP] at e0
        have e02 : wr.drew.cell? ⟨b, off + P * 2, none⟩ = some (.int .u32 g) := e0
        have hjP : (j : Int) - 1 = (P : Int) := by omega
        by_cases h4 : f ≤ g
        · have hFf := hFbad.out (.inr (.inr (by rw [hlast]; omega)))
          have g4 : decide (f ≤ g) = true := decide_eq_true h4
          clear hlt hj hok hbad hstp hI ht hL hf hrt hT1 hlast hg hP hu h3
          obtain ⟨w2, hw2⟩ : ∃ w2, wr.drew = w2 := ⟨_, rfl⟩
          have B1 : Below w.heap.size w w2 := by rw [← hw2]; exact hb.drew
          have b1 : Below wr.heap.size wr w2 := by rw [← hw2]; exact (Below.refl _ _).drew
          have K1 := hk.keep b1 hk.lt
          have S1 : w2.cell? ⟨G, 0, none⟩ = some (.slice (some ⟨b, off, none⟩) n c) ∧ w2.cell? ⟨b, off + j * 2, none⟩ = some (.int .u32 f) ∧ w2.cell? ⟨b, off + P * 2, none⟩ = some (.int .u32 g) := ⟨K1.cell 0, by rw [← hw2]; exact c0, by rw [← hw2]; exact e0⟩
          go_wp2_with fail
          refine region_seqS (fun w' => w'.cell? ⟨G, 0, none⟩ = some (.slice (some ⟨b, off, none⟩) n c) ∧ w'.cell? ⟨b, off + j * 2, none⟩ = some (.int .u32 f) ∧ w'.cell? ⟨b, off + P * 2, none⟩ = some (.int .u32 g)) (by kernel_rfl) (by rw [hw2]; exact S1) ?_
          simp only [pairs, Nat.reduceAdd]
          rw [hw2]
          clear k0 c0 c1 hw2 e0 e02
          repeat (first
            | (refine SeqS.take (v := ?_) (by first | assumption | trivial) (by kernel_rfl) (by decide +kernel) (by decide +kernel) (Or.inl ⟨by rfl, ?_⟩) ?_
               rotate_left
               focus
                 intro w' hb'
                 go_simp
                 with_reducible rfl
               simp only [Act.put, List.setIfInBounds_toArray, List.set_cons_zero, List.set_cons_succ])
            | (refine SeqS.take (v := ?_) (by first | assumption | trivial) (by kernel_rfl) (by decide +kernel) (by decide +kernel) (Or.inl ⟨by rfl, ?_⟩) ?_
               rotate_left
               focus
                 intro w' hb'
                 have d0 : w'.cell? ⟨G, 0, none⟩ = some (.slice (some ⟨b, off, none⟩) n c) := hb'.1
                 go_simp
                 with_reducible rfl
               simp only [Act.put, List.setIfInBounds_toArray, List.set_cons_zero, List.set_cons_succ])
            | (refine SeqS.take (v := ?_) (by first | assumption | trivial) (by kernel_rfl) (by decide +kernel) (by decide +kernel) (Or.inl ⟨by rfl, ?_⟩) ?_
               rotate_left
               focus
                 intro w' hb'
                 have d0 : w'.cell? ⟨b, off + j * 2, none⟩ = some (.int .u32 f) := hb'.2.1
                 go_simp
                 with_reducible rfl
               simp only [Act.put, List.setIfInBounds_toArray, List.set_cons_zero, List.set_cons_succ])
            | (refine SeqS.take (v := ?_) (by first | assumption | trivial) (by kernel_rfl) (by decide +kernel) (by decide +kernel) (Or.inl ⟨by rfl, ?_⟩) ?_
               rotate_left
               focus
                 intro w' hb'
                 have d0 : w'.cell? ⟨b, off + P * 2, none⟩ = some (.int .u32 g) := hb'.2.2
                 go_simp
                 with_reducible rfl
               simp only [Act.put, List.setIfInBounds_toArray, List.set_cons_zero, List.set_cons_succ])
            | (refine SeqS.take (v := undef) (by first | assumption | trivial) (by kernel_rfl) (by decide +kernel) (by decide +kernel) (Or.inr ⟨by rfl, rfl⟩) ?_
               simp only [Act.put, List.setIfInBounds_toArray, List.set_cons_zero, List.set_cons_succ])
            | (refine SeqS.take1 (v := ?_) (by first | assumption | trivial) (by kernel_rfl) (by decide +kernel) (by decide +kernel) (Or.inl ⟨by rfl, ?_⟩) ?_
               rotate_left
               focus
                 intro w' hb'
                 go_simp
                 with_reducible rfl
               simp only [Act.put, List.setIfInBounds_toArray, List.set_cons_zero, List.set_cons_succ])
            | (refine SeqS.take1 (v := ?_) (by first | assumption | trivial) (by kernel_rfl) (by decide +kernel) (by decide +kernel) (Or.inl ⟨by rfl, ?_⟩) ?_
               rotate_left
               focus
                 intro w' hb'
                 have d0 : w'.cell? ⟨G, 0, none⟩ = some (.slice (some ⟨b, off, none⟩) n c) := hb'.1
                 go_simp
                 with_reducible rfl
               simp only [Act.put, List.setIfInBounds_toArray, List.set_cons_zero, List.set_cons_succ])
            | (refine SeqS.take1 (v := ?_) (by first | assumption | trivial) (by kernel_rfl) (by decide +kernel) (by decide +kernel) (Or.inl ⟨by rfl, ?_⟩) ?_
               rotate_left
               focus
                 intro w' hb'
                 have d0 : w'.cell? ⟨b, off + j * 2, none⟩ = some (.int .u32 f) := hb'.2.1
                 go_simp
                 with_reducible rfl
               simp only [Act.put, List.setIfInBounds_toArray, List.set_cons_zero, List.set_cons_succ])
            | (refine SeqS.take1 (v := ?_) (by first | assumption | trivial) (by kernel_rfl) (by decide +kernel) (by decide +kernel) (Or.inl ⟨by rfl, ?_⟩) ?_
               rotate_left
               focus
                 intro w' hb'
                 have d0 : w'.cell? ⟨b, off + P * 2, none⟩ = some (.int .u32 g) := hb'.2.2
                 go_simp
                 with_reducible rfl
               simp only [Act.put, List.setIfInBounds_toArray, List.set_cons_zero, List.set_cons_succ])
            | (refine SeqS.take1 (v := undef) (by first | assumption | trivial) (by kernel_rfl) (by decide +kernel) (by decide +kernel) (Or.inr ⟨by rfl, rfl⟩) ?_
               simp only [Act.put, List.setIfInBounds_toArray, List.set_cons_zero, List.set_cons_succ])
            | (refine SeqS.take2 (v := ?_) (by first | assumption | trivial) (by kernel_rfl) (by decide +kernel) (by decide +kernel) (Or.inl ⟨by rfl, ?_⟩) ?_
               rotate_left
               focus
                 intro w' hb'
                 go_simp
                 with_reducible rfl
               simp only [Act.put, List.setIfInBounds_toArray, List.set_cons_zero, List.set_cons_succ])
            | (refine SeqS.take2 (v := ?_) (by first | assumption | trivial) (by kernel_rfl) (by decide +kernel) (by decide +kernel) (Or.inl ⟨by rfl, ?_⟩) ?_
               rotate_left
               focus
                 intro w' hb'
                 have d0 : w'.cell? ⟨G, 0, none⟩ = some (.slice (some ⟨b, off, none⟩) n c) := hb'.1
                 go_simp
                 with_reducible rfl
               simp only [Act.put, List.setIfInBounds_toArray, List.set_cons_zero, List.set_cons_succ])
            | (refine SeqS.take2 (v := ?_) (by first | assumption | trivial) (by kernel_rfl) (by decide +kernel) (by decide +kernel) (Or.inl ⟨by rfl, ?_⟩) ?_
               rotate_left
               focus
                 intro w' hb'
                 have d0 : w'.cell? ⟨b, off + j * 2, none⟩ = some (.int .u32 f) := hb'.2.1
                 go_simp
                 with_reducible rfl
               simp only [Act.put, List.setIfInBounds_toArray, List.set_cons_zero, List.set_cons_succ])
            | (refine SeqS.take2 (v := ?_) (by first | assumption | trivial) (by kernel_rfl) (by decide +kernel) (by decide +kernel) (Or.inl ⟨by rfl, ?_⟩) ?_
               rotate_left
               focus
                 intro w' hb'
                 have d0 : w'.cell? ⟨b, off + P * 2, none⟩ = some (.int .u32 g) := hb'.2.2
                 go_simp
                 with_reducible rfl
               simp only [Act.put, List.setIfInBounds_toArray, List.set_cons_zero, List.set_cons_succ])
            | (refine SeqS.take2 (v := undef) (by first | assumption | trivial) (by kernel_rfl) (by decide +kernel) (by decide +kernel) (Or.inr ⟨by rfl, rfl⟩) ?_
               simp only [Act.put, List.setIfInBounds_toArray, List.set_cons_zero, List.set_cons_succ]))
          refine SeqS.done (by decide +kernel) ?_
          clear hk hb b1 K1
          go_wp2
          go_ret
          exact ⟨by rw [hFf]; rfl, by first | exact B1 | (rw [hGH.out]; exact B1) | (rw [← hGH.out]; exact B1)⟩
        · have hnew := Lib.hid (hstH.out (by omega) (by omega) (by rw [hlast]; omega))
          have g4 : decide (f ≤ g) = false := decide_eq_false h4
          clear hlt hj hok hbad hstp hI ht hL hf hrt hlast hg hP hu h3
          obtain ⟨w2, hw2⟩ : ∃ w2, wr.drew = w2 := ⟨_, rfl⟩
          have B1 : Below w.heap.size w w2 := by rw [← hw2]; exact hb.drew
          have b1 : Below wr.heap.size wr w2 := by rw [← hw2]; exact (Below.refl _ _).drew
          have K1 := hk.keep b1 hk.lt
          have S1 : w2.cell? ⟨G, 0, none⟩ = some (.slice (some ⟨b, off, none⟩) n c) ∧ w2.cell? ⟨b, off + j * 2, none⟩ = some (.int .u32 f) ∧ w2.cell? ⟨b, off + P * 2, none⟩ = some (.int .u32 g) := ⟨K1.cell 0, by rw [← hw2]; exact c0, by rw [← hw2]; exact e0⟩
          go_wp2_with fail
          refine region_seqS (fun w' => w'.cell? ⟨G, 0, none⟩ = some (.slice (some ⟨b, off, none⟩) n c) ∧ w'.cell? ⟨b, off + j * 2, none⟩ = some (.int .u32 f) ∧ w'.cell? ⟨b, off + P * 2, none⟩ = some (.int .u32 g)) (by kernel_rfl) (by rw [hw2]; exact S1) ?_
          simp only [pairs, Nat.reduceAdd]
          rw [hw2]
          clear k0 c0 c1 hw2 e0 e02
          repeat (first
            | (refine SeqS.take (v := ?_) (by first | assumption | trivial) (by kernel_rfl) (by decide +kernel) (by decide +kernel) (Or.inl ⟨by rfl, ?_⟩) ?_
               rotate_left
               focus
                 intro w' hb'
                 go_simp
                 with_reducible rfl
               simp only [Act.put, List.setIfInBounds_toArray, List.set_cons_zero, List.set_cons_succ])
            | (refine SeqS.take (v := ?_) (by first | assumption | trivial) (by kernel_rfl) (by decide +kernel) (by decide +kernel) (Or.inl ⟨by rfl, ?_⟩) ?_
               rotate_left
               focus
                 intro w' hb'
                 have d0 : w'.cell? ⟨G, 0, none⟩ = some (.slice (some ⟨b, off, none⟩) n c) := hb'.1
                 go_simp
                 with_reducible rfl
               simp only [Act.put, List.setIfInBounds_toArray, List.set_cons_zero, List.set_cons_succ])
            | (refine SeqS.take (v := ?_) (by first | assumption | trivial) (by kernel_rfl) (by decide +kernel) (by decide +kernel) (Or.inl ⟨by rfl, ?_⟩) ?_
               rotate_left
               focus
                 intro w' hb'
                 have d0 : w'.cell? ⟨b, off + j * 2, none⟩ = some (.int .u32 f) := hb'.2.1
                 go_simp
                 with_reducible rfl
               simp only [Act.put, List.setIfInBounds_toArray, List.set_cons_zero, List.set_cons_succ])
            | (refine SeqS.take (v := ?_) (by first | assumption | trivial) (by kernel_rfl) (by decide +kernel) (by decide +kernel) (Or.inl ⟨by rfl, ?_⟩) ?_
               rotate_left
               focus
                 intro w' hb'
                 have d0 : w'.cell? ⟨b, off + P * 2, none⟩ = some (.int .u32 g) := hb'.2.2
                 go_simp
                 with_reducible rfl
               simp only [Act.put, List.setIfInBounds_toArray, List.set_cons_zero, List.set_cons_succ])
            | (refine SeqS.take (v := undef) (by first | assumption | trivial) (by kernel_rfl) (by decide +kernel) (by decide +kernel) (Or.inr ⟨by rfl, rfl⟩) ?_
               simp only [Act.put, List.setIfInBounds_toArray, List.set_cons_zero, List.set_cons_succ])
            | (refine SeqS.take1 (v := ?_) (by first | assumption | trivial) (by kernel_rfl) (by decide +kernel) (by decide +kernel) (Or.inl ⟨by rfl, ?_⟩) ?_
               rotate_left
               focus
                 intro w' hb'
                 go_simp
                 with_reducible rfl
               simp only [Act.put, List.setIfInBounds_toArray, List.set_cons_zero, List.set_cons_succ])
            | (refine SeqS.take1 (v := ?_) (by first | assumption | trivial) (by kernel_rfl) (by decide +kernel) (by decide +kernel) (Or.inl ⟨by rfl, ?_⟩) ?_
               rotate_left
               focus
                 intro w' hb'
                 have d0 : w'.cell? ⟨G, 0, none⟩ = some (.slice (some ⟨b, off, none⟩) n c) := hb'.1
                 go_simp
                 with_reducible rfl
               simp only [Act.put, List.setIfInBounds_toArray, List.set_cons_zero, List.set_cons_succ])
            | (refine SeqS.take1 (v := ?_) (by first | assumption | trivial) (by kernel_rfl) (by decide +kernel) (by decide +kernel) (Or.inl ⟨by rfl, ?_⟩) ?_
               rotate_left
               focus
                 intro w' hb'
                 have d0 : w'.cell? ⟨b, off + j * 2, none⟩ = some (.int .u32 f) := hb'.2.1
                 go_simp
                 with_reducible rfl
               simp only [Act.put, List.setIfInBounds_toArray, List.set_cons_zero, List.set_cons_succ])
            | (refine SeqS.take1 (v := ?_) (by first | assumption | trivial) (by kernel_rfl) (by decide +kernel) (by decide +kernel) (Or.inl ⟨by rfl, ?_⟩) ?_
               rotate_left
               focus
                 intro w' hb'
                 have d0 : w'.cell? ⟨b, off + P * 2, none⟩ = some (.int .u32 g) := hb'.2.2
                 go_simp
                 with_reducible rfl
               simp only [Act.put, List.setIfInBounds_toArray, List.set_cons_zero, List.set_cons_succ])
            | (refine SeqS.take1 (v := undef) (by first | assumption | trivial) (by kernel_rfl) (by decide +kernel) (by decide +kernel) (Or.inr ⟨by rfl, rfl⟩) ?_
               simp only [Act.put, List.setIfInBounds_toArray, List.set_cons_zero, List.set_cons_succ])
            | (refine SeqS.take2 (v := ?_) (by first | assumption | trivial) (by kernel_rfl) (by decide +kernel) (by decide +kernel) (Or.inl ⟨by rfl, ?_⟩) ?_
               rotate_left
               focus
                 intro w' hb'
                 go_simp
                 with_reducible rfl
               simp only [Act.put, List.setIfInBounds_toArray, List.set_cons_zero, List.set_cons_succ])
            | (refine SeqS.take2 (v := ?_) (by first | assumption | trivial) (by kernel_rfl) (by decide +kernel) (by decide +kernel) (Or.inl ⟨by rfl, ?_⟩) ?_
               rotate_left
               focus
                 intro w' hb'
                 have d0 : w'.cell? ⟨G, 0, none⟩ = some (.slice (some ⟨b, off, none⟩) n c) := hb'.1
                 go_simp
                 with_reducible rfl
               simp only [Act.put, List.setIfInBounds_toArray, List.set_cons_zero, List.set_cons_succ])
            | (refine SeqS.take2 (v := ?_) (by first | assumption | trivial) (by kernel_rfl) (by decide +kernel) (by decide +kernel) (Or.inl ⟨by rfl, ?_⟩) ?_
               rotate_left
               focus
                 intro w' hb'
                 have d0 : w'.cell? ⟨b, off + j * 2, none⟩ = some (.int .u32 f) := hb'.2.1
                 go_simp
                 with_reducible rfl
               simp only [Act.put, List.setIfInBounds_toArray, List.set_cons_zero, List.set_cons_succ])
            | (refine SeqS.take2 (v := ?_) (by first | assumption | trivial) (by kernel_rfl) (by decide +kernel) (by decide +kernel) (Or.inl ⟨by rfl, ?_⟩) ?_
               rotate_left
               focus
                 intro w' hb'
                 have d0 : w'.cell? ⟨b, off + P * 2, none⟩ = some (.int .u32 g) := hb'.2.2
                 go_simp
                 with_reducible rfl
               simp only [Act.put, List.setIfInBounds_toArray, List.set_cons_zero, List.set_cons_succ])
            | (refine SeqS.take2 (v := undef) (by first | assumption | trivial) (by kernel_rfl) (by decide +kernel) (by decide +kernel) (Or.inr ⟨by rfl, rfl⟩) ?_
               simp only [Act.put, List.setIfInBounds_toArray, List.set_cons_zero, List.set_cons_succ]))
          refine SeqS.done (by decide +kernel) ?_
          have T1 := hT1.keep b1
          clear hk hb b1 hT1
          go_wp2
          exact ⟨⟨j + 1, by have := hltH.out; omega, by congr 1, hnew.out, K1, T1, B1⟩, by simp only [intOf]; have := hltH.out; omega⟩
    · obtain rfl : n = j := by omega
      have hji : ¬ (n : Int) < (n : Int) := by omega
      rw [List.take_of_length_le (by omega)] at hok
      have hFf := Lib.hid (show F = (decide (1 ≤ n) && decide (n ≤ 8)) by rw [← hFH.out]; unfold rightB; rw [hok, hl, Bool.true_and])
      clear hlt hj hok
      by_cases h1 : 1 ≤ n
      · have h1i : 1 ≤ (n : Int) := by omega
        go_wp2
        go_ret
        refine ⟨?_, by first | exact hb | (rw [hGH.out]; exact hb) | (rw [← hGH.out]; exact hb)⟩
        rw [hFf.out, decide_eq_true h1, Bool.true_and]
        show Ending.returned (.bool (decide ((n : Int) ≤ 8))) = .returned (.bool (decide (n ≤ 8)))
        congr 2
        exact decide_eq_decide.2 (by omega)
      · have h1i : ¬ 1 ≤ (n : Int) := by omega
        go_wp2
        go_ret
        refine ⟨?_, by first | exact hb | (rw [hGH.out]; exact hb) | (rw [← hGH.out]; exact hb)⟩
        rw [hFf.out, decide_eq_false h1, Bool.false_and]
        rfl
end Go.Proofs.YtcfachgfgogllaaDoor

/-
  The document's own writer (layer 10): New, Fail, Bytes, Done. New memory alone is written. Conditions: at most a million bytes, where bytes are laid.
-/
namespace Go.Proofs.YtcfachgfgogllaaDoor
open Go.RowKit
end Go.Proofs.YtcfachgfgogllaaDoor

/-
  The document's own writer (layer 10): what Bytes comes to in every case, and Num. New memory alone is written. Conditions: at most a million bytes.
-/
namespace Go.Proofs.YtcfachgfgogllaaDoor
open Go.RowKit

/-- Bytes and fault behind Bytes(ys). -/
def wrStep (r : Int) (xs : List Int) (e : Int) (ys : List Int) : List Int × Int :=
  if e ≠ 0 then (xs, e) else if r < ((xs.length : Int) + ys.length) then (xs, 3) else (xs ++ ys, 0)
/-- Where the bytes lie: where they lay, or in new memory. -/
def Stays (w : World) (a a' : Option Addr) (n n' : Nat) : Prop := (a' = a ∧ n' = n) ∨ ∀ x, a' = some x → w.heap.size ≤ x.block

/-- Does a number fit so many bytes? -/
def fits (N A : Int) : Prop := 1 ≤ A ∧ A ≤ 8 ∧ N < 256 ^ A.toNat
instance (N A : Int) : Decidable (fits N A) := by unfold fits; exact inferInstance
/-- Bytes and fault behind Num(N, A). -/
def wrNum (r : Int) (xs : List Int) (e N A : Int) : List Int × Int := if fits N A then wrStep r xs e (beL N A.toNat) else (xs, badOf e 1)
end Go.Proofs.YtcfachgfgogllaaDoor

/-
  The document's own writer (layer 10): Ids. New memory alone is written. Conditions: at most a million bytes.
-/
namespace Go.Proofs.YtcfachgfgogllaaDoor
open Go.RowKit

theorem ids_chunk {w : World} {b off n cap : Nat} {zs : List Int} (h : IdsAt w (some ⟨b, off, none⟩) n cap zs) (j : Nat) (hj : j < n) : Ints .u8 w (some ⟨b, off + j * 32, none⟩) 32 32 ((zs.drop (32 * j)).take 32) := by
  have hl := h.1
  refine ⟨by rw [List.length_take, List.length_drop, hl]; omega, Nat.le_refl _, .inr ⟨b, off + j * 32, rfl, fun i hi => ?_⟩⟩
  rcases h.2.2 with h0 | ⟨b', off', ha, hc⟩
  · omega
  · injection ha with ha
    injection ha with e1 e2 _
    subst e1; subst e2
    have h1 := hc (j * 32 + i) (by omega)
    rw [show off + j * 32 + i = off + (j * 32 + i) by omega, h1]
    congr 2
    rw [List.getD_eq_getElem?_getD, List.getD_eq_getElem?_getD, List.getElem?_take_of_lt hi, List.getElem?_drop, show 32 * j + i = j * 32 + i by omega]
theorem take_chunk (zs : List Int) (j : Nat) : (zs.take (32 * j)).map (Value.int .u8) ++ ((zs.drop (32 * j)).take 32).map (Value.int .u8) = (zs.take (32 * (j + 1))).map (Value.int .u8) := by
  rw [← List.map_append, ← List.take_add, show 32 * (j + 1) = 32 * j + 32 by omega]
end Go.Proofs.YtcfachgfgogllaaDoor

/-
  A reader of the program in memory ('RdAt': its bytes, place and fault), and what bytes.Clone, New, reads, At and Left come to. New memory alone is written. Conditions: bytes below 256, at most a million; the place is within them.
-/
namespace Go.Proofs.YtcfachgfgogllaaDoor
open Go.RowKit

theorem pNone (cap : Nat) (w : World) : Sem.run Tryd.prog (binOp BinOp.eql 27 (.slice none 0 cap) (.slice none 0 0)) w = .ok (.bool true) w := by kernel_rfl
theorem pSome (x : Addr) (n cap : Nat) (w : World) : Sem.run Tryd.prog (binOp BinOp.eql 27 (.slice (some x) n cap) (.slice none 0 0)) w = .ok (.bool false) w := by kernel_rfl

set_option maxRecDepth 100000 in
set_option maxHeartbeats 800000 in
theorem pClone_any (a : Option Addr) (n cap : Nat) (xs : List Int) (w : World) (hI : Ints .u8 w a n cap xs) (hn : n ≤ 4294967296) :
    Calls Tryd.prog 39 #[.slice a n cap] w fun e w' => ∃ b c, e = .returned (.slice b n c) ∧ w'.ownsRow w.heap.size 5 1 (.slice b n c) n (xs.map (Value.int .u8)) ∧ Below w.heap.size w w' := by
  obtain ⟨i0, hi, hz0, hz1, hz2⟩ := info_u8b
  have hnH := Lib.hid hn
  clear hn
  go_enter Tryd.func39, Tryd.ntmps39
  cases a with
  | none =>
    have h0 : n = 0 := by
      rcases hI.2.2 with h | ⟨b, off, h, _⟩
      · exact h
      · cases h
    subst h0
    obtain rfl : xs = [] := List.length_eq_zero_iff.1 hI.1
    have heq := pNone cap
    go_wp2
    go_ret
    exact ⟨none, 0, rfl, World.ownsRow_nil _ _ _ _, Below.refl _ _⟩
  | some ad =>
    have q3 : Below w.heap.size w (w.alloc (.cells #[] 5)) := below1 _ _
    have I3 := Lib.hid (hI.keep q3)
    have heq := pSome ad n cap
    clear hI
    go_wp2_with (at_builtin
                 refine wpList_append_ints rfl (.tmp 5) (.tmp 6) 27 rfl w.heap.size 5 i0 (.int .u8 0) 1 Tryd.underlying27 hi hz0 hz1 hz2 rfl rfl (World.ownsRow_made w #[] 0 (Nat.le_refl _) (Nat.zero_le _) rfl) rfl I3.out ?_ ?_ q3.size ?_
                 (have := hnH.out; unfold maxLen; omega)
                 (have := hnH.out; omega)
                 intro v4 w4 hown4 hg4
                 refine RowKit.Hid.out ?_)
    refine Lib.hid ?_
    rw [List.nil_append, Nat.zero_add] at hown4
    have hex : ∃ b c, v4 = .slice b n c := own_slice hown4
    obtain ⟨b, c, hv⟩ := hex
    rw [hv] at hown4 ⊢
    have hB : Below w.heap.size w w4 := q3.grown hg4 q3.size (fun q hq => by injection hq with hq; rw [← hq]; exact Nat.le_refl _)
    go_wp2
    go_ret
    exact ⟨b, c, rfl, hown4, hB⟩

/-- The fault as it is kept: an error that wraps a number; a number that is none of the reader's own is kept beside it. -/
def FaultIs (fv : Value) (t e : Int) : Prop :=
  (fv = .nilIface ∧ e = 0 ∧ t = 0) ∨ (e ≠ 0 ∧ ∃ s, fv = .iface 82 (.agg #[.string s, .int .i64 e]) ∧ (e = 1 ∨ e = 2 ∨ e = 4 ∨ t = e))
/-- What a slice of bytes of the reader's own is: in a block of F, none at no byte. -/
structure RdAt (F : Nat → Prop) (w : World) (g : Nat) (xs : List Int) (p : Nat) (e : Int) : Prop where
  is : ∃ (a : Option Addr) (n c : Nat) (fv : Value) (t : Int), Blk w g 75 [.bool true, .slice a n c, .int .i64 (p : Int), fv, .int .i64 t] ∧ Ints .u8 w a n c xs ∧ FaultIs fv t e ∧ (∀ x, a = some x → 0 < n → F x.block ∧ x.block ≠ g)
  range : ∀ x ∈ xs, 0 ≤ x ∧ x < 256
  most : xs.length ≤ 1000000
  within : p ≤ xs.length
  own : F g
  lt : ∀ b, F b → b < w.heap.size
theorem RdAt.keep {F : Nat → Prop} {w w' : World} {g : Nat} {xs : List Int} {p : Nat} {e : Int} (h : RdAt F w g xs p e) (hk : ∀ b, F b → w'.heap[b]? = w.heap[b]?) (hs : w.heap.size ≤ w'.heap.size) : RdAt F w' g xs p e := by
  obtain ⟨a, n, c, fv, t, hb, hi, hf, hx⟩ := h.is
  refine ⟨⟨a, n, c, fv, t, (hk g h.own).trans hb, ?_, hf, hx⟩, h.range, h.most, h.within, h.own, fun b hb => Nat.lt_of_lt_of_le (h.lt b hb) hs⟩
  refine ⟨hi.1, hi.2.1, ?_⟩
  rcases hi.2.2 with h0 | ⟨b, off, ha, hc⟩
  · exact .inl h0
  · by_cases hn : n = 0
    · exact .inl hn
    · refine .inr ⟨b, off, ha, fun i hi => ?_⟩
      rw [← hc i hi]
      have := hk b (hx _ ha (by omega)).1
      simp only [World.cell?, this]

set_option maxRecDepth 100000 in
set_option maxHeartbeats 800000 in
theorem pNew_any (a : Option Addr) (n c : Nat) (xs : List Int) (w : World) (hI : Ints .u8 w a n c xs) (hr : ∀ x ∈ xs, 0 ≤ x ∧ x < 256) (hn : n ≤ 1000000) :
    Calls Tryd.prog 29 #[.slice a n c] w fun r w' => ∃ g F, r = .returned (.pointer (some ⟨g, 0, none⟩)) ∧ RdAt F w' g xs 0 0 ∧ (∀ b, F b → w.heap.size ≤ b) ∧ Below w.heap.size w w' := by
  go_enter Tryd.func29, Tryd.ntmps29
  go_wp2_with fail
  refine (pClone_any a n c xs w hI (by omega)).mono ?_
  rintro r w1 ⟨b, d, rfl, ho, hB⟩
  go_wp2
  go_ret
  refine ⟨w1.heap.size, fun k => w.heap.size ≤ k ∧ k < w1.heap.size + 1, rfl, ?_, fun b hb => hb.1, hB.trans ((below1 w1 _).mono hB.size)⟩
  have hk := Blk.new w1 75 [.bool true, .slice b n d, .int .i64 0, .nilIface, .int .i64 0]
  obtain ⟨a', c', hv, hi⟩ := Ints.of_owns ho
  injection hv with e1 _ e2
  subst e1; subst e2
  have hin := hi.isIn.2
  refine ⟨⟨b, n, d, .nilIface, 0, hk, hi.keep (below1 _ _), .inl ⟨rfl, rfl, rfl⟩, fun x hx h0 => ?_⟩, hr, by rw [hI.len]; exact hn, Nat.zero_le _, ⟨hB.size, Nat.lt_succ_self _⟩, fun b hb => by rw [size1]; exact hb.2⟩
  have hlt := hin x hx h0
  exact ⟨⟨(ho.lt x.block (by rw [hx]; rfl)).1, by omega⟩, by omega⟩

/-- The cells of a reader's block. -/
theorem rdCells {w : World} {g : Nat} {a : Option Addr} {n c : Nat} {p : Int} {fv : Value} {t : Int} (h : Blk w g 75 [.bool true, .slice a n c, .int .i64 p, fv, .int .i64 t]) :
    w.cell? ⟨g, 0, none⟩ = some (.bool true) ∧ w.cell? ⟨g, 1, none⟩ = some (.slice a n c) ∧ w.cell? ⟨g, 2, none⟩ = some (.int .i64 p) ∧ w.cell? ⟨g, 3, none⟩ = some fv ∧ w.cell? ⟨g, 4, none⟩ = some (.int .i64 t) :=
  ⟨h.cell 0, h.cell 1, h.cell 2, h.cell 3, h.cell 4⟩

set_option maxRecDepth 100000 in
set_option maxHeartbeats 800000 in
theorem pReads_any {F : Nat → Prop} {w : World} {g : Nat} {xs : List Int} {p : Nat} {e : Int} (h : RdAt F w g xs p e) :
    Calls Tryd.prog 48 #[.pointer (some ⟨g, 0, none⟩)] w fun r w' => r = .returned (.bool (decide (e = 0))) ∧ w = w' := by
  obtain ⟨a, n, c, fv, t, hb, hi, hf, hx⟩ := h.is
  obtain ⟨c0, c1, c2, c3, c4⟩ := rdCells hb
  clear hb hi hx h c1 c2 c4
  rcases hf with ⟨rfl, rfl, _⟩ | ⟨h0, s, rfl, _⟩
  · go_enter Tryd.func48, Tryd.ntmps48
    go_wp2
    go_ret
    exact ⟨rfl, rfl⟩
  · rw [decide_eq_false h0]
    clear h0
    go_enter Tryd.func48, Tryd.ntmps48
    go_wp2
    go_ret
    exact ⟨rfl, rfl⟩

set_option maxRecDepth 100000 in
set_option maxHeartbeats 800000 in
theorem pLeft_any {F : Nat → Prop} {w : World} {g : Nat} {xs : List Int} {p : Nat} {e : Int} (h : RdAt F w g xs p e) :
    Calls Tryd.prog 49 #[.pointer (some ⟨g, 0, none⟩)] w fun r w' => r = .returned (.int .i64 ((xs.length : Int) - p)) ∧ ∃ q, w' = w.drewN q := by
  obtain ⟨a, n, c, fv, t, hb, hi, hf, hx⟩ := h.is
  obtain ⟨c0, c1, c2, c3, c4⟩ := rdCells hb
  have hl := hi.len
  have hm := h.most
  have hp := h.within
  rw [hl] at hm hp ⊢
  have hw : wrap64 ((n : Int) - (p : Int)) = (n : Int) - p := by unfold wrap64; omega
  clear hb hi hx h c0 c3 c4 hl
  go_enter Tryd.func49, Tryd.ntmps49
  go_wp2
  go_quiet (fail)
  go_wp2
  go_ret
  exact ⟨rfl, _, rfl⟩
end Go.Proofs.YtcfachgfgogllaaDoor

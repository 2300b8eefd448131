/-
  Texts of stages that were proved on their own, joined: PaySame. Each begins with its own words.
-/
import Derived.Test.YtcfachgfgogllaaDoorJPayAll2
import Derived.Test.YtcfachgfgogllaaDoorJPayAll10

/-
  The document's own look whether two payloads are the same (layer 13): Same. New memory alone is written. Conditions: fees below 2^32, bytes below 256.
-/
namespace Go.Proofs.YtcfachgfgogllaaDoor
open Go.RowKit

theorem take_eq_step {ts us : List Tier} {j : Nat} {t : Tier} (h : ts.take j = us.take j) (ht : ts[j]? = some t) (hu : us[j]? = some t) : ts.take (j + 1) = us.take (j + 1) := by
  have h1 := (List.getElem?_eq_some_iff.1 ht).1
  have h2 := (List.getElem?_eq_some_iff.1 hu).1
  rw [List.getElem?_eq_getElem h1] at ht
  rw [List.getElem?_eq_getElem h2] at hu
  injection ht with ht
  injection hu with hu
  rw [List.take_succ_eq_append_getElem h1, List.take_succ_eq_append_getElem h2, h, ht, hu]

set_option maxRecDepth 100000 in
set_option maxHeartbeats 2000000 in
theorem r13Same_any (a : Option Addr) (n c : Nat) (ts : List Tier) (a' : Option Addr) (n' c' : Nat) (us : List Tier) (w : World) (hT : TiersAt w a n c ts) (hU : TiersAt w a' n' c' us) (hr : ∀ t ∈ ts, Ranged t) (hs : ∀ t ∈ us, Ranged t) (hn : n ≤ maxLen) :
    Calls Tryd.prog 14 #[.agg #[.slice a n c], .agg #[.slice a' n' c']] w fun q w' => q = .returned (.bool (decide (ts = us))) ∧ Below w.heap.size w w' := by
  have hl := hT.1
  have hl' := hU.1
  have hb := below2 w (.cells #[.slice a n c] 24) (.cells #[.slice a' n' c'] 24)
  have hk : Blk ((w.alloc (.cells #[.slice a n c] 24)).alloc (.cells #[.slice a' n' c'] 24)) w.heap.size 24 [.slice a n c] := (Blk.new w 24 [.slice a n c]).alloc _
  have hm : Blk ((w.alloc (.cells #[.slice a n c] 24)).alloc (.cells #[.slice a' n' c'] 24)) (w.heap.size + 1) 24 [.slice a' n' c'] := Blk.new1 w _ 24 [.slice a' n' c']
  have hT1 := hT.keep hb
  have hU1 := hU.keep hb
  obtain ⟨W, hW⟩ : ∃ W, (w.alloc (.cells #[.slice a n c] 24)).alloc (.cells #[.slice a' n' c'] 24) = W := ⟨_, rfl⟩
  rw [hW] at hb hk hm hT1 hU1
  have hnm : (n : Int) ≤ 9223372036854775807 := by unfold maxLen at hn; omega
  obtain ⟨F, hF⟩ : ∃ F, decide (ts = us) = F := ⟨_, rfl⟩
  have hFH := Lib.hid hF
  rw [hF]
  have k00 := hk.cell 0
  have k10 := hm.cell 0
  have hbl := Lib.hid (And.intro hk hm)
  have hTU := Lib.hid (And.intro hT1 hU1)
  have hWH := Lib.hid hW
  clear hF hT hU hn hk hm hT1 hU1
  by_cases hne : n = n'
  case neg =>
    have hneb : ((n : Int) == (n' : Int)) = false := beq_false_of_ne (by omega)
    have hFf : F = false := by rw [← hFH.out]; exact decide_eq_false (fun e => hne (by rw [← hl, ← hl', e]))
    go_enter Tryd.func14, Tryd.ntmps14
    go_wp2
    go_ret
    exact ⟨by first | rfl | (rw [hFf]; rfl), hb⟩
  subst hne
  go_enter Tryd.func14, Tryd.ntmps14
  go_wp2_with fail
  obtain ⟨G, hG⟩ : ∃ G, w.heap.size = G := ⟨_, rfl⟩
  have hGH := Lib.hid hG
  have hbG := Lib.hid hb
  have hk2 := hbl.out
  rw [hG] at hk2 ⊢
  clear hG k00 k10 hW hb
  go_loopw [5] (fun i wr => ∃ j : Nat, j ≤ n ∧ i = .int .i64 j ∧ ts.take j = us.take j ∧ Blk wr G 24 [.slice a n c] ∧ Blk wr (G + 1) 24 [.slice a' n c'] ∧ TiersAt wr a n c ts ∧ TiersAt wr a' n c' us ∧ Below w.heap.size w wr) (fun i _ => n - (intOf i).toNat)
  case atStart => exact ⟨0, Nat.zero_le _, rfl, rfl, hk2.1, hk2.2, hTU.out.1, hTU.out.2, hbG.out⟩
  case round =>
    clear hk2
    obtain ⟨j, hj, rfl, heq, hk, hm, hT1, hU1, hb⟩ := hrel
    have kk0 := hk.cell 0
    have kk1 := hm.cell 0
    by_cases hlt : j < n
    · have hji : (j : Int) < (n : Int) := by omega
      obtain ⟨b, off, t, A, d, rfl, ht, c00, c10, hI, _⟩ := hT1.get j hlt
      obtain ⟨b', off', u, A', d', rfl, hu, e00, e10, hJ, _⟩ := hU1.get j hlt
      have rt := hr t (List.mem_of_getElem? ht)
      have ru := hs u (List.mem_of_getElem? hu)
      have k0 := Lib.hid kk0
      have k1 := Lib.hid kk1
      have l0 := Lib.hid hk.lt
      have l1 := Lib.hid hm.lt
      have l2 := Lib.hid (World.block_lt_of_cell? wr _ c00)
      have l3 := Lib.hid (World.block_lt_of_cell? wr _ e00)
      have v1 := Lib.hid (fun w' (h : Below wr.heap.size wr w') => (hI.keep h).string (P := Tryd.prog) 27 9 5 Tryd.underlying27 Tryd.underlying5 Tryd.underlying9)
      have v2 := Lib.hid (fun w' (h : Below wr.heap.size wr w') => (hJ.keep h).string (P := Tryd.prog) 27 9 5 Tryd.underlying27 Tryd.underlying5 Tryd.underlying9)
      have hst := str_eq (xs := t.2) (ys := u.2) rt.ok ru.ok
      have hFn := Lib.hid (fun (h : t ≠ u) => (by rw [← hFH.out]; exact decide_eq_false (fun e => h (by rw [e, hu] at ht; injection ht with ht; exact ht.symm)) : F = false))
      have hstep := Lib.hid (fun (h : t = u) => take_eq_step heq ht (h ▸ hu))
      have hltH := Lib.hid hlt
      have htu := Lib.hid (fun (h1 : t.1 = u.1) (h2 : t.2 = u.2) => (Prod.ext h1 h2 : t = u))
      have hkeep := Lib.hid (And.intro hk (And.intro hm (And.intro hT1 hU1)))
      obtain ⟨SA, hSA⟩ : ∃ S, strOfNums t.2 = S := ⟨_, rfl⟩
      obtain ⟨SB, hSB⟩ : ∃ S, strOfNums u.2 = S := ⟨_, rfl⟩
      rw [hSA] at v1 hst
      rw [hSB] at v2 hst
      by_cases h1 : t.1 = u.1
      · by_cases h2 : t.2 = u.2
        · have hgo := Lib.hid (hstep.out (htu.out h1 h2))
          rw [decide_eq_true h2] at hst
          have hSS : SA = SB := by rw [← hSA, ← hSB, h2]
          obtain ⟨f, hf⟩ : ∃ f, t.1 = f := ⟨_, rfl⟩
          obtain ⟨g, hg⟩ : ∃ g, u.1 = g := ⟨_, rfl⟩
          obtain ⟨L, hL⟩ : ∃ L, t.2.length = L := ⟨_, rfl⟩
          obtain ⟨L', hL'⟩ : ∃ L, u.2.length = L := ⟨_, rfl⟩
          rw [hf] at c00
          rw [hg] at e00
          rw [hL] at c10 v1
          rw [hL'] at e10 v2
          have c0 := Lib.hid c00
          have c1 := Lib.hid c10
          have e0 := Lib.hid e00
          have e1 := Lib.hid e10
          clear c00 c10 e00 e10 hI hJ ht hu rt ru hk hm hT1 hU1 kk0 kk1
          obtain rfl : f = g := by rw [← hf, ← hg]; exact h1
          subst hSS
          clear h1 h2 hf hg hL hL' hSA hSB hst hlt hj heq
          have kk0 := k0.out
          have kk1 := k1.out
          go_wp2_with fail
          clear kk0 kk1
          have b1 : Below wr.heap.size wr wr.drew := (Below.refl _ _).drew
          refine region_seqS (fun w' => Below wr.heap.size wr w') (by kernel_rfl) b1 ?_
          simp only [pairs, Nat.reduceAdd]
          repeat (first
            | (refine SeqS.take (v := ?_) (by first | assumption | trivial) (by kernel_rfl) (by decide +kernel) (by decide +kernel) (Or.inl ⟨by rfl, ?_⟩) ?_
               rotate_left
               focus
                 intro w' hb'
                 go_simp
                 with_reducible rfl
               simp only [Act.put, List.setIfInBounds_toArray, List.set_cons_zero, List.set_cons_succ])
            | (refine SeqS.take (v := ?_) (by first | assumption | trivial) (by kernel_rfl) (by decide +kernel) (by decide +kernel) (Or.inl ⟨by rfl, ?_⟩) ?_
               rotate_left
               focus
                 intro w' hb'
                 have d0 : w'.cell? ⟨G, 0, none⟩ = some (.slice (some ⟨b, off, none⟩) n c) := (hb'.cell l0.out).trans k0.out
                 go_simp
                 with_reducible rfl
               simp only [Act.put, List.setIfInBounds_toArray, List.set_cons_zero, List.set_cons_succ])
            | (refine SeqS.take (v := ?_) (by first | assumption | trivial) (by kernel_rfl) (by decide +kernel) (by decide +kernel) (Or.inl ⟨by rfl, ?_⟩) ?_
               rotate_left
               focus
                 intro w' hb'
                 have d0 : w'.cell? ⟨G + 1, 0, none⟩ = some (.slice (some ⟨b', off', none⟩) n c') := (hb'.cell l1.out).trans k1.out
                 go_simp
                 with_reducible rfl
               simp only [Act.put, List.setIfInBounds_toArray, List.set_cons_zero, List.set_cons_succ])
            | (refine SeqS.take (v := ?_) (by first | assumption | trivial) (by kernel_rfl) (by decide +kernel) (by decide +kernel) (Or.inl ⟨by rfl, ?_⟩) ?_
               rotate_left
               focus
                 intro w' hb'
                 have d0 : w'.cell? ⟨b, off + j * 2, none⟩ = some (.int .u32 _) := (hb'.cell l2.out).trans c0.out
                 go_simp
                 with_reducible rfl
               simp only [Act.put, List.setIfInBounds_toArray, List.set_cons_zero, List.set_cons_succ])
            | (refine SeqS.take (v := ?_) (by first | assumption | trivial) (by kernel_rfl) (by decide +kernel) (by decide +kernel) (Or.inl ⟨by rfl, ?_⟩) ?_
               rotate_left
               focus
                 intro w' hb'
                 have d0 : w'.cell? ⟨b', off' + j * 2, none⟩ = some (.int .u32 _) := (hb'.cell l3.out).trans e0.out
                 go_simp
                 with_reducible rfl
               simp only [Act.put, List.setIfInBounds_toArray, List.set_cons_zero, List.set_cons_succ])
            | (refine SeqS.take (v := ?_) (by first | assumption | trivial) (by kernel_rfl) (by decide +kernel) (by decide +kernel) (Or.inl ⟨by rfl, ?_⟩) ?_
               rotate_left
               focus
                 intro w' hb'
                 have d0 : w'.cell? ⟨b, off + j * 2 + 1, none⟩ = some (.slice A L d) := (hb'.cell l2.out).trans c1.out
                 go_simp
                 with_reducible rfl
               simp only [Act.put, List.setIfInBounds_toArray, List.set_cons_zero, List.set_cons_succ])
            | (refine SeqS.take (v := ?_) (by first | assumption | trivial) (by kernel_rfl) (by decide +kernel) (by decide +kernel) (Or.inl ⟨by rfl, ?_⟩) ?_
               rotate_left
               focus
                 intro w' hb'
                 have d0 : w'.cell? ⟨b', off' + j * 2 + 1, none⟩ = some (.slice A' L' d') := (hb'.cell l3.out).trans e1.out
                 go_simp
                 with_reducible rfl
               simp only [Act.put, List.setIfInBounds_toArray, List.set_cons_zero, List.set_cons_succ])
            | (refine SeqS.take (v := ?_) (by first | assumption | trivial) (by kernel_rfl) (by decide +kernel) (by decide +kernel) (Or.inl ⟨by rfl, ?_⟩) ?_
               rotate_left
               focus
                 intro w' hb'
                 have d0 := v1.out w' hb'
                 go_simp
                 with_reducible rfl
               simp only [Act.put, List.setIfInBounds_toArray, List.set_cons_zero, List.set_cons_succ])
            | (refine SeqS.take (v := ?_) (by first | assumption | trivial) (by kernel_rfl) (by decide +kernel) (by decide +kernel) (Or.inl ⟨by rfl, ?_⟩) ?_
               rotate_left
               focus
                 intro w' hb'
                 have d0 := v2.out w' hb'
                 go_simp
                 with_reducible rfl
               simp only [Act.put, List.setIfInBounds_toArray, List.set_cons_zero, List.set_cons_succ])
            | (refine SeqS.take (v := undef) (by first | assumption | trivial) (by kernel_rfl) (by decide +kernel) (by decide +kernel) (Or.inr ⟨by rfl, rfl⟩) ?_
               simp only [Act.put, List.setIfInBounds_toArray, List.set_cons_zero, List.set_cons_succ])
            | (refine SeqS.take1 (v := ?_) (by first | assumption | trivial) (by kernel_rfl) (by decide +kernel) (by decide +kernel) (Or.inl ⟨by rfl, ?_⟩) ?_
               rotate_left
               focus
                 intro w' hb'
                 go_simp
                 with_reducible rfl
               simp only [Act.put, List.setIfInBounds_toArray, List.set_cons_zero, List.set_cons_succ])
            | (refine SeqS.take1 (v := ?_) (by first | assumption | trivial) (by kernel_rfl) (by decide +kernel) (by decide +kernel) (Or.inl ⟨by rfl, ?_⟩) ?_
               rotate_left
               focus
                 intro w' hb'
                 have d0 : w'.cell? ⟨G, 0, none⟩ = some (.slice (some ⟨b, off, none⟩) n c) := (hb'.cell l0.out).trans k0.out
                 go_simp
                 with_reducible rfl
               simp only [Act.put, List.setIfInBounds_toArray, List.set_cons_zero, List.set_cons_succ])
            | (refine SeqS.take1 (v := ?_) (by first | assumption | trivial) (by kernel_rfl) (by decide +kernel) (by decide +kernel) (Or.inl ⟨by rfl, ?_⟩) ?_
               rotate_left
               focus
                 intro w' hb'
                 have d0 : w'.cell? ⟨G + 1, 0, none⟩ = some (.slice (some ⟨b', off', none⟩) n c') := (hb'.cell l1.out).trans k1.out
                 go_simp
                 with_reducible rfl
               simp only [Act.put, List.setIfInBounds_toArray, List.set_cons_zero, List.set_cons_succ])
            | (refine SeqS.take1 (v := ?_) (by first | assumption | trivial) (by kernel_rfl) (by decide +kernel) (by decide +kernel) (Or.inl ⟨by rfl, ?_⟩) ?_
               rotate_left
               focus
                 intro w' hb'
                 have d0 : w'.cell? ⟨b, off + j * 2, none⟩ = some (.int .u32 _) := (hb'.cell l2.out).trans c0.out
                 go_simp
                 with_reducible rfl
               simp only [Act.put, List.setIfInBounds_toArray, List.set_cons_zero, List.set_cons_succ])
            | (refine SeqS.take1 (v := ?_) (by first | assumption | trivial) (by kernel_rfl) (by decide +kernel) (by decide +kernel) (Or.inl ⟨by rfl, ?_⟩) ?_
               rotate_left
               focus
                 intro w' hb'
                 have d0 : w'.cell? ⟨b', off' + j * 2, none⟩ = some (.int .u32 _) := (hb'.cell l3.out).trans e0.out
                 go_simp
                 with_reducible rfl
               simp only [Act.put, List.setIfInBounds_toArray, List.set_cons_zero, List.set_cons_succ])
            | (refine SeqS.take1 (v := ?_) (by first | assumption | trivial) (by kernel_rfl) (by decide +kernel) (by decide +kernel) (Or.inl ⟨by rfl, ?_⟩) ?_
               rotate_left
               focus
                 intro w' hb'
                 have d0 : w'.cell? ⟨b, off + j * 2 + 1, none⟩ = some (.slice A L d) := (hb'.cell l2.out).trans c1.out
                 go_simp
                 with_reducible rfl
               simp only [Act.put, List.setIfInBounds_toArray, List.set_cons_zero, List.set_cons_succ])
            | (refine SeqS.take1 (v := ?_) (by first | assumption | trivial) (by kernel_rfl) (by decide +kernel) (by decide +kernel) (Or.inl ⟨by rfl, ?_⟩) ?_
               rotate_left
               focus
                 intro w' hb'
                 have d0 : w'.cell? ⟨b', off' + j * 2 + 1, none⟩ = some (.slice A' L' d') := (hb'.cell l3.out).trans e1.out
                 go_simp
                 with_reducible rfl
               simp only [Act.put, List.setIfInBounds_toArray, List.set_cons_zero, List.set_cons_succ])
            | (refine SeqS.take1 (v := ?_) (by first | assumption | trivial) (by kernel_rfl) (by decide +kernel) (by decide +kernel) (Or.inl ⟨by rfl, ?_⟩) ?_
               rotate_left
               focus
                 intro w' hb'
                 have d0 := v1.out w' hb'
                 go_simp
                 with_reducible rfl
               simp only [Act.put, List.setIfInBounds_toArray, List.set_cons_zero, List.set_cons_succ])
            | (refine SeqS.take1 (v := ?_) (by first | assumption | trivial) (by kernel_rfl) (by decide +kernel) (by decide +kernel) (Or.inl ⟨by rfl, ?_⟩) ?_
               rotate_left
               focus
                 intro w' hb'
                 have d0 := v2.out w' hb'
                 go_simp
                 with_reducible rfl
               simp only [Act.put, List.setIfInBounds_toArray, List.set_cons_zero, List.set_cons_succ])
            | (refine SeqS.take1 (v := undef) (by first | assumption | trivial) (by kernel_rfl) (by decide +kernel) (by decide +kernel) (Or.inr ⟨by rfl, rfl⟩) ?_
               simp only [Act.put, List.setIfInBounds_toArray, List.set_cons_zero, List.set_cons_succ])
            | (refine SeqS.take2 (v := ?_) (by first | assumption | trivial) (by kernel_rfl) (by decide +kernel) (by decide +kernel) (Or.inl ⟨by rfl, ?_⟩) ?_
               rotate_left
               focus
                 intro w' hb'
                 go_simp
                 with_reducible rfl
               simp only [Act.put, List.setIfInBounds_toArray, List.set_cons_zero, List.set_cons_succ])
            | (refine SeqS.take2 (v := ?_) (by first | assumption | trivial) (by kernel_rfl) (by decide +kernel) (by decide +kernel) (Or.inl ⟨by rfl, ?_⟩) ?_
               rotate_left
               focus
                 intro w' hb'
                 have d0 : w'.cell? ⟨G, 0, none⟩ = some (.slice (some ⟨b, off, none⟩) n c) := (hb'.cell l0.out).trans k0.out
                 go_simp
                 with_reducible rfl
               simp only [Act.put, List.setIfInBounds_toArray, List.set_cons_zero, List.set_cons_succ])
            | (refine SeqS.take2 (v := ?_) (by first | assumption | trivial) (by kernel_rfl) (by decide +kernel) (by decide +kernel) (Or.inl ⟨by rfl, ?_⟩) ?_
               rotate_left
               focus
                 intro w' hb'
                 have d0 : w'.cell? ⟨G + 1, 0, none⟩ = some (.slice (some ⟨b', off', none⟩) n c') := (hb'.cell l1.out).trans k1.out
                 go_simp
                 with_reducible rfl
               simp only [Act.put, List.setIfInBounds_toArray, List.set_cons_zero, List.set_cons_succ])
            | (refine SeqS.take2 (v := ?_) (by first | assumption | trivial) (by kernel_rfl) (by decide +kernel) (by decide +kernel) (Or.inl ⟨by rfl, ?_⟩) ?_
               rotate_left
               focus
                 intro w' hb'
                 have d0 : w'.cell? ⟨b, off + j * 2, none⟩ = some (.int .u32 _) := (hb'.cell l2.out).trans c0.out
                 go_simp
                 with_reducible rfl
               simp only [Act.put, List.setIfInBounds_toArray, List.set_cons_zero, List.set_cons_succ])
            | (refine SeqS.take2 (v := ?_) (by first | assumption | trivial) (by kernel_rfl) (by decide +kernel) (by decide +kernel) (Or.inl ⟨by rfl, ?_⟩) ?_
               rotate_left
               focus
                 intro w' hb'
                 have d0 : w'.cell? ⟨b', off' + j * 2, none⟩ = some (.int .u32 _) := (hb'.cell l3.out).trans e0.out
                 go_simp
                 with_reducible rfl
               simp only [Act.put, List.setIfInBounds_toArray, List.set_cons_zero, List.set_cons_succ])
            | (refine SeqS.take2 (v := ?_) (by first | assumption | trivial) (by kernel_rfl) (by decide +kernel) (by decide +kernel) (Or.inl ⟨by rfl, ?_⟩) ?_
               rotate_left
               focus
                 intro w' hb'
                 have d0 : w'.cell? ⟨b, off + j * 2 + 1, none⟩ = some (.slice A L d) := (hb'.cell l2.out).trans c1.out
                 go_simp
                 with_reducible rfl
               simp only [Act.put, List.setIfInBounds_toArray, List.set_cons_zero, List.set_cons_succ])
            | (refine SeqS.take2 (v := ?_) (by first | assumption | trivial) (by kernel_rfl) (by decide +kernel) (by decide +kernel) (Or.inl ⟨by rfl, ?_⟩) ?_
               rotate_left
               focus
                 intro w' hb'
                 have d0 : w'.cell? ⟨b', off' + j * 2 + 1, none⟩ = some (.slice A' L' d') := (hb'.cell l3.out).trans e1.out
                 go_simp
                 with_reducible rfl
               simp only [Act.put, List.setIfInBounds_toArray, List.set_cons_zero, List.set_cons_succ])
            | (refine SeqS.take2 (v := ?_) (by first | assumption | trivial) (by kernel_rfl) (by decide +kernel) (by decide +kernel) (Or.inl ⟨by rfl, ?_⟩) ?_
               rotate_left
               focus
                 intro w' hb'
                 have d0 := v1.out w' hb'
                 go_simp
                 with_reducible rfl
               simp only [Act.put, List.setIfInBounds_toArray, List.set_cons_zero, List.set_cons_succ])
            | (refine SeqS.take2 (v := ?_) (by first | assumption | trivial) (by kernel_rfl) (by decide +kernel) (by decide +kernel) (Or.inl ⟨by rfl, ?_⟩) ?_
               rotate_left
               focus
                 intro w' hb'
                 have d0 := v2.out w' hb'
                 go_simp
                 with_reducible rfl
               simp only [Act.put, List.setIfInBounds_toArray, List.set_cons_zero, List.set_cons_succ])
            | (refine SeqS.take2 (v := undef) (by first | assumption | trivial) (by kernel_rfl) (by decide +kernel) (by decide +kernel) (Or.inr ⟨by rfl, rfl⟩) ?_
               simp only [Act.put, List.setIfInBounds_toArray, List.set_cons_zero, List.set_cons_succ]))
          refine SeqS.done (by decide +kernel) ?_
          have B1 : Below w.heap.size w wr.drew := hb.drew
          obtain ⟨w2, hw2⟩ : ∃ w2, wr.drew = w2 := ⟨_, rfl⟩
          rw [hw2] at B1 b1 ⊢
          clear hw2
          go_wp2
          exact ⟨⟨j + 1, by have := hltH.out; omega, by congr 1, hgo.out, hkeep.out.1.keep b1 hkeep.out.1.lt, hkeep.out.2.1.keep b1 hkeep.out.2.1.lt, hkeep.out.2.2.1.keep b1, hkeep.out.2.2.2.keep b1, B1⟩, by simp only [intOf]; have := hltH.out; omega⟩
        · have hFf := hFn.out (fun e => h2 (by rw [e]))
          rw [decide_eq_false h2] at hst
          obtain ⟨f, hf⟩ : ∃ f, t.1 = f := ⟨_, rfl⟩
          obtain ⟨g, hg⟩ : ∃ g, u.1 = g := ⟨_, rfl⟩
          obtain ⟨L, hL⟩ : ∃ L, t.2.length = L := ⟨_, rfl⟩
          obtain ⟨L', hL'⟩ : ∃ L, u.2.length = L := ⟨_, rfl⟩
          rw [hf] at c00
          rw [hg] at e00
          rw [hL] at c10 v1
          rw [hL'] at e10 v2
          have c0 := Lib.hid c00
          have c1 := Lib.hid c10
          have e0 := Lib.hid e00
          have e1 := Lib.hid e10
          clear c00 c10 e00 e10 hI hJ ht hu rt ru hk hm hT1 hU1 kk0 kk1
          obtain rfl : f = g := by rw [← hf, ← hg]; exact h1
          clear h1 h2 hf hg hL hL' hSA hSB hlt hj heq
          have kk0 := k0.out
          have kk1 := k1.out
          go_wp2_with fail
          clear kk0 kk1
          have b1 : Below wr.heap.size wr wr.drew := (Below.refl _ _).drew
          refine region_seqS (fun w' => Below wr.heap.size wr w') (by kernel_rfl) b1 ?_
          simp only [pairs, Nat.reduceAdd]
          repeat (first
            | (refine SeqS.take (v := ?_) (by first | assumption | trivial) (by kernel_rfl) (by decide +kernel) (by decide +kernel) (Or.inl ⟨by rfl, ?_⟩) ?_
               rotate_left
               focus
                 intro w' hb'
                 go_simp
                 with_reducible rfl
               simp only [Act.put, List.setIfInBounds_toArray, List.set_cons_zero, List.set_cons_succ])
            | (refine SeqS.take (v := ?_) (by first | assumption | trivial) (by kernel_rfl) (by decide +kernel) (by decide +kernel) (Or.inl ⟨by rfl, ?_⟩) ?_
               rotate_left
               focus
                 intro w' hb'
                 have d0 : w'.cell? ⟨G, 0, none⟩ = some (.slice (some ⟨b, off, none⟩) n c) := (hb'.cell l0.out).trans k0.out
                 go_simp
                 with_reducible rfl
               simp only [Act.put, List.setIfInBounds_toArray, List.set_cons_zero, List.set_cons_succ])
            | (refine SeqS.take (v := ?_) (by first | assumption | trivial) (by kernel_rfl) (by decide +kernel) (by decide +kernel) (Or.inl ⟨by rfl, ?_⟩) ?_
               rotate_left
               focus
                 intro w' hb'
                 have d0 : w'.cell? ⟨G + 1, 0, none⟩ = some (.slice (some ⟨b', off', none⟩) n c') := (hb'.cell l1.out).trans k1.out
                 go_simp
                 with_reducible rfl
               simp only [Act.put, List.setIfInBounds_toArray, List.set_cons_zero, List.set_cons_succ])
            | (refine SeqS.take (v := ?_) (by first | assumption | trivial) (by kernel_rfl) (by decide +kernel) (by decide +kernel) (Or.inl ⟨by rfl, ?_⟩) ?_
               rotate_left
               focus
                 intro w' hb'
                 have d0 : w'.cell? ⟨b, off + j * 2, none⟩ = some (.int .u32 _) := (hb'.cell l2.out).trans c0.out
                 go_simp
                 with_reducible rfl
               simp only [Act.put, List.setIfInBounds_toArray, List.set_cons_zero, List.set_cons_succ])
            | (refine SeqS.take (v := ?_) (by first | assumption | trivial) (by kernel_rfl) (by decide +kernel) (by decide +kernel) (Or.inl ⟨by rfl, ?_⟩) ?_
               rotate_left
               focus
                 intro w' hb'
                 have d0 : w'.cell? ⟨b', off' + j * 2, none⟩ = some (.int .u32 _) := (hb'.cell l3.out).trans e0.out
                 go_simp
                 with_reducible rfl
               simp only [Act.put, List.setIfInBounds_toArray, List.set_cons_zero, List.set_cons_succ])
            | (refine SeqS.take (v := ?_) (by first | assumption | trivial) (by kernel_rfl) (by decide +kernel) (by decide +kernel) (Or.inl ⟨by rfl, ?_⟩) ?_
               rotate_left
               focus
                 intro w' hb'
                 have d0 : w'.cell? ⟨b, off + j * 2 + 1, none⟩ = some (.slice A L d) := (hb'.cell l2.out).trans c1.out
                 go_simp
                 with_reducible rfl
               simp only [Act.put, List.setIfInBounds_toArray, List.set_cons_zero, List.set_cons_succ])
            | (refine SeqS.take (v := ?_) (by first | assumption | trivial) (by kernel_rfl) (by decide +kernel) (by decide +kernel) (Or.inl ⟨by rfl, ?_⟩) ?_
               rotate_left
               focus
                 intro w' hb'
                 have d0 : w'.cell? ⟨b', off' + j * 2 + 1, none⟩ = some (.slice A' L' d') := (hb'.cell l3.out).trans e1.out
                 go_simp
                 with_reducible rfl
               simp only [Act.put, List.setIfInBounds_toArray, List.set_cons_zero, List.set_cons_succ])
            | (refine SeqS.take (v := ?_) (by first | assumption | trivial) (by kernel_rfl) (by decide +kernel) (by decide +kernel) (Or.inl ⟨by rfl, ?_⟩) ?_
               rotate_left
               focus
                 intro w' hb'
                 have d0 := v1.out w' hb'
                 go_simp
                 with_reducible rfl
               simp only [Act.put, List.setIfInBounds_toArray, List.set_cons_zero, List.set_cons_succ])
            | (refine SeqS.take (v := ?_) (by first | assumption | trivial) (by kernel_rfl) (by decide +kernel) (by decide +kernel) (Or.inl ⟨by rfl, ?_⟩) ?_
               rotate_left
               focus
                 intro w' hb'
                 have d0 := v2.out w' hb'
                 go_simp
                 with_reducible rfl
               simp only [Act.put, List.setIfInBounds_toArray, List.set_cons_zero, List.set_cons_succ])
            | (refine SeqS.take (v := undef) (by first | assumption | trivial) (by kernel_rfl) (by decide +kernel) (by decide +kernel) (Or.inr ⟨by rfl, rfl⟩) ?_
               simp only [Act.put, List.setIfInBounds_toArray, List.set_cons_zero, List.set_cons_succ])
            | (refine SeqS.take1 (v := ?_) (by first | assumption | trivial) (by kernel_rfl) (by decide +kernel) (by decide +kernel) (Or.inl ⟨by rfl, ?_⟩) ?_
               rotate_left
               focus
                 intro w' hb'
                 go_simp
                 with_reducible rfl
               simp only [Act.put, List.setIfInBounds_toArray, List.set_cons_zero, List.set_cons_succ])
            | (refine SeqS.take1 (v := ?_) (by first | assumption | trivial) (by kernel_rfl) (by decide +kernel) (by decide +kernel) (Or.inl ⟨by rfl, ?_⟩) ?_
               rotate_left
               focus
                 intro w' hb'
                 have d0 : w'.cell? ⟨G, 0, none⟩ = some (.slice (some ⟨b, off, none⟩) n c) := (hb'.cell l0.out).trans k0.out
                 go_simp
                 with_reducible rfl
               simp only [Act.put, List.setIfInBounds_toArray, List.set_cons_zero, List.set_cons_succ])
            | (refine SeqS.take1 (v := ?_) (by first | assumption | trivial) (by kernel_rfl) (by decide +kernel) (by decide +kernel) (Or.inl ⟨by rfl, ?_⟩) ?_
               rotate_left
               focus
                 intro w' hb'
                 have d0 : w'.cell? ⟨G + 1, 0, none⟩ = some (.slice (some ⟨b', off', none⟩) n c') := (hb'.cell l1.out).trans k1.out
                 go_simp
                 with_reducible rfl
               simp only [Act.put, List.setIfInBounds_toArray, List.set_cons_zero, List.set_cons_succ])
            | (refine SeqS.take1 (v := ?_) (by first | assumption | trivial) (by kernel_rfl) (by decide +kernel) (by decide +kernel) (Or.inl ⟨by rfl, ?_⟩) ?_
               rotate_left
               focus
                 intro w' hb'
                 have d0 : w'.cell? ⟨b, off + j * 2, none⟩ = some (.int .u32 _) := (hb'.cell l2.out).trans c0.out
                 go_simp
                 with_reducible rfl
               simp only [Act.put, List.setIfInBounds_toArray, List.set_cons_zero, List.set_cons_succ])
            | (refine SeqS.take1 (v := ?_) (by first | assumption | trivial) (by kernel_rfl) (by decide +kernel) (by decide +kernel) (Or.inl ⟨by rfl, ?_⟩) ?_
               rotate_left
               focus
                 intro w' hb'
                 have d0 : w'.cell? ⟨b', off' + j * 2, none⟩ = some (.int .u32 _) := (hb'.cell l3.out).trans e0.out
                 go_simp
                 with_reducible rfl
               simp only [Act.put, List.setIfInBounds_toArray, List.set_cons_zero, List.set_cons_succ])
            | (refine SeqS.take1 (v := ?_) (by first | assumption | trivial) (by kernel_rfl) (by decide +kernel) (by decide +kernel) (Or.inl ⟨by rfl, ?_⟩) ?_
               rotate_left
               focus
                 intro w' hb'
                 have d0 : w'.cell? ⟨b, off + j * 2 + 1, none⟩ = some (.slice A L d) := (hb'.cell l2.out).trans c1.out
                 go_simp
                 with_reducible rfl
               simp only [Act.put, List.setIfInBounds_toArray, List.set_cons_zero, List.set_cons_succ])
            | (refine SeqS.take1 (v := ?_) (by first | assumption | trivial) (by kernel_rfl) (by decide +kernel) (by decide +kernel) (Or.inl ⟨by rfl, ?_⟩) ?_
               rotate_left
               focus
                 intro w' hb'
                 have d0 : w'.cell? ⟨b', off' + j * 2 + 1, none⟩ = some (.slice A' L' d') := (hb'.cell l3.out).trans e1.out
                 go_simp
                 with_reducible rfl
               simp only [Act.put, List.setIfInBounds_toArray, List.set_cons_zero, List.set_cons_succ])
            | (refine SeqS.take1 (v := ?_) (by first | assumption | trivial) (by kernel_rfl) (by decide +kernel) (by decide +kernel) (Or.inl ⟨by rfl, ?_⟩) ?_
               rotate_left
               focus
                 intro w' hb'
                 have d0 := v1.out w' hb'
                 go_simp
                 with_reducible rfl
               simp only [Act.put, List.setIfInBounds_toArray, List.set_cons_zero, List.set_cons_succ])
            | (refine SeqS.take1 (v := ?_) (by first | assumption | trivial) (by kernel_rfl) (by decide +kernel) (by decide +kernel) (Or.inl ⟨by rfl, ?_⟩) ?_
               rotate_left
               focus
                 intro w' hb'
                 have d0 := v2.out w' hb'
                 go_simp
                 with_reducible rfl
               simp only [Act.put, List.setIfInBounds_toArray, List.set_cons_zero, List.set_cons_succ])
            | (refine SeqS.take1 (v := undef) (by first | assumption | trivial) (by kernel_rfl) (by decide +kernel) (by decide +kernel) (Or.inr ⟨by rfl, rfl⟩) ?_
               simp only [Act.put, List.setIfInBounds_toArray, List.set_cons_zero, List.set_cons_succ])
            | (refine SeqS.take2 (v := ?_) (by first | assumption | trivial) (by kernel_rfl) (by decide +kernel) (by decide +kernel) (Or.inl ⟨by rfl, ?_⟩) ?_
               rotate_left
               focus
                 intro w' hb'
                 go_simp
                 with_reducible rfl
               simp only [Act.put, List.setIfInBounds_toArray, List.set_cons_zero, List.set_cons_succ])
            | (refine SeqS.take2 (v := ?_) (by first | assumption | trivial) (by kernel_rfl) (by decide +kernel) (by decide +kernel) (Or.inl ⟨by rfl, ?_⟩) ?_
               rotate_left
               focus
                 intro w' hb'
                 have d0 : w'.cell? ⟨G, 0, none⟩ = some (.slice (some ⟨b, off, none⟩) n c) := (hb'.cell l0.out).trans k0.out
                 go_simp
                 with_reducible rfl
               simp only [Act.put, List.setIfInBounds_toArray, List.set_cons_zero, List.set_cons_succ])
            | (refine SeqS.take2 (v := ?_) (by first | assumption | trivial) (by kernel_rfl) (by decide +kernel) (by decide +kernel) (Or.inl ⟨by rfl, ?_⟩) ?_
               rotate_left
               focus
                 intro w' hb'
                 have d0 : w'.cell? ⟨G + 1, 0, none⟩ = some (.slice (some ⟨b', off', none⟩) n c') := (hb'.cell l1.out).trans k1.out
                 go_simp
                 with_reducible rfl
               simp only [Act.put, List.setIfInBounds_toArray, List.set_cons_zero, List.set_cons_succ])
            | (refine SeqS.take2 (v := ?_) (by first | assumption | trivial) (by kernel_rfl) (by decide +kernel) (by decide +kernel) (Or.inl ⟨by rfl, ?_⟩) ?_
               rotate_left
               focus
                 intro w' hb'
                 have d0 : w'.cell? ⟨b, off + j * 2, none⟩ = some (.int .u32 _) := (hb'.cell l2.out).trans c0.out
                 go_simp
                 with_reducible rfl
               simp only [Act.put, List.setIfInBounds_toArray, List.set_cons_zero, List.set_cons_succ])
            | (refine SeqS.take2 (v := ?_) (by first | assumption | trivial) (by kernel_rfl) (by decide +kernel) (by decide +kernel) (Or.inl ⟨by rfl, ?_⟩) ?_
               rotate_left
               focus
                 intro w' hb'
                 have d0 : w'.cell? ⟨b', off' + j * 2, none⟩ = some (.int .u32 _) := (hb'.cell l3.out).trans e0.out
                 go_simp
                 with_reducible rfl
               simp only [Act.put, List.setIfInBounds_toArray, List.set_cons_zero, List.set_cons_succ])
            | (refine SeqS.take2 (v := ?_) (by first | assumption | trivial) (by kernel_rfl) (by decide +kernel) (by decide +kernel) (Or.inl ⟨by rfl, ?_⟩) ?_
               rotate_left
               focus
                 intro w' hb'
                 have d0 : w'.cell? ⟨b, off + j * 2 + 1, none⟩ = some (.slice A L d) := (hb'.cell l2.out).trans c1.out
                 go_simp
                 with_reducible rfl
               simp only [Act.put, List.setIfInBounds_toArray, List.set_cons_zero, List.set_cons_succ])
            | (refine SeqS.take2 (v := ?_) (by first | assumption | trivial) (by kernel_rfl) (by decide +kernel) (by decide +kernel) (Or.inl ⟨by rfl, ?_⟩) ?_
               rotate_left
               focus
                 intro w' hb'
                 have d0 : w'.cell? ⟨b', off' + j * 2 + 1, none⟩ = some (.slice A' L' d') := (hb'.cell l3.out).trans e1.out
                 go_simp
                 with_reducible rfl
               simp only [Act.put, List.setIfInBounds_toArray, List.set_cons_zero, List.set_cons_succ])
            | (refine SeqS.take2 (v := ?_) (by first | assumption | trivial) (by kernel_rfl) (by decide +kernel) (by decide +kernel) (Or.inl ⟨by rfl, ?_⟩) ?_
               rotate_left
               focus
                 intro w' hb'
                 have d0 := v1.out w' hb'
                 go_simp
                 with_reducible rfl
               simp only [Act.put, List.setIfInBounds_toArray, List.set_cons_zero, List.set_cons_succ])
            | (refine SeqS.take2 (v := ?_) (by first | assumption | trivial) (by kernel_rfl) (by decide +kernel) (by decide +kernel) (Or.inl ⟨by rfl, ?_⟩) ?_
               rotate_left
               focus
                 intro w' hb'
                 have d0 := v2.out w' hb'
                 go_simp
                 with_reducible rfl
               simp only [Act.put, List.setIfInBounds_toArray, List.set_cons_zero, List.set_cons_succ])
            | (refine SeqS.take2 (v := undef) (by first | assumption | trivial) (by kernel_rfl) (by decide +kernel) (by decide +kernel) (Or.inr ⟨by rfl, rfl⟩) ?_
               simp only [Act.put, List.setIfInBounds_toArray, List.set_cons_zero, List.set_cons_succ]))
          refine SeqS.done (by decide +kernel) ?_
          have B1 : Below w.heap.size w wr.drew := hb.drew
          obtain ⟨w2, hw2⟩ : ∃ w2, wr.drew = w2 := ⟨_, rfl⟩
          rw [hw2] at B1 b1 ⊢
          clear hw2
          go_wp2
          go_ret
          exact ⟨by first | rfl | (rw [hFf]; rfl), B1⟩
      · have hFf := hFn.out (fun e => h1 (by rw [e]))
        obtain ⟨f, hf⟩ : ∃ f, t.1 = f := ⟨_, rfl⟩
        obtain ⟨g, hg⟩ : ∃ g, u.1 = g := ⟨_, rfl⟩
        obtain ⟨L, hL⟩ : ∃ L, t.2.length = L := ⟨_, rfl⟩
        obtain ⟨L', hL'⟩ : ∃ L, u.2.length = L := ⟨_, rfl⟩
        rw [hf] at c00
        rw [hg] at e00
        rw [hL] at c10 v1
        rw [hL'] at e10 v2
        have c0 := Lib.hid c00
        have c1 := Lib.hid c10
        have e0 := Lib.hid e00
        have e1 := Lib.hid e10
        clear c00 c10 e00 e10 hI hJ ht hu rt ru hk hm hT1 hU1 kk0 kk1
        have hfg : (f != g) = true := by rw [← hf, ← hg]; exact bne_iff_ne.2 h1
        clear h1 hf hg hL hL' hSA hSB hst hlt hj heq
        have kk0 := k0.out
        have kk1 := k1.out
        go_wp2_with fail
        clear kk0 kk1
        have b1 : Below wr.heap.size wr wr.drew := (Below.refl _ _).drew
        refine region_seqS (fun w' => Below wr.heap.size wr w') (by kernel_rfl) b1 ?_
        simp only [pairs, Nat.reduceAdd]
        repeat (first
          | (refine SeqS.take (v := ?_) (by first | assumption | trivial) (by kernel_rfl) (by decide +kernel) (by decide +kernel) (Or.inl ⟨by rfl, ?_⟩) ?_
             rotate_left
             focus
               intro w' hb'
               go_simp
               with_reducible rfl
             simp only [Act.put, List.setIfInBounds_toArray, List.set_cons_zero, List.set_cons_succ])
          | (refine SeqS.take (v := ?_) (by first | assumption | trivial) (by kernel_rfl) (by decide +kernel) (by decide +kernel) (Or.inl ⟨by rfl, ?_⟩) ?_
             rotate_left
             focus
               intro w' hb'
               have d0 : w'.cell? ⟨G, 0, none⟩ = some (.slice (some ⟨b, off, none⟩) n c) := (hb'.cell l0.out).trans k0.out
               go_simp
               with_reducible rfl
             simp only [Act.put, List.setIfInBounds_toArray, List.set_cons_zero, List.set_cons_succ])
          | (refine SeqS.take (v := ?_) (by first | assumption | trivial) (by kernel_rfl) (by decide +kernel) (by decide +kernel) (Or.inl ⟨by rfl, ?_⟩) ?_
             rotate_left
             focus
               intro w' hb'
               have d0 : w'.cell? ⟨G + 1, 0, none⟩ = some (.slice (some ⟨b', off', none⟩) n c') := (hb'.cell l1.out).trans k1.out
               go_simp
               with_reducible rfl
             simp only [Act.put, List.setIfInBounds_toArray, List.set_cons_zero, List.set_cons_succ])
          | (refine SeqS.take (v := ?_) (by first | assumption | trivial) (by kernel_rfl) (by decide +kernel) (by decide +kernel) (Or.inl ⟨by rfl, ?_⟩) ?_
             rotate_left
             focus
               intro w' hb'
               have d0 : w'.cell? ⟨b, off + j * 2, none⟩ = some (.int .u32 _) := (hb'.cell l2.out).trans c0.out
               go_simp
               with_reducible rfl
             simp only [Act.put, List.setIfInBounds_toArray, List.set_cons_zero, List.set_cons_succ])
          | (refine SeqS.take (v := ?_) (by first | assumption | trivial) (by kernel_rfl) (by decide +kernel) (by decide +kernel) (Or.inl ⟨by rfl, ?_⟩) ?_
             rotate_left
             focus
               intro w' hb'
               have d0 : w'.cell? ⟨b', off' + j * 2, none⟩ = some (.int .u32 _) := (hb'.cell l3.out).trans e0.out
               go_simp
               with_reducible rfl
             simp only [Act.put, List.setIfInBounds_toArray, List.set_cons_zero, List.set_cons_succ])
          | (refine SeqS.take (v := ?_) (by first | assumption | trivial) (by kernel_rfl) (by decide +kernel) (by decide +kernel) (Or.inl ⟨by rfl, ?_⟩) ?_
             rotate_left
             focus
               intro w' hb'
               have d0 : w'.cell? ⟨b, off + j * 2 + 1, none⟩ = some (.slice A L d) := (hb'.cell l2.out).trans c1.out
               go_simp
               with_reducible rfl
             simp only [Act.put, List.setIfInBounds_toArray, List.set_cons_zero, List.set_cons_succ])
          | (refine SeqS.take (v := ?_) (by first | assumption | trivial) (by kernel_rfl) (by decide +kernel) (by decide +kernel) (Or.inl ⟨by rfl, ?_⟩) ?_
             rotate_left
             focus
               intro w' hb'
               have d0 : w'.cell? ⟨b', off' + j * 2 + 1, none⟩ = some (.slice A' L' d') := (hb'.cell l3.out).trans e1.out
               go_simp
               with_reducible rfl
             simp only [Act.put, List.setIfInBounds_toArray, List.set_cons_zero, List.set_cons_succ])
          | (refine SeqS.take (v := ?_) (by first | assumption | trivial) (by kernel_rfl) (by decide +kernel) (by decide +kernel) (Or.inl ⟨by rfl, ?_⟩) ?_
             rotate_left
             focus
               intro w' hb'
               have d0 := v1.out w' hb'
               go_simp
               with_reducible rfl
             simp only [Act.put, List.setIfInBounds_toArray, List.set_cons_zero, List.set_cons_succ])
          | (refine SeqS.take (v := ?_) (by first | assumption | trivial) (by kernel_rfl) (by decide +kernel) (by decide +kernel) (Or.inl ⟨by rfl, ?_⟩) ?_
             rotate_left
             focus
               intro w' hb'
               have d0 := v2.out w' hb'
               go_simp
               with_reducible rfl
             simp only [Act.put, List.setIfInBounds_toArray, List.set_cons_zero, List.set_cons_succ])
          | (refine SeqS.take (v := undef) (by first | assumption | trivial) (by kernel_rfl) (by decide +kernel) (by decide +kernel) (Or.inr ⟨by rfl, rfl⟩) ?_
             simp only [Act.put, List.setIfInBounds_toArray, List.set_cons_zero, List.set_cons_succ])
          | (refine SeqS.take1 (v := ?_) (by first | assumption | trivial) (by kernel_rfl) (by decide +kernel) (by decide +kernel) (Or.inl ⟨by rfl, ?_⟩) ?_
             rotate_left
             focus
               intro w' hb'
               go_simp
               with_reducible rfl
             simp only [Act.put, List.setIfInBounds_toArray, List.set_cons_zero, List.set_cons_succ])
          | (refine SeqS.take1 (v := ?_) (by first | assumption | trivial) (by kernel_rfl) (by decide +kernel) (by decide +kernel) (Or.inl ⟨by rfl, ?_⟩) ?_
             rotate_left
             focus
               intro w' hb'
               have d0 : w'.cell? ⟨G, 0, none⟩ = some (.slice (some ⟨b, off, none⟩) n c) := (hb'.cell l0.out).trans k0.out
               go_simp
               with_reducible rfl
             simp only [Act.put, List.setIfInBounds_toArray, List.set_cons_zero, List.set_cons_succ])
          | (refine SeqS.take1 (v := ?_) (by first | assumption | trivial) (by kernel_rfl) (by decide +kernel) (by decide +kernel) (Or.inl ⟨by rfl, ?_⟩) ?_
             rotate_left
             focus
               intro w' hb'
               have d0 : w'.cell? ⟨G + 1, 0, none⟩ = some (.slice (some ⟨b', off', none⟩) n c') := (hb'.cell l1.out).trans k1.out
               go_simp
               with_reducible rfl
             simp only [Act.put, List.setIfInBounds_toArray, List.set_cons_zero, List.set_cons_succ])
          | (refine SeqS.take1 (v := ?_) (by first | assumption | trivial) (by kernel_rfl) (by decide +kernel) (by decide +kernel) (Or.inl ⟨by rfl, ?_⟩) ?_
             rotate_left
             focus
               intro w' hb'
               have d0 : w'.cell? ⟨b, off + j * 2, none⟩ = some (.int .u32 _) := (hb'.cell l2.out).trans c0.out
               go_simp
               with_reducible rfl
             simp only [Act.put, List.setIfInBounds_toArray, List.set_cons_zero, List.set_cons_succ])
          | (refine SeqS.take1 (v := ?_) (by first | assumption | trivial) (by kernel_rfl) (by decide +kernel) (by decide +kernel) (Or.inl ⟨by rfl, ?_⟩) ?_
             rotate_left
             focus
               intro w' hb'
               have d0 : w'.cell? ⟨b', off' + j * 2, none⟩ = some (.int .u32 _) := (hb'.cell l3.out).trans e0.out
               go_simp
               with_reducible rfl
             simp only [Act.put, List.setIfInBounds_toArray, List.set_cons_zero, List.set_cons_succ])
          | (refine SeqS.take1 (v := ?_) (by first | assumption | trivial) (by kernel_rfl) (by decide +kernel) (by decide +kernel) (Or.inl ⟨by rfl, ?_⟩) ?_
             rotate_left
             focus
               intro w' hb'
               have d0 : w'.cell? ⟨b, off + j * 2 + 1, none⟩ = some (.slice A L d) := (hb'.cell l2.out).trans c1.out
               go_simp
               with_reducible rfl
             simp only [Act.put, List.setIfInBounds_toArray, List.set_cons_zero, List.set_cons_succ])
          | (refine SeqS.take1 (v := ?_) (by first | assumption | trivial) (by kernel_rfl) (by decide +kernel) (by decide +kernel) (Or.inl ⟨by rfl, ?_⟩) ?_
             rotate_left
             focus
               intro w' hb'
               have d0 : w'.cell? ⟨b', off' + j * 2 + 1, none⟩ = some (.slice A' L' d') := (hb'.cell l3.out).trans e1.out
               go_simp
               with_reducible rfl
             simp only [Act.put, List.setIfInBounds_toArray, List.set_cons_zero, List.set_cons_succ])
          | (refine SeqS.take1 (v := ?_) (by first | assumption | trivial) (by kernel_rfl) (by decide +kernel) (by decide +kernel) (Or.inl ⟨by rfl, ?_⟩) ?_
             rotate_left
             focus
               intro w' hb'
               have d0 := v1.out w' hb'
               go_simp
               with_reducible rfl
             simp only [Act.put, List.setIfInBounds_toArray, List.set_cons_zero, List.set_cons_succ])
          | (refine SeqS.take1 (v := ?_) (by first | assumption | trivial) (by kernel_rfl) (by decide +kernel) (by decide +kernel) (Or.inl ⟨by rfl, ?_⟩) ?_
             rotate_left
             focus
               intro w' hb'
               have d0 := v2.out w' hb'
               go_simp
               with_reducible rfl
             simp only [Act.put, List.setIfInBounds_toArray, List.set_cons_zero, List.set_cons_succ])
          | (refine SeqS.take1 (v := undef) (by first | assumption | trivial) (by kernel_rfl) (by decide +kernel) (by decide +kernel) (Or.inr ⟨by rfl, rfl⟩) ?_
             simp only [Act.put, List.setIfInBounds_toArray, List.set_cons_zero, List.set_cons_succ])
          | (refine SeqS.take2 (v := ?_) (by first | assumption | trivial) (by kernel_rfl) (by decide +kernel) (by decide +kernel) (Or.inl ⟨by rfl, ?_⟩) ?_
             rotate_left
             focus
               intro w' hb'
               go_simp
               with_reducible rfl
             simp only [Act.put, List.setIfInBounds_toArray, List.set_cons_zero, List.set_cons_succ])
          | (refine SeqS.take2 (v := ?_) (by first | assumption | trivial) (by kernel_rfl) (by decide +kernel) (by decide +kernel) (Or.inl ⟨by rfl, ?_⟩) ?_
             rotate_left
             focus
               intro w' hb'
               have d0 : w'.cell? ⟨G, 0, none⟩ = some (.slice (some ⟨b, off, none⟩) n c) := (hb'.cell l0.out).trans k0.out
               go_simp
               with_reducible rfl
             simp only [Act.put, List.setIfInBounds_toArray, List.set_cons_zero, List.set_cons_succ])
          | (refine SeqS.take2 (v := ?_) (by first | assumption | trivial) (by kernel_rfl) (by decide +kernel) (by decide +kernel) (Or.inl ⟨by rfl, ?_⟩) ?_
             rotate_left
             focus
               intro w' hb'
               have d0 : w'.cell? ⟨G + 1, 0, none⟩ = some (.slice (some ⟨b', off', none⟩) n c') := (hb'.cell l1.out).trans k1.out
               go_simp
               with_reducible rfl
             simp only [Act.put, List.setIfInBounds_toArray, List.set_cons_zero, List.set_cons_succ])
          | (refine SeqS.take2 (v := ?_) (by first | assumption | trivial) (by kernel_rfl) (by decide +kernel) (by decide +kernel) (Or.inl ⟨by rfl, ?_⟩) ?_
             rotate_left
             focus
               intro w' hb'
               have d0 : w'.cell? ⟨b, off + j * 2, none⟩ = some (.int .u32 _) := (hb'.cell l2.out).trans c0.out
               go_simp
               with_reducible rfl
             simp only [Act.put, List.setIfInBounds_toArray, List.set_cons_zero, List.set_cons_succ])
          | (refine SeqS.take2 (v := ?_) (by first | assumption | trivial) (by kernel_rfl) (by decide +kernel) (by decide +kernel) (Or.inl ⟨by rfl, ?_⟩) ?_
             rotate_left
             focus
               intro w' hb'
               have d0 : w'.cell? ⟨b', off' + j * 2, none⟩ = some (.int .u32 _) := (hb'.cell l3.out).trans e0.out
               go_simp
               with_reducible rfl
             simp only [Act.put, List.setIfInBounds_toArray, List.set_cons_zero, List.set_cons_succ])
          | (refine SeqS.take2 (v := ?_) (by first | assumption | trivial) (by kernel_rfl) (by decide +kernel) (by decide +kernel) (Or.inl ⟨by rfl, ?_⟩) ?_
             rotate_left
             focus
               intro w' hb'
               have d0 : w'.cell? ⟨b, off + j * 2 + 1, none⟩ = some (.slice A L d) := (hb'.cell l2.out).trans c1.out
               go_simp
               with_reducible rfl
             simp only [Act.put, List.setIfInBounds_toArray, List.set_cons_zero, List.set_cons_succ])
          | (refine SeqS.take2 (v := ?_) (by first | assumption | trivial) (by kernel_rfl) (by decide +kernel) (by decide +kernel) (Or.inl ⟨by rfl, ?_⟩) ?_
             rotate_left
             focus
               intro w' hb'
               have d0 : w'.cell? ⟨b', off' + j * 2 + 1, none⟩ = some (.slice A' L' d') := (hb'.cell l3.out).trans e1.out
               go_simp
               with_reducible rfl
             simp only [Act.put, List.setIfInBounds_toArray, List.set_cons_zero, List.set_cons_succ])
          | (refine SeqS.take2 (v := ?_) (by first | assumption | trivial) (by kernel_rfl) (by decide +kernel) (by decide +kernel) (Or.inl ⟨by rfl, ?_⟩) ?_
             rotate_left
             focus
               intro w' hb'
               have d0 := v1.out w' hb'
               go_simp
               with_reducible rfl
             simp only [Act.put, List.setIfInBounds_toArray, List.set_cons_zero, List.set_cons_succ])
          | (refine SeqS.take2 (v := ?_) (by first | assumption | trivial) (by kernel_rfl) (by decide +kernel) (by decide +kernel) (Or.inl ⟨by rfl, ?_⟩) ?_
             rotate_left
             focus
               intro w' hb'
               have d0 := v2.out w' hb'
               go_simp
               with_reducible rfl
             simp only [Act.put, List.setIfInBounds_toArray, List.set_cons_zero, List.set_cons_succ])
          | (refine SeqS.take2 (v := undef) (by first | assumption | trivial) (by kernel_rfl) (by decide +kernel) (by decide +kernel) (Or.inr ⟨by rfl, rfl⟩) ?_
             simp only [Act.put, List.setIfInBounds_toArray, List.set_cons_zero, List.set_cons_succ]))
        refine SeqS.done (by decide +kernel) ?_
        have B1 : Below w.heap.size w wr.drew := hb.drew
        obtain ⟨w2, hw2⟩ : ∃ w2, wr.drew = w2 := ⟨_, rfl⟩
        rw [hw2] at B1 b1 ⊢
        clear hw2
        go_wp2
        go_ret
        exact ⟨by first | rfl | (rw [hFf]; rfl), B1⟩
    · obtain rfl : n = j := by omega
      have hji : ¬ (n : Int) < (n : Int) := by omega
      rw [List.take_of_length_le (by omega), List.take_of_length_le (by omega)] at heq
      have hFt : F = true := by rw [← hFH.out]; exact decide_eq_true heq
      clear hlt hj heq
      go_wp2
      go_ret
      exact ⟨by first | rfl | (rw [hFt]; rfl), hb⟩
end Go.Proofs.YtcfachgfgogllaaDoor

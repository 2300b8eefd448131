/-
  Texts of stages that were proved on their own, joined: PpDecode. Each begins with its own words.
-/
import Derived.Test.YtcfachgfgogllaaDoorJPayAll16
import Derived.Test.YtcfachgfgogllaaDoorJPayAll12
import Derived.Test.YtcfachgfgogllaaDoorJPayAll4
import Derived.WalkMore

/-
  What package payload's Decode comes to. New memory alone is written. Conditions: bytes below 256, at most ten thousand.
-/
namespace Go.Proofs.YtcfachgfgogllaaDoor
open Go.RowKit

theorem rowPay13 : IsRow Tryd.prog 24 1 := IsRow.struct Tryd.underlying24 (by kernel_rfl)
theorem rdNum4_short {xs : List Int} {q : Nat} (h : xs.length < q + 4) : rdNum xs q 0 4 = (q, 2, 0) := by
  unfold rdNum rdBytes rdStep
  rw [if_neg (by decide), if_neg (by decide), if_neg (by decide), if_pos (by omega)]
  rfl
theorem rdNum4_ok {xs : List Int} {q : Nat} (h : q + 4 ≤ xs.length) : rdNum xs q 0 4 = (q + 4, 0, be ((xs.drop q).take 4)) := by
  unfold rdNum rdBytes rdStep
  rw [if_neg (by decide), if_neg (by decide), if_neg (by decide), if_neg (by omega)]
  rfl
theorem rdNum4_bad {xs : List Int} {q : Nat} {e : Int} (h : e ≠ 0) : rdNum xs q e 4 = (q, e, 0) := by
  unfold rdNum rdBytes rdStep
  rw [if_neg (by decide), if_pos h]
  rfl
/-- The number of tiers. -/
theorem start_read {xs : List Int} (hr : ∀ x ∈ xs, 0 ≤ x ∧ x < 256) : ∃ (q : Nat) (e : Int) (N : Nat), szR xs 0 8 = (q, e, (N : Int)) ∧ N ≤ 8 ∧ q ≤ xs.length ∧ ((e = 0 ∧ decP xs = decT N (-1) (xs.drop q)) ∨ (e ≠ 0 ∧ decP xs = ([], e))) := by
  by_cases h0 : xs = []
  · subst h0
    exact ⟨0, 2, 0, szR_short 8 (Nat.le_refl _), by omega, Nat.le_refl _, .inr ⟨by decide, rfl⟩⟩
  · have hl : 0 < xs.length := List.length_pos_iff.2 h0
    have hx := hr (xs.getD 0 0) (by rw [List.getD_eq_getElem?_getD, List.getElem?_eq_getElem hl]; exact List.getElem_mem _)
    by_cases hb : xs.getD 0 0 < 1 ∨ 8 < xs.getD 0 0
    · refine ⟨1, 4, 0, szR_bad hl (by decide) hx.1 hb, by omega, hl, .inr ⟨by decide, ?_⟩⟩
      unfold decP
      rw [if_neg h0, if_pos hb]
    · obtain ⟨N, hN⟩ : ∃ N : Nat, xs.getD 0 0 = (N : Int) := ⟨(xs.getD 0 0).toNat, by omega⟩
      refine ⟨1, 0, N, ?_, by omega, hl, .inl ⟨rfl, ?_⟩⟩
      · rw [szR_ok hl (by decide) (by omega) (by omega), hN]
      · unfold decP
        rw [if_neg h0, if_neg hb, hN, Int.toNat_natCast]
/-- A tier's bytes, behind its fee. -/
theorem tier_read {xs : List Int} {q k : Nat} {f F0 : Int} (hr : ∀ x ∈ xs, 0 ≤ x ∧ x < 256) (hq : q + 4 ≤ xs.length) (hf : be ((xs.drop q).take 4) = f) (hlt : F0 < f) :
    ∃ (S1 : Nat) (S2 S3 : Int) (Q : Nat) (E : Int) (L : Nat) (ys : List Int), szR xs (q + 4) 64 = (S1, S2, S3) ∧ rdStep xs.length S1 S2 S3 = (Q, E, L) ∧ rdBytes xs S1 S2 S3 = ys ∧ ys.length = L ∧ (∀ x ∈ ys, 0 ≤ x ∧ x < 256) ∧ Q ≤ xs.length ∧
      ((E = 0 ∧ decT (k + 1) F0 (xs.drop q) = consR (f, ys) (decT k f (xs.drop Q))) ∨ (E ≠ 0 ∧ decT (k + 1) F0 (xs.drop q) = ([], E))) := by
  have hd : (xs.drop q).length = xs.length - q := List.length_drop
  have h4 : ¬ (xs.drop q).length < 4 := by omega
  have hnf : ¬ be ((xs.drop q).take 4) ≤ F0 := by rw [hf]; omega
  by_cases h5 : xs.length ≤ q + 4
  · refine ⟨q + 4, 2, 0, q + 4, 2, 0, [], szR_short 64 h5, rfl, ?_, rfl, by simp, hq, .inr ⟨by decide, decT_5 h4 hnf (by omega)⟩⟩
    unfold rdBytes rdStep
    rw [if_pos (by decide)]
    rfl
  have h5' : ¬ (xs.drop q).length < 5 := by omega
  have hg : (xs.drop q).getD 4 0 = xs.getD (q + 4) 0 := by rw [List.getD_eq_getElem?_getD, List.getD_eq_getElem?_getD, List.getElem?_drop]
  have hx := hr (xs.getD (q + 4) 0) (by rw [List.getD_eq_getElem?_getD, List.getElem?_eq_getElem (by omega)]; exact List.getElem_mem _)
  by_cases hb : xs.getD (q + 4) 0 < 1 ∨ 64 < xs.getD (q + 4) 0
  · refine ⟨q + 5, 4, 0, q + 5, 4, 0, [], szR_bad (by omega) (by decide) hx.1 hb, rfl, ?_, rfl, by simp, by omega, .inr ⟨by decide, decT_n hnf h5' (by rw [hg]; exact hb)⟩⟩
    unfold rdBytes rdStep
    rw [if_pos (by decide)]
    rfl
  obtain ⟨L, hL⟩ : ∃ L : Nat, xs.getD (q + 4) 0 = (L : Int) := ⟨(xs.getD (q + 4) 0).toNat, by omega⟩
  have hs : szR xs (q + 4) 64 = (q + 5, 0, (L : Int)) := by rw [szR_ok (by omega) (by decide) (by omega) (by omega), hL]
  by_cases hc : xs.length < q + 5 + L
  · have hst : rdStep xs.length (q + 5) 0 (L : Int) = (q + 5, 2, 0) := by
      unfold rdStep
      rw [if_neg (by decide), if_neg (by omega), if_pos (by omega)]
    refine ⟨q + 5, 0, L, q + 5, 2, 0, [], hs, hst, ?_, rfl, by simp, by omega, .inr ⟨by decide, decT_cut hnf h5' (by rw [hg]; exact hb) (by rw [hg]; exact hL) (by omega)⟩⟩
    unfold rdBytes
    rw [hst]
    rfl
  · have hst : rdStep xs.length (q + 5) 0 (L : Int) = (q + 5 + L, 0, L) := by
      unfold rdStep
      rw [if_neg (by decide), if_neg (by omega), if_neg (by omega), Int.toNat_natCast]
    refine ⟨q + 5, 0, L, q + 5 + L, 0, L, (xs.drop (q + 5)).take L, hs, hst, ?_, ?_, fun x hx => hr x (List.mem_of_mem_drop (List.mem_of_mem_take hx)), by omega, .inl ⟨rfl, ?_⟩⟩
    · unfold rdBytes
      rw [hst]
    · rw [List.length_take, List.length_drop]; omega
    · rw [decT_go (N := L) hnf h5' (by rw [hg]; exact hb) (by rw [hg]; exact hL) (by omega), hf, List.drop_drop, List.drop_drop, Nat.add_assoc]

/-- Behind j tiers: what was read, or the fault. -/
def DecS (xs : List Int) (w0 : World) (F : Nat → Prop) (g N R P B j : Nat) (w : World) : Prop :=
  Blk w R 24 [.slice none 0 0] ∧ Below w0.heap.size w0 w ∧ B ≤ w.heap.size ∧ ∃ (q : Nat) (e : Int), RdAt F w g xs q e ∧
    ((e = 0 ∧ ∃ (us : List Tier) (ps : List (Option Addr × Nat)) (u : Value), decP xs = us.foldr consR (decT (N - j) (lastF (-1) us) (xs.drop q)) ∧ (∀ t ∈ us, Ranged t) ∧ Made w B u j us ps ∧ Blk w P 24 [u]) ∨ (e ≠ 0 ∧ decP xs = ([], e)))

set_option maxRecDepth 100000 in
set_option maxHeartbeats 4000000 in
theorem ppDecode_any (a : Option Addr) (n c : Nat) (xs : List Int) (w : World) (hI : Ints .u8 w a n c xs) (hr : ∀ x ∈ xs, 0 ≤ x ∧ x < 256) (hn : n ≤ 10000) :
    Calls Tryd.prog 13 #[.slice a n c] w fun q w' => ∃ b d, q = .returned (.tuple #[.agg #[.slice b (decP xs).1.length d], .int .i64 (decP xs).2]) ∧ TiersAt w' b (decP xs).1.length d (decP xs).1 ∧ Below w.heap.size w w' := by
  obtain ⟨i0, hi, hz0, hz1, hz2⟩ := info_tier
  obtain ⟨q0, e0, N, hS0, hN8, hq0, hst⟩ := start_read hr
  have b2 := below2 w (.cells #[.slice none 0 0] 24) (.cells #[.slice none 0 0] 24)
  have hR0 := (Blk.new w 24 [.slice none 0 0]).alloc (.cells #[.slice none 0 0] 24)
  have hP0 := Blk.new1 w (.cells #[.slice none 0 0] 24) 24 [.slice none 0 0]
  have hnew := Lib.hid (pNew_any a n c xs _ (hI.keep b2) hr (by omega))
  have hs2 : ((w.alloc (.cells #[.slice none 0 0] 24)).alloc (.cells #[.slice none 0 0] 24)).heap.size = w.heap.size + 2 := size2 w _ _
  have hKH := Lib.hid (And.intro hR0 (And.intro hP0 (And.intro b2 hs2)))
  have hN8H := Lib.hid hN8
  have hNm : (N : Int) ≤ 8 := by omega
  have hstH := Lib.hid hst
  have hrH := Lib.hid hr
  clear hI hr hn hN8 hst b2 hR0 hP0 hs2 hq0
  go_enter Tryd.func13, Tryd.ntmps13
  go_wp2_with fail
  go_step3
  go_wp2_with fail
  refine hnew.out.mono ?_
  rintro r w3 ⟨g, F, rfl, hRd, hF, b3⟩
  obtain ⟨hR0, hP0, b2, hs2⟩ := hKH.out
  have hR3 := hR0.keep b3 hR0.lt
  have hP3 := hP0.keep b3 hP0.lt
  have hB3 := b2.trans (b3.mono b2.size)
  have hFge : ∀ b, F b → w.heap.size + 2 ≤ b := fun b hb => by have := hF b hb; omega
  have hFlt := hRd.lt
  obtain ⟨R, hRe⟩ : ∃ R, w.heap.size = R := ⟨_, rfl⟩
  obtain ⟨P, hPe⟩ : ∃ P, w.heap.size + 1 = P := ⟨_, rfl⟩
  obtain ⟨B, hBe⟩ : ∃ B, w3.heap.size = B := ⟨_, rfl⟩
  have hB2 : w.heap.size + 2 ≤ B := by have := b3.size; omega
  rw [hRe] at hR3
  rw [hPe] at hP3
  have hFltB : ∀ b, F b → b < B := fun b hb => by rw [← hBe]; exact hFlt b hb
  have hBs3 : B ≤ w3.heap.size := by rw [hBe]; exact Nat.le_refl _
  have hRH := Lib.hid hRe
  have hPH := Lib.hid hPe
  have nR := Lib.hid (fun h : F R => by have := hFge R h; omega : ¬ F R)
  have nP := Lib.hid (fun h : F P => by have := hFge P h; omega : ¬ F P)
  have hFgH := Lib.hid (fun b (hb : F b) => (Nat.le_trans (Nat.le_add_right _ _) (hFge b hb) : w.heap.size ≤ b))
  have hFlH := Lib.hid hFltB
  have hRPB := Lib.hid (show R < B ∧ P < B ∧ R ≠ P by omega)
  rw [hPe, hRe]
  have hsz := ppSize_any 8 (by decide) hRd
  rw [hS0] at hsz
  dsimp only at hsz
  have hszH := Lib.hid hsz
  clear hnew hKH hR0 hP0 b2 hs2 b3 hF hFge hFlt hRe hPe hBe hB2 hFltB hsz hRd
  go_wp2_with fail
  go_step3
  go_wp2_with fail
  refine hszH.out.mono ?_
  rintro r w4 ⟨rfl, hRd4, hm4⟩
  have hR4 : Blk w4 R 24 [.slice none 0 0] := (hm4.2 R hR3.lt nR.out).trans hR3
  have hP4 : Blk w4 P 24 [.slice none 0 0] := (hm4.2 P hP3.lt nP.out).trans hP3
  have hB4 := hB3.trans (hm4.below hFgH.out hB3.size)
  have hBs4 := Nat.le_trans hBs3 hm4.size
  have hD4 : DecS xs w F g N R P B 0 w4 := ⟨hR4, hB4, hBs4, q0, e0, hRd4, by
    rcases hstH.out with ⟨he, hd⟩ | hb
    · exact .inl ⟨he, [], [], .slice none 0 0, hd, by simp, Made.nil _ _, hP4⟩
    · exact .inr hb⟩
  have hD4H := Lib.hid hD4
  clear hszH hR3 hP3 hB3 hBs3 hm4 hR4 hP4 hB4 hBs4 hD4 hRd4 hstH
  go_wp2_with fail
  go_loopw [12] (fun i wr => ∃ j : Nat, j ≤ N ∧ i = .int .i64 j ∧ DecS xs w F g N R P B j wr) (fun i _ => N - (intOf i).toNat)
  case atStart => exact ⟨0, Nat.zero_le _, rfl, hD4H.out⟩
  case round =>
    clear hD4H
    obtain ⟨j, hj, rfl, hR, hB, hBs, q, e, hRd, hcase⟩ := hrel
    by_cases hlt : j < N
    · have hji : (j : Int) < (N : Int) := by omega
      rcases hcase with ⟨rfl, us, ps, u, hdec, hur, hM, hP⟩ | ⟨hE0, hend0⟩
      case inr =>
        have hc := pNum_any 4 hRd
        rw [rdNum4_bad hE0] at hc
        dsimp only at hc
        have hcH := Lib.hid hc
        have hend := Lib.hid hend0
        have hEb : (e != 0) = true := bne_iff_ne.2 hE0
        obtain ⟨E, hEe⟩ : ∃ E, E = e := ⟨_, rfl⟩
        subst hEe
        clear hc hlt hend0 hBs hRd hj
        go_wp2_with fail
        refine hcH.out.mono ?_
        rintro r w5 ⟨rfl, hRd5, hm5⟩
        have hR5 : Blk w5 R 24 [.slice none 0 0] := (hm5.2 R hR.lt nR.out).trans hR
        have hB5 := hB.trans (hm5.below hFgH.out hB.size)
        clear hm5 hR hB hcH
        go_wp2_with fail
        refine (pErr_any hRd5).mono ?_
        rintro r w6 ⟨rfl, b6⟩
        have hRdF := hRd5.keep (fun b hb => b6.block b (hRd5.lt b hb)) b6.size
        have hRF := hR5.keep b6 hR5.lt
        have hBF := hB5.trans (b6.mono hB5.size)
        have b6' := b6
        clear hRd5 hR5 hB5 b6
        go_wp2_with fail
        refine (pDone_any hRdF).mono ?_
        rintro r w9 ⟨rfl, b9⟩
        rw [show doneOf xs.length _ E = E from if_neg hE0]
        have hR9 := hRF.keep b9 hRF.lt
        have hB9 := hBF.trans (b9.mono hBF.size)
        have k9 := hR9.cell 0
        have f9 := hR9.frozen 0
        have hRS := Lib.hid (hR9.set 0 (.slice none 0 0))
        have hBS := Lib.hid (hB9.setCell (p := ⟨R, 0, none⟩) (by have := hRH.out; show w.heap.size ≤ R; omega) (.slice none 0 0))
        clear hRdF hRF hBF b9 hR9 hB9
        go_wp2_with fail
        (try rw [Exit.noGoto_ret])
        refine bodyPost_ret (results_blk_tmp rfl rfl hRS.out rowPay13) rfl ?_
        rw [hend.out]
        exact ⟨none, 0, rfl, ⟨rfl, Nat.le_refl _, .inl rfl⟩, hBS.out⟩
      obtain ⟨ub, uc, rfl⟩ := hM.slice
      obtain ⟨k, hk⟩ : ∃ k, N - j = k + 1 := ⟨N - j - 1, by omega⟩
      have hqn := hRd.within
      have hdl : (xs.drop q).length = xs.length - q := List.length_drop
      rw [hk] at hdec
      by_cases h4 : xs.length < q + 4
      · have hc := pNum_any 4 hRd
        rw [rdNum4_short h4] at hc
        dsimp only at hc
        rw [decT_4 (by omega), foldr_bad us (by decide)] at hdec
        obtain ⟨E, hEe⟩ : ∃ E, (2 : Int) = E := ⟨_, rfl⟩
        rw [hEe] at hc hdec
        have hE0 : E ≠ 0 := by rw [← hEe]; decide
        have hEb : (E != 0) = true := bne_iff_ne.2 hE0
        have hcH := Lib.hid hc
        have hend := Lib.hid hdec
        clear hc hlt hdec hBs hRd hj hM hP hur hk hqn hdl h4 hEe
        go_wp2_with fail
        refine hcH.out.mono ?_
        rintro r w5 ⟨rfl, hRd5, hm5⟩
        have hR5 : Blk w5 R 24 [.slice none 0 0] := (hm5.2 R hR.lt nR.out).trans hR
        have hB5 := hB.trans (hm5.below hFgH.out hB.size)
        clear hm5 hR hB hcH
        go_wp2_with fail
        refine (pErr_any hRd5).mono ?_
        rintro r w6 ⟨rfl, b6⟩
        have hRdF := hRd5.keep (fun b hb => b6.block b (hRd5.lt b hb)) b6.size
        have hRF := hR5.keep b6 hR5.lt
        have hBF := hB5.trans (b6.mono hB5.size)
        have b6' := b6
        clear hRd5 hR5 hB5 b6
        go_wp2_with fail
        refine (pDone_any hRdF).mono ?_
        rintro r w9 ⟨rfl, b9⟩
        rw [show doneOf xs.length _ E = E from if_neg hE0]
        have hR9 := hRF.keep b9 hRF.lt
        have hB9 := hBF.trans (b9.mono hBF.size)
        have k9 := hR9.cell 0
        have f9 := hR9.frozen 0
        have hRS := Lib.hid (hR9.set 0 (.slice none 0 0))
        have hBS := Lib.hid (hB9.setCell (p := ⟨R, 0, none⟩) (by have := hRH.out; show w.heap.size ≤ R; omega) (.slice none 0 0))
        clear hRdF hRF hBF b9 hR9 hB9
        go_wp2_with fail
        (try rw [Exit.noGoto_ret])
        refine bodyPost_ret (results_blk_tmp rfl rfl hRS.out rowPay13) rfl ?_
        rw [hend.out]
        exact ⟨none, 0, rfl, ⟨rfl, Nat.le_refl _, .inl rfl⟩, hBS.out⟩
      have hc := pNum_any 4 hRd
      rw [rdNum4_ok (by omega)] at hc
      dsimp only at hc
      have h4r : ∀ x ∈ (xs.drop q).take 4, 0 ≤ x ∧ x < 256 := fun x hx => hrH.out x (List.mem_of_mem_drop (List.mem_of_mem_take hx))
      have hbl : ((xs.drop q).take 4).length = 4 := by rw [List.length_take]; omega
      have hbe := be_fold ((xs.drop q).take 4) 0 h4r (Int.le_refl 0)
      rw [hbl] at hbe
      obtain ⟨f, hf⟩ : ∃ f, be ((xs.drop q).take 4) = f := ⟨_, rfl⟩
      have hfr : 0 ≤ f ∧ f < 4294967296 := by rw [← hf]; unfold be; exact ⟨hbe.1, by have := hbe.2; omega⟩
      rw [hf] at hc
      have hw32 : IntKind.u32.wrap f = f := by rw [IntKind.wrap_u32]; omega
      have hcH := Lib.hid hc
      have hfH := Lib.hid hf
      have hfrH := Lib.hid hfr
      have hurH := Lib.hid hur
      have hdecH := Lib.hid hdec
      have h4H := Lib.hid h4
      have hkH := Lib.hid hk
      have hltH := Lib.hid hlt
      have hMP := Lib.hid (And.intro hM hP)
      have hBsH := Lib.hid hBs
      clear hc hlt hdec hBs hRd hj hM hP hur hk hqn hdl h4 hbl h4r hbe hf hfr
      go_wp2_with fail
      refine hcH.out.mono ?_
      rintro r w5 ⟨rfl, hRd5, hm5⟩
      obtain ⟨hM, hP⟩ := hMP.out
      have hP5 : Blk w5 P 24 [.slice ub j uc] := (hm5.2 P hP.lt nP.out).trans hP
      have hM5 := hM.moved (fun b hb hlt => hm5.2 b hlt (fun hf => by have := hFlH.out b hf; omega))
      have hBs5 := Nat.le_trans hBsH.out hm5.size
      clear hMP hM hP
      have hR5 : Blk w5 R 24 [.slice none 0 0] := (hm5.2 R hR.lt nR.out).trans hR
      have hB5 := hB.trans (hm5.below hFgH.out hB.size)
      clear hm5 hR hB hcH
      go_wp2_with fail
      refine (pErr_any hRd5).mono ?_
      rintro r w6 ⟨rfl, b6⟩
      have hRdF := hRd5.keep (fun b hb => b6.block b (hRd5.lt b hb)) b6.size
      have hRF := hR5.keep b6 hR5.lt
      have hBF := hB5.trans (b6.mono hB5.size)
      have b6' := b6
      clear hRd5 hR5 hB5 b6
      have hP6 := hP5.keep b6' hP5.lt
      have hM6 := hM5.keep b6'
      have hBs6 := Nat.le_trans hBs5 b6'.size
      have k6 := hP6.cell 0
      have hri := Lib.hid (ppRises_any ub j uc us f w6 hM6.at hfrH.out.1 (by have := hltH.out; have := hN8H.out; unfold maxLen; omega))
      have hKH := Lib.hid (And.intro hRdF (And.intro hRF (And.intro hBF (And.intro hP6 (And.intro hM6 hBs6)))))
      clear hP5 hM5 hBs5 b6' hRdF hRF hBF hP6 hM6 hBs6 hBsH hw32
      go_wp2_with fail
      refine hri.out.mono ?_
      rintro r w' ⟨rfl, rfl⟩
      clear hri
      by_cases hge : ¬ lastF (-1) us < f
      · rw [decide_eq_false hge]
        have hd := hdecH.out
        rw [decT_fee (by rw [List.length_drop]; have := h4H.out; omega) (by rw [hfH.out]; omega), foldr_bad us (by decide)] at hd
        obtain ⟨hRd6, hR6, hB6, hP6, hM6, hBs6⟩ := hKH.out
        have hcf := pFail_any 4 hRd6
        rw [show badOf 0 4 = 4 from rfl] at hcf
        obtain ⟨E, hEe⟩ : ∃ E, (4 : Int) = E := ⟨_, rfl⟩
        have hE0 : E ≠ 0 := by rw [← hEe]; decide
        have hEb : (E != 0) = true := bne_iff_ne.2 hE0
        have hcf2 : Calls Tryd.prog 33 #[.pointer (some ⟨g, 0, none⟩), .int .i64 4] w6 fun r w' => r = .returned (.tuple #[]) ∧ RdAt F w' g xs (q + 4) E ∧ Moved F w6 w' := by rw [← hEe]; exact hcf
        rw [hEe] at hd
        have hend := Lib.hid hd
        have hcfH := Lib.hid hcf2
        clear hge hd hcf hcf2 hEe hKH hRd6 hP6 hM6 hBs6 hdecH k6
        go_wp2_with fail
        refine hcfH.out.mono ?_
        rintro r w7 ⟨rfl, hRdF, hm7⟩
        have hRF : Blk w7 R 24 [.slice none 0 0] := (hm7.2 R hR6.lt nR.out).trans hR6
        have hBF := hB6.trans (hm7.below hFgH.out hB6.size)
        clear hm7 hR6 hB6 hcfH
        go_wp2_with fail
        refine (pDone_any hRdF).mono ?_
        rintro r w9 ⟨rfl, b9⟩
        rw [show doneOf xs.length _ E = E from if_neg hE0]
        have hR9 := hRF.keep b9 hRF.lt
        have hB9 := hBF.trans (b9.mono hBF.size)
        have k9 := hR9.cell 0
        have f9 := hR9.frozen 0
        have hRS := Lib.hid (hR9.set 0 (.slice none 0 0))
        have hBS := Lib.hid (hB9.setCell (p := ⟨R, 0, none⟩) (by have := hRH.out; show w.heap.size ≤ R; omega) (.slice none 0 0))
        clear hRdF hRF hBF b9 hR9 hB9
        go_wp2_with fail
        (try rw [Exit.noGoto_ret])
        refine bodyPost_ret (results_blk_tmp rfl rfl hRS.out rowPay13) rfl ?_
        rw [hend.out]
        exact ⟨none, 0, rfl, ⟨rfl, Nat.le_refl _, .inl rfl⟩, hBS.out⟩
      have hok : lastF (-1) us < f := by omega
      rw [decide_eq_true hok]
      obtain ⟨S1, S2, S3, Q, E, L, ys, hS, hZ, hY, hyl, hyr, hQn, hres⟩ := tier_read (k := k) hrH.out (by have := h4H.out; omega) hfH.out hok
      have hdec := hdecH.out
      have hres2 : (E = 0 ∧ decP xs = (us ++ [(f, ys)]).foldr consR (decT (N - (j + 1)) (lastF (-1) (us ++ [(f, ys)])) (xs.drop Q))) ∨ (E ≠ 0 ∧ decP xs = ([], E)) := by
        rcases hres with ⟨h1, h2⟩ | ⟨h1, h2⟩
        · refine .inl ⟨h1, ?_⟩
          rw [hdec, h2, List.foldr_append, lastF_append, show N - (j + 1) = k by have := hkH.out; omega]
          rfl
        · exact .inr ⟨h1, by rw [hdec, h2, foldr_bad us h1]⟩
      have hur2 : ∀ t ∈ us ++ [(f, ys)], Ranged t := fun t ht => by
        rcases List.mem_append.1 ht with ht | ht
        · exact hurH.out t ht
        · obtain rfl := List.mem_singleton.1 ht
          exact ⟨hfrH.out, hyr⟩
      have hresH := Lib.hid (And.intro hres2 hur2)
      clear hge hok hres hdec hdecH hres2 hur2 hyr hQn
      go_wp2_with fail
      obtain ⟨hRd6, hR6, hB6, hP6, hM6, hBs6⟩ := hKH.out
      have bV : Below w6.heap.size w6 w6.drew := (Below.refl _ _).drew
      obtain ⟨V0, hV0⟩ : ∃ V, w6.drew = V := ⟨_, rfl⟩
      rw [hV0] at bV
      have hRdV := hRd6.keep (fun b hb => bV.block b (hRd6.lt b hb)) bV.size
      have hR0 := hR6.keep bV hR6.lt
      have hP0 := hP6.keep bV hP6.lt
      have hM0 := hM6.keep bV
      have hB0 := hB6.trans (bV.mono hB6.size)
      have hBs0 := Nat.le_trans hBs6 bV.size
      have hsz := ppSize_any 64 (by decide) hRdV
      rw [hS] at hsz
      dsimp only at hsz
      have hszH := Lib.hid hsz
      have hZH := Lib.hid (And.intro hZ (And.intro hY hyl))
      have kP0 := hP0.cell 0
      refine region_seqS (fun _ => True) (by kernel_rfl) trivial ?_
      simp only [pairs, Nat.reduceAdd]
      rw [hV0]
      clear hV0 hRd6 hR6 hB6 hP6 hM6 hBs6 bV hsz hKH hRdV k6 hS hZ hY hyl
      repeat (first
        | (refine SeqS.take (v := ?_) (by first | assumption | trivial) (by kernel_rfl) (by decide +kernel) (by decide +kernel) (Or.inl ⟨by rfl, ?_⟩) ?_
           rotate_left
           focus
             intro w' hb'
             go_simp
             with_reducible rfl
           simp only [Act.put, List.setIfInBounds_toArray, List.set_cons_zero, List.set_cons_succ])
        | (refine SeqS.take (v := undef) (by first | assumption | trivial) (by kernel_rfl) (by decide +kernel) (by decide +kernel) (Or.inr ⟨by rfl, rfl⟩) ?_
           simp only [Act.put, List.setIfInBounds_toArray, List.set_cons_zero, List.set_cons_succ])
        | (refine SeqS.take1 (v := ?_) (by first | assumption | trivial) (by kernel_rfl) (by decide +kernel) (by decide +kernel) (Or.inl ⟨by rfl, ?_⟩) ?_
           rotate_left
           focus
             intro w' hb'
             go_simp
             with_reducible rfl
           simp only [Act.put, List.setIfInBounds_toArray, List.set_cons_zero, List.set_cons_succ])
        | (refine SeqS.take1 (v := undef) (by first | assumption | trivial) (by kernel_rfl) (by decide +kernel) (by decide +kernel) (Or.inr ⟨by rfl, rfl⟩) ?_
           simp only [Act.put, List.setIfInBounds_toArray, List.set_cons_zero, List.set_cons_succ])
        | (refine SeqS.take2 (v := ?_) (by first | assumption | trivial) (by kernel_rfl) (by decide +kernel) (by decide +kernel) (Or.inl ⟨by rfl, ?_⟩) ?_
           rotate_left
           focus
             intro w' hb'
             go_simp
             with_reducible rfl
           simp only [Act.put, List.setIfInBounds_toArray, List.set_cons_zero, List.set_cons_succ])
        | (refine SeqS.take2 (v := undef) (by first | assumption | trivial) (by kernel_rfl) (by decide +kernel) (by decide +kernel) (Or.inr ⟨by rfl, rfl⟩) ?_
           simp only [Act.put, List.setIfInBounds_toArray, List.set_cons_zero, List.set_cons_succ])
        | (refine SeqS.take3 (v := ?_) (by first | assumption | trivial) (by kernel_rfl) (by decide +kernel) (by decide +kernel) (Or.inl ⟨by rfl, ?_⟩) ?_
           rotate_left
           focus
             intro w' hb'
             go_simp
             with_reducible rfl
           simp only [Act.put, List.setIfInBounds_toArray, List.set_cons_zero, List.set_cons_succ])
        | (refine SeqS.take3 (v := undef) (by first | assumption | trivial) (by kernel_rfl) (by decide +kernel) (by decide +kernel) (Or.inr ⟨by rfl, rfl⟩) ?_
           simp only [Act.put, List.setIfInBounds_toArray, List.set_cons_zero, List.set_cons_succ])
        | (refine SeqS.take4 (v := ?_) (by first | assumption | trivial) (by kernel_rfl) (by decide +kernel) (by decide +kernel) (Or.inl ⟨by rfl, ?_⟩) ?_
           rotate_left
           focus
             intro w' hb'
             go_simp
             with_reducible rfl
           simp only [Act.put, List.setIfInBounds_toArray, List.set_cons_zero, List.set_cons_succ])
        | (refine SeqS.take4 (v := undef) (by first | assumption | trivial) (by kernel_rfl) (by decide +kernel) (by decide +kernel) (Or.inr ⟨by rfl, rfl⟩) ?_
           simp only [Act.put, List.setIfInBounds_toArray, List.set_cons_zero, List.set_cons_succ])
        | (refine SeqS.take5 (v := ?_) (by first | assumption | trivial) (by kernel_rfl) (by decide +kernel) (by decide +kernel) (Or.inl ⟨by rfl, ?_⟩) ?_
           rotate_left
           focus
             intro w' hb'
             go_simp
             with_reducible rfl
           simp only [Act.put, List.setIfInBounds_toArray, List.set_cons_zero, List.set_cons_succ])
        | (refine SeqS.take5 (v := undef) (by first | assumption | trivial) (by kernel_rfl) (by decide +kernel) (by decide +kernel) (Or.inr ⟨by rfl, rfl⟩) ?_
           simp only [Act.put, List.setIfInBounds_toArray, List.set_cons_zero, List.set_cons_succ])
        | (refine SeqS.take6 (v := ?_) (by first | assumption | trivial) (by kernel_rfl) (by decide +kernel) (by decide +kernel) (Or.inl ⟨by rfl, ?_⟩) ?_
           rotate_left
           focus
             intro w' hb'
             go_simp
             with_reducible rfl
           simp only [Act.put, List.setIfInBounds_toArray, List.set_cons_zero, List.set_cons_succ])
        | (refine SeqS.take6 (v := undef) (by first | assumption | trivial) (by kernel_rfl) (by decide +kernel) (by decide +kernel) (Or.inr ⟨by rfl, rfl⟩) ?_
           simp only [Act.put, List.setIfInBounds_toArray, List.set_cons_zero, List.set_cons_succ]))
      refine SeqS.either (rs := [1, 5]) (by decide +kernel) ?_
      intro o ho
      simp only [List.mem_cons, List.not_mem_nil, or_false] at ho
      rcases ho with rfl | rfl
      · refine ⟨[], _, [_, _, _, _, _, _, _], rfl, by rfl, fun K hK => ?_⟩
        go_simp
        refine hK _ _ trivial ?_
        clear hK K
        (try simp only [Act.put, List.setIfInBounds_toArray, List.set_cons_zero, List.set_cons_succ])
        refine SeqS.alone (by decide +kernel) (by rfl) (fun K hK => ?_)
        go_simp
        go_at_call 30
        refine hszH.out.mono ?_
        rintro r V1 ⟨rfl, hRd1, hm1⟩
        go_simp
        have hP1 : Blk V1 P 24 [.slice ub j uc] := (hm1.2 P hP0.lt nP.out).trans hP0
        have kP1 := hP1.cell 0
        have hR1 : Blk V1 R 24 [.slice none 0 0] := (hm1.2 R hR0.lt nR.out).trans hR0
        have hM1 := hM0.moved (fun b hb hlt => hm1.2 b hlt (fun hf => by have := hFlH.out b hf; omega))
        have hB1 := hB0.trans (hm1.below hFgH.out hB0.size)
        have hBs1 := Nat.le_trans hBs0 hm1.size
        have hby := pBytes_any S3 hRd1
        rw [hZH.out.1, hZH.out.2.1] at hby
        dsimp only at hby
        have hbyH := Lib.hid hby
        clear hby hm1 hRd1 hP0 hR0 hM0 hB0 hBs0
        refine hK _ _ trivial ?_
        clear hK K
        (try simp only [Act.put, List.setIfInBounds_toArray, List.set_cons_zero, List.set_cons_succ])
        refine SeqS.alone (by decide +kernel) (by rfl) (fun K hK => ?_)
        go_simp
        go_at_call 34
        refine hbyH.out.mono ?_
        rintro r V2 ⟨b2, c2, rfl, hown2, -, hRd2, hm2⟩
        go_simp
        have hP2 : Blk V2 P 24 [.slice ub j uc] := (hm2.2 P hP1.lt nP.out).trans hP1
        have kP2 := hP2.cell 0
        have hR2 : Blk V2 R 24 [.slice none 0 0] := (hm2.2 R hR1.lt nR.out).trans hR1
        have hM2 := hM1.moved (fun b hb hlt => hm2.2 b hlt (fun hf => by have := hFlH.out b hf; omega))
        have hB2 := hB1.trans (hm2.below hFgH.out hB1.size)
        have hBs2 := Nat.le_trans hBs1 hm2.size
        have ownB := own_low9 hown2 hBs1
        clear hm2 hP1 hR1 hM1 hB1 hbyH hBs1 hown2
        refine hK _ _ trivial ?_
        clear hK K
        (try simp only [Act.put, List.setIfInBounds_toArray, List.set_cons_zero, List.set_cons_succ])
        repeat (first
          | (refine SeqS.take (v := ?_) (by first | assumption | trivial) (by kernel_rfl) (by decide +kernel) (by decide +kernel) (Or.inl ⟨by rfl, ?_⟩) ?_
             rotate_left
             focus
               intro w' hb'
               go_simp
               with_reducible rfl
             simp only [Act.put, List.setIfInBounds_toArray, List.set_cons_zero, List.set_cons_succ])
          | (refine SeqS.take (v := undef) (by first | assumption | trivial) (by kernel_rfl) (by decide +kernel) (by decide +kernel) (Or.inr ⟨by rfl, rfl⟩) ?_
             simp only [Act.put, List.setIfInBounds_toArray, List.set_cons_zero, List.set_cons_succ])
          | (refine SeqS.take1 (v := ?_) (by first | assumption | trivial) (by kernel_rfl) (by decide +kernel) (by decide +kernel) (Or.inl ⟨by rfl, ?_⟩) ?_
             rotate_left
             focus
               intro w' hb'
               go_simp
               with_reducible rfl
             simp only [Act.put, List.setIfInBounds_toArray, List.set_cons_zero, List.set_cons_succ])
          | (refine SeqS.take1 (v := undef) (by first | assumption | trivial) (by kernel_rfl) (by decide +kernel) (by decide +kernel) (Or.inr ⟨by rfl, rfl⟩) ?_
             simp only [Act.put, List.setIfInBounds_toArray, List.set_cons_zero, List.set_cons_succ])
          | (refine SeqS.take2 (v := ?_) (by first | assumption | trivial) (by kernel_rfl) (by decide +kernel) (by decide +kernel) (Or.inl ⟨by rfl, ?_⟩) ?_
             rotate_left
             focus
               intro w' hb'
               go_simp
               with_reducible rfl
             simp only [Act.put, List.setIfInBounds_toArray, List.set_cons_zero, List.set_cons_succ])
          | (refine SeqS.take2 (v := undef) (by first | assumption | trivial) (by kernel_rfl) (by decide +kernel) (by decide +kernel) (Or.inr ⟨by rfl, rfl⟩) ?_
             simp only [Act.put, List.setIfInBounds_toArray, List.set_cons_zero, List.set_cons_succ]))
        refine SeqS.alone (by decide +kernel) (by rfl) (fun K hK => ?_)
        go_simp
        have hnew3 := Blk.new V2 41 [.int .u32 f, .slice b2 L c2]
        have b23 := below1 V2 (.cells #[.int .u32 f, .slice b2 L c2] 41)
        obtain ⟨V3, hV3⟩ : ∃ V, V2.alloc (.cells #[.int .u32 f, .slice b2 L c2] 41) = V := ⟨_, rfl⟩
        rw [hV3] at hnew3 b23
        rw [hV3]
        have kP3 := (hP2.keep b23 hP2.lt).cell 0
        refine hK _ _ trivial ?_
        clear hK K
        (try simp only [Act.put, List.setIfInBounds_toArray, List.set_cons_zero, List.set_cons_succ])
        have hM3 := hM2.keep b23
        have hown3 := own_stay9 ownB b23
        have hB3 := hB2.trans (b23.mono hB2.size)
        have hBs3 := Nat.le_trans hBs2 b23.size
        have hRd3 := hRd2.keep (fun b hb => b23.block b (hRd2.lt b hb)) b23.size
        have hj8 : j ≤ 8 := by have := hN8H.out; have := hltH.out; omega
        have hneo : ∀ q, q < B → some q ≠ (Value.slice ub j uc).ownBlock := fun q hq e => by have := (hM3.row.lt q e.symm).1; omega
        refine SeqS.alone (by decide +kernel) (by rfl) (fun K hK => ?_)
        refine wp_append_own V3 (.tmp 30) (.tmp 37) 22 rfl B 41 i0 _ 2 32 Tryd.underlying22 hi hz0 hz1 hz2 (by simp [Value.cells]) (by decide) (.slice ub j uc) j (tcells us ps) rfl hM3.row ⟨V2.heap.size, 0, none⟩ 1 1 [.int .u32 f, .slice b2 L c2] rfl rfl (by intro t u ht; rw [add_at9, hnew3.cell]; exact ht) (by simp [Value.oneCell']) (by unfold maxLen; omega) (by omega) hBs3 ?_
        intro v4 V4 hown4 hg4 _
        have hM4 := hM3.snoc hown3 hown4 hg4
        have hsl4 := hM4.slice
        obtain ⟨b4, c4, hv4⟩ := hsl4
        rw [hv4] at hM4 ⊢
        have hP4 := (hP2.keep b23 hP2.lt).grown hg4 (hneo P hRPB.out.2.1)
        have hR4 := (hR2.keep b23 hR2.lt).grown hg4 (hneo R hRPB.out.1)
        have hB4 := hB3.grown hg4 hB3.size (fun q hq => by have := (hM3.row.lt q hq).1; have := hRPB.out; have := hRH.out; omega)
        have hRd4 := hRd3.keep (fun b hb => hg4.block b (hRd3.lt b hb) (hneo b (hFlH.out b hb))) hg4.size
        have hBs4 := Nat.le_trans hBs3 hg4.size
        refine hK _ _ trivial ?_
        clear hK K
        (try simp only [Act.put, List.setIfInBounds_toArray, List.set_cons_zero, List.set_cons_succ])
        repeat (first
          | (refine SeqS.take (v := ?_) (by first | assumption | trivial) (by kernel_rfl) (by decide +kernel) (by decide +kernel) (Or.inl ⟨by rfl, ?_⟩) ?_
             rotate_left
             focus
               intro w' hb'
               go_simp
               with_reducible rfl
             simp only [Act.put, List.setIfInBounds_toArray, List.set_cons_zero, List.set_cons_succ])
          | (refine SeqS.take (v := undef) (by first | assumption | trivial) (by kernel_rfl) (by decide +kernel) (by decide +kernel) (Or.inr ⟨by rfl, rfl⟩) ?_
             simp only [Act.put, List.setIfInBounds_toArray, List.set_cons_zero, List.set_cons_succ])
          | (refine SeqS.take1 (v := ?_) (by first | assumption | trivial) (by kernel_rfl) (by decide +kernel) (by decide +kernel) (Or.inl ⟨by rfl, ?_⟩) ?_
             rotate_left
             focus
               intro w' hb'
               go_simp
               with_reducible rfl
             simp only [Act.put, List.setIfInBounds_toArray, List.set_cons_zero, List.set_cons_succ])
          | (refine SeqS.take1 (v := undef) (by first | assumption | trivial) (by kernel_rfl) (by decide +kernel) (by decide +kernel) (Or.inr ⟨by rfl, rfl⟩) ?_
             simp only [Act.put, List.setIfInBounds_toArray, List.set_cons_zero, List.set_cons_succ])
          | (refine SeqS.take2 (v := ?_) (by first | assumption | trivial) (by kernel_rfl) (by decide +kernel) (by decide +kernel) (Or.inl ⟨by rfl, ?_⟩) ?_
             rotate_left
             focus
               intro w' hb'
               go_simp
               with_reducible rfl
             simp only [Act.put, List.setIfInBounds_toArray, List.set_cons_zero, List.set_cons_succ])
          | (refine SeqS.take2 (v := undef) (by first | assumption | trivial) (by kernel_rfl) (by decide +kernel) (by decide +kernel) (Or.inr ⟨by rfl, rfl⟩) ?_
             simp only [Act.put, List.setIfInBounds_toArray, List.set_cons_zero, List.set_cons_succ]))
        refine SeqS.alone (by decide +kernel) (by rfl) (fun K hK => ?_)
        have cP := hP4.cell 0
        have fP := hP4.frozen 0
        go_simp
        refine hK _ _ trivial ?_
        clear hK K
        (try simp only [Act.put, List.setIfInBounds_toArray, List.set_cons_zero, List.set_cons_succ])
        refine SeqS.done (by decide +kernel) ?_
        have hP5 := hP4.set 0 (.slice b4 (j + 1) c4)
        have hR5 := hR4.far (p := ⟨P, 0, none⟩) (by show R ≠ P; exact hRPB.out.2.2) (.slice b4 (j + 1) c4)
        have hB5 := hB4.setCell (p := ⟨P, 0, none⟩) (by show w.heap.size ≤ P; have := hPH.out; omega) (.slice b4 (j + 1) c4)
        have hM5 := hM4.moved (w' := V4.setCell ⟨P, 0, none⟩ (.slice b4 (j + 1) c4)) (fun q hq _ => Below.heap_setCell V4 ⟨P, 0, none⟩ _ q (by show q ≠ P; have := hRPB.out.2.1; omega))
        have hz5 : (V4.setCell ⟨P, 0, none⟩ (.slice b4 (j + 1) c4)).heap.size = V4.heap.size := by simp
        have hRd5 := hRd4.keep (w' := V4.setCell ⟨P, 0, none⟩ (.slice b4 (j + 1) c4)) (fun b hb => Below.heap_setCell V4 ⟨P, 0, none⟩ _ b (by show b ≠ P; intro e; subst e; exact nP.out hb)) (Nat.le_of_eq hz5.symm)
        have hBs5 : B ≤ (V4.setCell ⟨P, 0, none⟩ (.slice b4 (j + 1) c4)).heap.size := by rw [hz5]; exact hBs4
        obtain ⟨V5, hV5⟩ : ∃ V, V4.setCell ⟨P, 0, none⟩ (.slice b4 (j + 1) c4) = V := ⟨_, rfl⟩
        rw [hV5] at hP5 hR5 hB5 hM5 hRd5 hBs5
        rw [hV5]
        have hfinal : Hid (DecS xs w F g N R P B (j + 1) V5) := Lib.hid ⟨hR5, hB5, hBs5, Q, E, hRd5, by
          rcases hresH.out.1 with ⟨h1, h2⟩ | h1
          · exact .inl ⟨h1, us ++ [(f, ys)], ps ++ [(b2, c2)], .slice b4 (j + 1) c4, h2, hresH.out.2, hM5, hP5⟩
          · exact .inr h1⟩
        clear hz5 hV5 hM4 hP4 hR4 hB4 hRd4 hBs4 hown4 hg4 hM3 hown3 hB3 hBs3 hRd3 hneo hP5 hR5 hB5 hM5 hRd5 hBs5 cP fP hnew3 b23 ownB kP0 kP1 kP2 kP3 hM2 hR2 hP2 hB2 hBs2 hRd2 hV3 hj8
        go_wp2
        exact ⟨⟨j + 1, by have := hltH.out; omega, by congr 1, hfinal.out⟩, by simp only [intOf]; have := hltH.out; omega⟩
      · refine ⟨[_], _, [_, _, _, _, _, _], rfl, by rfl, fun K hK => ?_⟩
        go_simp
        go_at_call 30
        refine hszH.out.mono ?_
        rintro r V1 ⟨rfl, hRd1, hm1⟩
        go_simp
        have hP1 : Blk V1 P 24 [.slice ub j uc] := (hm1.2 P hP0.lt nP.out).trans hP0
        have kP1 := hP1.cell 0
        have hR1 : Blk V1 R 24 [.slice none 0 0] := (hm1.2 R hR0.lt nR.out).trans hR0
        have hM1 := hM0.moved (fun b hb hlt => hm1.2 b hlt (fun hf => by have := hFlH.out b hf; omega))
        have hB1 := hB0.trans (hm1.below hFgH.out hB0.size)
        have hBs1 := Nat.le_trans hBs0 hm1.size
        have hby := pBytes_any S3 hRd1
        rw [hZH.out.1, hZH.out.2.1] at hby
        dsimp only at hby
        have hbyH := Lib.hid hby
        clear hby hm1 hRd1 hP0 hR0 hM0 hB0 hBs0
        refine hK _ _ trivial ?_
        clear hK K
        (try simp only [Act.put, List.setIfInBounds_toArray, List.set_cons_zero, List.set_cons_succ])
        refine SeqS.either (rs := [1, 6]) (by decide +kernel) ?_
        intro o ho
        simp only [List.mem_cons, List.not_mem_nil, or_false] at ho
        rcases ho with rfl | rfl
        · refine ⟨[], _, [_, _, _, _, _, _], rfl, by rfl, fun K hK => ?_⟩
          go_simp
          refine hK _ _ trivial ?_
          clear hK K
          (try simp only [Act.put, List.setIfInBounds_toArray, List.set_cons_zero, List.set_cons_succ])
          refine SeqS.alone (by decide +kernel) (by rfl) (fun K hK => ?_)
          go_simp
          go_at_call 34
          refine hbyH.out.mono ?_
          rintro r V2 ⟨b2, c2, rfl, hown2, -, hRd2, hm2⟩
          go_simp
          have hP2 : Blk V2 P 24 [.slice ub j uc] := (hm2.2 P hP1.lt nP.out).trans hP1
          have kP2 := hP2.cell 0
          have hR2 : Blk V2 R 24 [.slice none 0 0] := (hm2.2 R hR1.lt nR.out).trans hR1
          have hM2 := hM1.moved (fun b hb hlt => hm2.2 b hlt (fun hf => by have := hFlH.out b hf; omega))
          have hB2 := hB1.trans (hm2.below hFgH.out hB1.size)
          have hBs2 := Nat.le_trans hBs1 hm2.size
          have ownB := own_low9 hown2 hBs1
          clear hm2 hP1 hR1 hM1 hB1 hbyH hBs1 hown2
          refine hK _ _ trivial ?_
          clear hK K
          (try simp only [Act.put, List.setIfInBounds_toArray, List.set_cons_zero, List.set_cons_succ])
          repeat (first
            | (refine SeqS.take (v := ?_) (by first | assumption | trivial) (by kernel_rfl) (by decide +kernel) (by decide +kernel) (Or.inl ⟨by rfl, ?_⟩) ?_
               rotate_left
               focus
                 intro w' hb'
                 go_simp
                 with_reducible rfl
               simp only [Act.put, List.setIfInBounds_toArray, List.set_cons_zero, List.set_cons_succ])
            | (refine SeqS.take (v := undef) (by first | assumption | trivial) (by kernel_rfl) (by decide +kernel) (by decide +kernel) (Or.inr ⟨by rfl, rfl⟩) ?_
               simp only [Act.put, List.setIfInBounds_toArray, List.set_cons_zero, List.set_cons_succ])
            | (refine SeqS.take1 (v := ?_) (by first | assumption | trivial) (by kernel_rfl) (by decide +kernel) (by decide +kernel) (Or.inl ⟨by rfl, ?_⟩) ?_
               rotate_left
               focus
                 intro w' hb'
                 go_simp
                 with_reducible rfl
               simp only [Act.put, List.setIfInBounds_toArray, List.set_cons_zero, List.set_cons_succ])
            | (refine SeqS.take1 (v := undef) (by first | assumption | trivial) (by kernel_rfl) (by decide +kernel) (by decide +kernel) (Or.inr ⟨by rfl, rfl⟩) ?_
               simp only [Act.put, List.setIfInBounds_toArray, List.set_cons_zero, List.set_cons_succ])
            | (refine SeqS.take2 (v := ?_) (by first | assumption | trivial) (by kernel_rfl) (by decide +kernel) (by decide +kernel) (Or.inl ⟨by rfl, ?_⟩) ?_
               rotate_left
               focus
                 intro w' hb'
                 go_simp
                 with_reducible rfl
               simp only [Act.put, List.setIfInBounds_toArray, List.set_cons_zero, List.set_cons_succ])
            | (refine SeqS.take2 (v := undef) (by first | assumption | trivial) (by kernel_rfl) (by decide +kernel) (by decide +kernel) (Or.inr ⟨by rfl, rfl⟩) ?_
               simp only [Act.put, List.setIfInBounds_toArray, List.set_cons_zero, List.set_cons_succ]))
          refine SeqS.alone (by decide +kernel) (by rfl) (fun K hK => ?_)
          go_simp
          have hnew3 := Blk.new V2 41 [.int .u32 f, .slice b2 L c2]
          have b23 := below1 V2 (.cells #[.int .u32 f, .slice b2 L c2] 41)
          obtain ⟨V3, hV3⟩ : ∃ V, V2.alloc (.cells #[.int .u32 f, .slice b2 L c2] 41) = V := ⟨_, rfl⟩
          rw [hV3] at hnew3 b23
          rw [hV3]
          have kP3 := (hP2.keep b23 hP2.lt).cell 0
          refine hK _ _ trivial ?_
          clear hK K
          (try simp only [Act.put, List.setIfInBounds_toArray, List.set_cons_zero, List.set_cons_succ])
          have hM3 := hM2.keep b23
          have hown3 := own_stay9 ownB b23
          have hB3 := hB2.trans (b23.mono hB2.size)
          have hBs3 := Nat.le_trans hBs2 b23.size
          have hRd3 := hRd2.keep (fun b hb => b23.block b (hRd2.lt b hb)) b23.size
          have hj8 : j ≤ 8 := by have := hN8H.out; have := hltH.out; omega
          have hneo : ∀ q, q < B → some q ≠ (Value.slice ub j uc).ownBlock := fun q hq e => by have := (hM3.row.lt q e.symm).1; omega
          refine SeqS.alone (by decide +kernel) (by rfl) (fun K hK => ?_)
          refine wp_append_own V3 (.tmp 30) (.tmp 37) 22 rfl B 41 i0 _ 2 32 Tryd.underlying22 hi hz0 hz1 hz2 (by simp [Value.cells]) (by decide) (.slice ub j uc) j (tcells us ps) rfl hM3.row ⟨V2.heap.size, 0, none⟩ 1 1 [.int .u32 f, .slice b2 L c2] rfl rfl (by intro t u ht; rw [add_at9, hnew3.cell]; exact ht) (by simp [Value.oneCell']) (by unfold maxLen; omega) (by omega) hBs3 ?_
          intro v4 V4 hown4 hg4 _
          have hM4 := hM3.snoc hown3 hown4 hg4
          have hsl4 := hM4.slice
          obtain ⟨b4, c4, hv4⟩ := hsl4
          rw [hv4] at hM4 ⊢
          have hP4 := (hP2.keep b23 hP2.lt).grown hg4 (hneo P hRPB.out.2.1)
          have hR4 := (hR2.keep b23 hR2.lt).grown hg4 (hneo R hRPB.out.1)
          have hB4 := hB3.grown hg4 hB3.size (fun q hq => by have := (hM3.row.lt q hq).1; have := hRPB.out; have := hRH.out; omega)
          have hRd4 := hRd3.keep (fun b hb => hg4.block b (hRd3.lt b hb) (hneo b (hFlH.out b hb))) hg4.size
          have hBs4 := Nat.le_trans hBs3 hg4.size
          refine hK _ _ trivial ?_
          clear hK K
          (try simp only [Act.put, List.setIfInBounds_toArray, List.set_cons_zero, List.set_cons_succ])
          repeat (first
            | (refine SeqS.take (v := ?_) (by first | assumption | trivial) (by kernel_rfl) (by decide +kernel) (by decide +kernel) (Or.inl ⟨by rfl, ?_⟩) ?_
               rotate_left
               focus
                 intro w' hb'
                 go_simp
                 with_reducible rfl
               simp only [Act.put, List.setIfInBounds_toArray, List.set_cons_zero, List.set_cons_succ])
            | (refine SeqS.take (v := undef) (by first | assumption | trivial) (by kernel_rfl) (by decide +kernel) (by decide +kernel) (Or.inr ⟨by rfl, rfl⟩) ?_
               simp only [Act.put, List.setIfInBounds_toArray, List.set_cons_zero, List.set_cons_succ])
            | (refine SeqS.take1 (v := ?_) (by first | assumption | trivial) (by kernel_rfl) (by decide +kernel) (by decide +kernel) (Or.inl ⟨by rfl, ?_⟩) ?_
               rotate_left
               focus
                 intro w' hb'
                 go_simp
                 with_reducible rfl
               simp only [Act.put, List.setIfInBounds_toArray, List.set_cons_zero, List.set_cons_succ])
            | (refine SeqS.take1 (v := undef) (by first | assumption | trivial) (by kernel_rfl) (by decide +kernel) (by decide +kernel) (Or.inr ⟨by rfl, rfl⟩) ?_
               simp only [Act.put, List.setIfInBounds_toArray, List.set_cons_zero, List.set_cons_succ])
            | (refine SeqS.take2 (v := ?_) (by first | assumption | trivial) (by kernel_rfl) (by decide +kernel) (by decide +kernel) (Or.inl ⟨by rfl, ?_⟩) ?_
               rotate_left
               focus
                 intro w' hb'
                 go_simp
                 with_reducible rfl
               simp only [Act.put, List.setIfInBounds_toArray, List.set_cons_zero, List.set_cons_succ])
            | (refine SeqS.take2 (v := undef) (by first | assumption | trivial) (by kernel_rfl) (by decide +kernel) (by decide +kernel) (Or.inr ⟨by rfl, rfl⟩) ?_
               simp only [Act.put, List.setIfInBounds_toArray, List.set_cons_zero, List.set_cons_succ]))
          refine SeqS.alone (by decide +kernel) (by rfl) (fun K hK => ?_)
          have cP := hP4.cell 0
          have fP := hP4.frozen 0
          go_simp
          refine hK _ _ trivial ?_
          clear hK K
          (try simp only [Act.put, List.setIfInBounds_toArray, List.set_cons_zero, List.set_cons_succ])
          refine SeqS.done (by decide +kernel) ?_
          have hP5 := hP4.set 0 (.slice b4 (j + 1) c4)
          have hR5 := hR4.far (p := ⟨P, 0, none⟩) (by show R ≠ P; exact hRPB.out.2.2) (.slice b4 (j + 1) c4)
          have hB5 := hB4.setCell (p := ⟨P, 0, none⟩) (by show w.heap.size ≤ P; have := hPH.out; omega) (.slice b4 (j + 1) c4)
          have hM5 := hM4.moved (w' := V4.setCell ⟨P, 0, none⟩ (.slice b4 (j + 1) c4)) (fun q hq _ => Below.heap_setCell V4 ⟨P, 0, none⟩ _ q (by show q ≠ P; have := hRPB.out.2.1; omega))
          have hz5 : (V4.setCell ⟨P, 0, none⟩ (.slice b4 (j + 1) c4)).heap.size = V4.heap.size := by simp
          have hRd5 := hRd4.keep (w' := V4.setCell ⟨P, 0, none⟩ (.slice b4 (j + 1) c4)) (fun b hb => Below.heap_setCell V4 ⟨P, 0, none⟩ _ b (by show b ≠ P; intro e; subst e; exact nP.out hb)) (Nat.le_of_eq hz5.symm)
          have hBs5 : B ≤ (V4.setCell ⟨P, 0, none⟩ (.slice b4 (j + 1) c4)).heap.size := by rw [hz5]; exact hBs4
          obtain ⟨V5, hV5⟩ : ∃ V, V4.setCell ⟨P, 0, none⟩ (.slice b4 (j + 1) c4) = V := ⟨_, rfl⟩
          rw [hV5] at hP5 hR5 hB5 hM5 hRd5 hBs5
          rw [hV5]
          have hfinal : Hid (DecS xs w F g N R P B (j + 1) V5) := Lib.hid ⟨hR5, hB5, hBs5, Q, E, hRd5, by
            rcases hresH.out.1 with ⟨h1, h2⟩ | h1
            · exact .inl ⟨h1, us ++ [(f, ys)], ps ++ [(b2, c2)], .slice b4 (j + 1) c4, h2, hresH.out.2, hM5, hP5⟩
            · exact .inr h1⟩
          clear hz5 hV5 hM4 hP4 hR4 hB4 hRd4 hBs4 hown4 hg4 hM3 hown3 hB3 hBs3 hRd3 hneo hP5 hR5 hB5 hM5 hRd5 hBs5 cP fP hnew3 b23 ownB kP0 kP1 kP2 kP3 hM2 hR2 hP2 hB2 hBs2 hRd2 hV3 hj8
          go_wp2
          exact ⟨⟨j + 1, by have := hltH.out; omega, by congr 1, hfinal.out⟩, by simp only [intOf]; have := hltH.out; omega⟩
        · refine ⟨[_], _, [_, _, _, _, _], rfl, by rfl, fun K hK => ?_⟩
          go_simp
          go_at_call 34
          refine hbyH.out.mono ?_
          rintro r V2 ⟨b2, c2, rfl, hown2, -, hRd2, hm2⟩
          go_simp
          have hP2 : Blk V2 P 24 [.slice ub j uc] := (hm2.2 P hP1.lt nP.out).trans hP1
          have kP2 := hP2.cell 0
          have hR2 : Blk V2 R 24 [.slice none 0 0] := (hm2.2 R hR1.lt nR.out).trans hR1
          have hM2 := hM1.moved (fun b hb hlt => hm2.2 b hlt (fun hf => by have := hFlH.out b hf; omega))
          have hB2 := hB1.trans (hm2.below hFgH.out hB1.size)
          have hBs2 := Nat.le_trans hBs1 hm2.size
          have ownB := own_low9 hown2 hBs1
          clear hm2 hP1 hR1 hM1 hB1 hbyH hBs1 hown2
          refine hK _ _ trivial ?_
          clear hK K
          (try simp only [Act.put, List.setIfInBounds_toArray, List.set_cons_zero, List.set_cons_succ])
          repeat (first
            | (refine SeqS.take (v := ?_) (by first | assumption | trivial) (by kernel_rfl) (by decide +kernel) (by decide +kernel) (Or.inl ⟨by rfl, ?_⟩) ?_
               rotate_left
               focus
                 intro w' hb'
                 go_simp
                 with_reducible rfl
               simp only [Act.put, List.setIfInBounds_toArray, List.set_cons_zero, List.set_cons_succ])
            | (refine SeqS.take (v := undef) (by first | assumption | trivial) (by kernel_rfl) (by decide +kernel) (by decide +kernel) (Or.inr ⟨by rfl, rfl⟩) ?_
               simp only [Act.put, List.setIfInBounds_toArray, List.set_cons_zero, List.set_cons_succ])
            | (refine SeqS.take1 (v := ?_) (by first | assumption | trivial) (by kernel_rfl) (by decide +kernel) (by decide +kernel) (Or.inl ⟨by rfl, ?_⟩) ?_
               rotate_left
               focus
                 intro w' hb'
                 go_simp
                 with_reducible rfl
               simp only [Act.put, List.setIfInBounds_toArray, List.set_cons_zero, List.set_cons_succ])
            | (refine SeqS.take1 (v := undef) (by first | assumption | trivial) (by kernel_rfl) (by decide +kernel) (by decide +kernel) (Or.inr ⟨by rfl, rfl⟩) ?_
               simp only [Act.put, List.setIfInBounds_toArray, List.set_cons_zero, List.set_cons_succ])
            | (refine SeqS.take2 (v := ?_) (by first | assumption | trivial) (by kernel_rfl) (by decide +kernel) (by decide +kernel) (Or.inl ⟨by rfl, ?_⟩) ?_
               rotate_left
               focus
                 intro w' hb'
                 go_simp
                 with_reducible rfl
               simp only [Act.put, List.setIfInBounds_toArray, List.set_cons_zero, List.set_cons_succ])
            | (refine SeqS.take2 (v := undef) (by first | assumption | trivial) (by kernel_rfl) (by decide +kernel) (by decide +kernel) (Or.inr ⟨by rfl, rfl⟩) ?_
               simp only [Act.put, List.setIfInBounds_toArray, List.set_cons_zero, List.set_cons_succ]))
          refine SeqS.either (rs := [1, 8]) (by decide +kernel) ?_
          intro o ho
          simp only [List.mem_cons, List.not_mem_nil, or_false] at ho
          rcases ho with rfl | rfl
          · refine ⟨[], _, [_, _, _, _], rfl, by rfl, fun K hK => ?_⟩
            go_simp
            refine hK _ _ trivial ?_
            clear hK K
            (try simp only [Act.put, List.setIfInBounds_toArray, List.set_cons_zero, List.set_cons_succ])
            refine SeqS.alone (by decide +kernel) (by rfl) (fun K hK => ?_)
            go_simp
            have hnew3 := Blk.new V2 41 [.int .u32 f, .slice b2 L c2]
            have b23 := below1 V2 (.cells #[.int .u32 f, .slice b2 L c2] 41)
            obtain ⟨V3, hV3⟩ : ∃ V, V2.alloc (.cells #[.int .u32 f, .slice b2 L c2] 41) = V := ⟨_, rfl⟩
            rw [hV3] at hnew3 b23
            rw [hV3]
            have kP3 := (hP2.keep b23 hP2.lt).cell 0
            refine hK _ _ trivial ?_
            clear hK K
            (try simp only [Act.put, List.setIfInBounds_toArray, List.set_cons_zero, List.set_cons_succ])
            have hM3 := hM2.keep b23
            have hown3 := own_stay9 ownB b23
            have hB3 := hB2.trans (b23.mono hB2.size)
            have hBs3 := Nat.le_trans hBs2 b23.size
            have hRd3 := hRd2.keep (fun b hb => b23.block b (hRd2.lt b hb)) b23.size
            have hj8 : j ≤ 8 := by have := hN8H.out; have := hltH.out; omega
            have hneo : ∀ q, q < B → some q ≠ (Value.slice ub j uc).ownBlock := fun q hq e => by have := (hM3.row.lt q e.symm).1; omega
            refine SeqS.alone (by decide +kernel) (by rfl) (fun K hK => ?_)
            refine wp_append_own V3 (.tmp 30) (.tmp 37) 22 rfl B 41 i0 _ 2 32 Tryd.underlying22 hi hz0 hz1 hz2 (by simp [Value.cells]) (by decide) (.slice ub j uc) j (tcells us ps) rfl hM3.row ⟨V2.heap.size, 0, none⟩ 1 1 [.int .u32 f, .slice b2 L c2] rfl rfl (by intro t u ht; rw [add_at9, hnew3.cell]; exact ht) (by simp [Value.oneCell']) (by unfold maxLen; omega) (by omega) hBs3 ?_
            intro v4 V4 hown4 hg4 _
            have hM4 := hM3.snoc hown3 hown4 hg4
            have hsl4 := hM4.slice
            obtain ⟨b4, c4, hv4⟩ := hsl4
            rw [hv4] at hM4 ⊢
            have hP4 := (hP2.keep b23 hP2.lt).grown hg4 (hneo P hRPB.out.2.1)
            have hR4 := (hR2.keep b23 hR2.lt).grown hg4 (hneo R hRPB.out.1)
            have hB4 := hB3.grown hg4 hB3.size (fun q hq => by have := (hM3.row.lt q hq).1; have := hRPB.out; have := hRH.out; omega)
            have hRd4 := hRd3.keep (fun b hb => hg4.block b (hRd3.lt b hb) (hneo b (hFlH.out b hb))) hg4.size
            have hBs4 := Nat.le_trans hBs3 hg4.size
            refine hK _ _ trivial ?_
            clear hK K
            (try simp only [Act.put, List.setIfInBounds_toArray, List.set_cons_zero, List.set_cons_succ])
            repeat (first
              | (refine SeqS.take (v := ?_) (by first | assumption | trivial) (by kernel_rfl) (by decide +kernel) (by decide +kernel) (Or.inl ⟨by rfl, ?_⟩) ?_
                 rotate_left
                 focus
                   intro w' hb'
                   go_simp
                   with_reducible rfl
                 simp only [Act.put, List.setIfInBounds_toArray, List.set_cons_zero, List.set_cons_succ])
              | (refine SeqS.take (v := undef) (by first | assumption | trivial) (by kernel_rfl) (by decide +kernel) (by decide +kernel) (Or.inr ⟨by rfl, rfl⟩) ?_
                 simp only [Act.put, List.setIfInBounds_toArray, List.set_cons_zero, List.set_cons_succ])
              | (refine SeqS.take1 (v := ?_) (by first | assumption | trivial) (by kernel_rfl) (by decide +kernel) (by decide +kernel) (Or.inl ⟨by rfl, ?_⟩) ?_
                 rotate_left
                 focus
                   intro w' hb'
                   go_simp
                   with_reducible rfl
                 simp only [Act.put, List.setIfInBounds_toArray, List.set_cons_zero, List.set_cons_succ])
              | (refine SeqS.take1 (v := undef) (by first | assumption | trivial) (by kernel_rfl) (by decide +kernel) (by decide +kernel) (Or.inr ⟨by rfl, rfl⟩) ?_
                 simp only [Act.put, List.setIfInBounds_toArray, List.set_cons_zero, List.set_cons_succ])
              | (refine SeqS.take2 (v := ?_) (by first | assumption | trivial) (by kernel_rfl) (by decide +kernel) (by decide +kernel) (Or.inl ⟨by rfl, ?_⟩) ?_
                 rotate_left
                 focus
                   intro w' hb'
                   go_simp
                   with_reducible rfl
                 simp only [Act.put, List.setIfInBounds_toArray, List.set_cons_zero, List.set_cons_succ])
              | (refine SeqS.take2 (v := undef) (by first | assumption | trivial) (by kernel_rfl) (by decide +kernel) (by decide +kernel) (Or.inr ⟨by rfl, rfl⟩) ?_
                 simp only [Act.put, List.setIfInBounds_toArray, List.set_cons_zero, List.set_cons_succ]))
            refine SeqS.alone (by decide +kernel) (by rfl) (fun K hK => ?_)
            have cP := hP4.cell 0
            have fP := hP4.frozen 0
            go_simp
            refine hK _ _ trivial ?_
            clear hK K
            (try simp only [Act.put, List.setIfInBounds_toArray, List.set_cons_zero, List.set_cons_succ])
            refine SeqS.done (by decide +kernel) ?_
            have hP5 := hP4.set 0 (.slice b4 (j + 1) c4)
            have hR5 := hR4.far (p := ⟨P, 0, none⟩) (by show R ≠ P; exact hRPB.out.2.2) (.slice b4 (j + 1) c4)
            have hB5 := hB4.setCell (p := ⟨P, 0, none⟩) (by show w.heap.size ≤ P; have := hPH.out; omega) (.slice b4 (j + 1) c4)
            have hM5 := hM4.moved (w' := V4.setCell ⟨P, 0, none⟩ (.slice b4 (j + 1) c4)) (fun q hq _ => Below.heap_setCell V4 ⟨P, 0, none⟩ _ q (by show q ≠ P; have := hRPB.out.2.1; omega))
            have hz5 : (V4.setCell ⟨P, 0, none⟩ (.slice b4 (j + 1) c4)).heap.size = V4.heap.size := by simp
            have hRd5 := hRd4.keep (w' := V4.setCell ⟨P, 0, none⟩ (.slice b4 (j + 1) c4)) (fun b hb => Below.heap_setCell V4 ⟨P, 0, none⟩ _ b (by show b ≠ P; intro e; subst e; exact nP.out hb)) (Nat.le_of_eq hz5.symm)
            have hBs5 : B ≤ (V4.setCell ⟨P, 0, none⟩ (.slice b4 (j + 1) c4)).heap.size := by rw [hz5]; exact hBs4
            obtain ⟨V5, hV5⟩ : ∃ V, V4.setCell ⟨P, 0, none⟩ (.slice b4 (j + 1) c4) = V := ⟨_, rfl⟩
            rw [hV5] at hP5 hR5 hB5 hM5 hRd5 hBs5
            rw [hV5]
            have hfinal : Hid (DecS xs w F g N R P B (j + 1) V5) := Lib.hid ⟨hR5, hB5, hBs5, Q, E, hRd5, by
              rcases hresH.out.1 with ⟨h1, h2⟩ | h1
              · exact .inl ⟨h1, us ++ [(f, ys)], ps ++ [(b2, c2)], .slice b4 (j + 1) c4, h2, hresH.out.2, hM5, hP5⟩
              · exact .inr h1⟩
            clear hz5 hV5 hM4 hP4 hR4 hB4 hRd4 hBs4 hown4 hg4 hM3 hown3 hB3 hBs3 hRd3 hneo hP5 hR5 hB5 hM5 hRd5 hBs5 cP fP hnew3 b23 ownB kP0 kP1 kP2 kP3 hM2 hR2 hP2 hB2 hBs2 hRd2 hV3 hj8
            go_wp2
            exact ⟨⟨j + 1, by have := hltH.out; omega, by congr 1, hfinal.out⟩, by simp only [intOf]; have := hltH.out; omega⟩
          · refine ⟨[_], _, [_, _, _], rfl, by rfl, fun K hK => ?_⟩
            go_simp
            have hnew3 := Blk.new V2 41 [.int .u32 f, .slice b2 L c2]
            have b23 := below1 V2 (.cells #[.int .u32 f, .slice b2 L c2] 41)
            obtain ⟨V3, hV3⟩ : ∃ V, V2.alloc (.cells #[.int .u32 f, .slice b2 L c2] 41) = V := ⟨_, rfl⟩
            rw [hV3] at hnew3 b23
            rw [hV3]
            have kP3 := (hP2.keep b23 hP2.lt).cell 0
            refine hK _ _ trivial ?_
            clear hK K
            (try simp only [Act.put, List.setIfInBounds_toArray, List.set_cons_zero, List.set_cons_succ])
            refine SeqS.alone (by decide +kernel) (by rfl) (fun K hK => ?_)
            go_simp
            refine hK _ _ trivial ?_
            clear hK K
            (try simp only [Act.put, List.setIfInBounds_toArray, List.set_cons_zero, List.set_cons_succ])
            have hM3 := hM2.keep b23
            have hown3 := own_stay9 ownB b23
            have hB3 := hB2.trans (b23.mono hB2.size)
            have hBs3 := Nat.le_trans hBs2 b23.size
            have hRd3 := hRd2.keep (fun b hb => b23.block b (hRd2.lt b hb)) b23.size
            have hj8 : j ≤ 8 := by have := hN8H.out; have := hltH.out; omega
            have hneo : ∀ q, q < B → some q ≠ (Value.slice ub j uc).ownBlock := fun q hq e => by have := (hM3.row.lt q e.symm).1; omega
            refine SeqS.alone (by decide +kernel) (by rfl) (fun K hK => ?_)
            refine wp_append_own V3 (.tmp 30) (.tmp 37) 22 rfl B 41 i0 _ 2 32 Tryd.underlying22 hi hz0 hz1 hz2 (by simp [Value.cells]) (by decide) (.slice ub j uc) j (tcells us ps) rfl hM3.row ⟨V2.heap.size, 0, none⟩ 1 1 [.int .u32 f, .slice b2 L c2] rfl rfl (by intro t u ht; rw [add_at9, hnew3.cell]; exact ht) (by simp [Value.oneCell']) (by unfold maxLen; omega) (by omega) hBs3 ?_
            intro v4 V4 hown4 hg4 _
            have hM4 := hM3.snoc hown3 hown4 hg4
            have hsl4 := hM4.slice
            obtain ⟨b4, c4, hv4⟩ := hsl4
            rw [hv4] at hM4 ⊢
            have hP4 := (hP2.keep b23 hP2.lt).grown hg4 (hneo P hRPB.out.2.1)
            have hR4 := (hR2.keep b23 hR2.lt).grown hg4 (hneo R hRPB.out.1)
            have hB4 := hB3.grown hg4 hB3.size (fun q hq => by have := (hM3.row.lt q hq).1; have := hRPB.out; have := hRH.out; omega)
            have hRd4 := hRd3.keep (fun b hb => hg4.block b (hRd3.lt b hb) (hneo b (hFlH.out b hb))) hg4.size
            have hBs4 := Nat.le_trans hBs3 hg4.size
            refine hK _ _ trivial ?_
            clear hK K
            (try simp only [Act.put, List.setIfInBounds_toArray, List.set_cons_zero, List.set_cons_succ])
            repeat (first
              | (refine SeqS.take (v := ?_) (by first | assumption | trivial) (by kernel_rfl) (by decide +kernel) (by decide +kernel) (Or.inl ⟨by rfl, ?_⟩) ?_
                 rotate_left
                 focus
                   intro w' hb'
                   go_simp
                   with_reducible rfl
                 simp only [Act.put, List.setIfInBounds_toArray, List.set_cons_zero, List.set_cons_succ])
              | (refine SeqS.take (v := undef) (by first | assumption | trivial) (by kernel_rfl) (by decide +kernel) (by decide +kernel) (Or.inr ⟨by rfl, rfl⟩) ?_
                 simp only [Act.put, List.setIfInBounds_toArray, List.set_cons_zero, List.set_cons_succ])
              | (refine SeqS.take1 (v := ?_) (by first | assumption | trivial) (by kernel_rfl) (by decide +kernel) (by decide +kernel) (Or.inl ⟨by rfl, ?_⟩) ?_
                 rotate_left
                 focus
                   intro w' hb'
                   go_simp
                   with_reducible rfl
                 simp only [Act.put, List.setIfInBounds_toArray, List.set_cons_zero, List.set_cons_succ])
              | (refine SeqS.take1 (v := undef) (by first | assumption | trivial) (by kernel_rfl) (by decide +kernel) (by decide +kernel) (Or.inr ⟨by rfl, rfl⟩) ?_
                 simp only [Act.put, List.setIfInBounds_toArray, List.set_cons_zero, List.set_cons_succ])
              | (refine SeqS.take2 (v := ?_) (by first | assumption | trivial) (by kernel_rfl) (by decide +kernel) (by decide +kernel) (Or.inl ⟨by rfl, ?_⟩) ?_
                 rotate_left
                 focus
                   intro w' hb'
                   go_simp
                   with_reducible rfl
                 simp only [Act.put, List.setIfInBounds_toArray, List.set_cons_zero, List.set_cons_succ])
              | (refine SeqS.take2 (v := undef) (by first | assumption | trivial) (by kernel_rfl) (by decide +kernel) (by decide +kernel) (Or.inr ⟨by rfl, rfl⟩) ?_
                 simp only [Act.put, List.setIfInBounds_toArray, List.set_cons_zero, List.set_cons_succ]))
            refine SeqS.alone (by decide +kernel) (by rfl) (fun K hK => ?_)
            have cP := hP4.cell 0
            have fP := hP4.frozen 0
            go_simp
            refine hK _ _ trivial ?_
            clear hK K
            (try simp only [Act.put, List.setIfInBounds_toArray, List.set_cons_zero, List.set_cons_succ])
            refine SeqS.done (by decide +kernel) ?_
            have hP5 := hP4.set 0 (.slice b4 (j + 1) c4)
            have hR5 := hR4.far (p := ⟨P, 0, none⟩) (by show R ≠ P; exact hRPB.out.2.2) (.slice b4 (j + 1) c4)
            have hB5 := hB4.setCell (p := ⟨P, 0, none⟩) (by show w.heap.size ≤ P; have := hPH.out; omega) (.slice b4 (j + 1) c4)
            have hM5 := hM4.moved (w' := V4.setCell ⟨P, 0, none⟩ (.slice b4 (j + 1) c4)) (fun q hq _ => Below.heap_setCell V4 ⟨P, 0, none⟩ _ q (by show q ≠ P; have := hRPB.out.2.1; omega))
            have hz5 : (V4.setCell ⟨P, 0, none⟩ (.slice b4 (j + 1) c4)).heap.size = V4.heap.size := by simp
            have hRd5 := hRd4.keep (w' := V4.setCell ⟨P, 0, none⟩ (.slice b4 (j + 1) c4)) (fun b hb => Below.heap_setCell V4 ⟨P, 0, none⟩ _ b (by show b ≠ P; intro e; subst e; exact nP.out hb)) (Nat.le_of_eq hz5.symm)
            have hBs5 : B ≤ (V4.setCell ⟨P, 0, none⟩ (.slice b4 (j + 1) c4)).heap.size := by rw [hz5]; exact hBs4
            obtain ⟨V5, hV5⟩ : ∃ V, V4.setCell ⟨P, 0, none⟩ (.slice b4 (j + 1) c4) = V := ⟨_, rfl⟩
            rw [hV5] at hP5 hR5 hB5 hM5 hRd5 hBs5
            rw [hV5]
            have hfinal : Hid (DecS xs w F g N R P B (j + 1) V5) := Lib.hid ⟨hR5, hB5, hBs5, Q, E, hRd5, by
              rcases hresH.out.1 with ⟨h1, h2⟩ | h1
              · exact .inl ⟨h1, us ++ [(f, ys)], ps ++ [(b2, c2)], .slice b4 (j + 1) c4, h2, hresH.out.2, hM5, hP5⟩
              · exact .inr h1⟩
            clear hz5 hV5 hM4 hP4 hR4 hB4 hRd4 hBs4 hown4 hg4 hM3 hown3 hB3 hBs3 hRd3 hneo hP5 hR5 hB5 hM5 hRd5 hBs5 cP fP hnew3 b23 ownB kP0 kP1 kP2 kP3 hM2 hR2 hP2 hB2 hBs2 hRd2 hV3 hj8
            go_wp2
            exact ⟨⟨j + 1, by have := hltH.out; omega, by congr 1, hfinal.out⟩, by simp only [intOf]; have := hltH.out; omega⟩
    · obtain rfl : N = j := by omega
      have hji : ¬ (N : Int) < (N : Int) := by omega
      rcases hcase with ⟨rfl, us, ps, u, hdec, hur, hM, hP⟩ | ⟨hE0, hend0⟩
      case inr =>
        obtain ⟨E, hEe⟩ : ∃ E, E = e := ⟨_, rfl⟩
        subst hEe
        have hEb : (E != 0) = true := bne_iff_ne.2 hE0
        have hend := Lib.hid hend0
        have hRdF := hRd
        have hRF := hR
        have hBF := hB
        clear hlt hend0 hBs hj hR hB hRd
        go_wp2_with fail
        refine (pDone_any hRdF).mono ?_
        rintro r w9 ⟨rfl, b9⟩
        rw [show doneOf xs.length _ E = E from if_neg hE0]
        have hR9 := hRF.keep b9 hRF.lt
        have hB9 := hBF.trans (b9.mono hBF.size)
        have k9 := hR9.cell 0
        have f9 := hR9.frozen 0
        have hRS := Lib.hid (hR9.set 0 (.slice none 0 0))
        have hBS := Lib.hid (hB9.setCell (p := ⟨R, 0, none⟩) (by have := hRH.out; show w.heap.size ≤ R; omega) (.slice none 0 0))
        clear hRdF hRF hBF b9 hR9 hB9
        go_wp2_with fail
        (try rw [Exit.noGoto_ret])
        refine bodyPost_ret (results_blk_tmp rfl rfl hRS.out rowPay13) rfl ?_
        rw [hend.out]
        exact ⟨none, 0, rfl, ⟨rfl, Nat.le_refl _, .inl rfl⟩, hBS.out⟩
      have hl := hM.len
      obtain ⟨ub, uc, rfl⟩ := hM.slice
      rw [Nat.sub_self] at hdec
      by_cases hq : q < xs.length
      · have hdn : doneOf xs.length q 0 = 3 := by
          unfold doneOf
          rw [if_pos rfl, if_pos (by omega)]
        have hne : xs.drop q ≠ [] := fun h => by have := congrArg List.length h; rw [List.length_drop, List.length_nil] at this; omega
        rw [show decT 0 (lastF (-1) us) (xs.drop q) = ([], 3) by unfold decT; rw [if_neg hne], foldr_bad us (by decide)] at hdec
        obtain ⟨E, hEe⟩ : ∃ E, (3 : Int) = E := ⟨_, rfl⟩
        rw [hEe] at hdn hdec
        have hE0 : E ≠ 0 := by rw [← hEe]; decide
        have hEb : (E != 0) = true := bne_iff_ne.2 hE0
        have hend := Lib.hid hdec
        have hdnH := Lib.hid hdn
        have hRdF := hRd
        have hRF := hR
        have hBF := hB
        clear hlt hdec hBs hj hR hB hRd hEe hM hP hur hq hne hdn hl
        go_wp2_with fail
        refine (pDone_any hRdF).mono ?_
        rintro r w9 ⟨rfl, b9⟩
        rw [hdnH.out]
        have hR9 := hRF.keep b9 hRF.lt
        have hB9 := hBF.trans (b9.mono hBF.size)
        have k9 := hR9.cell 0
        have f9 := hR9.frozen 0
        have hRS := Lib.hid (hR9.set 0 (.slice none 0 0))
        have hBS := Lib.hid (hB9.setCell (p := ⟨R, 0, none⟩) (by have := hRH.out; show w.heap.size ≤ R; omega) (.slice none 0 0))
        clear hRdF hRF hBF b9 hR9 hB9
        go_wp2_with fail
        (try rw [Exit.noGoto_ret])
        refine bodyPost_ret (results_blk_tmp rfl rfl hRS.out rowPay13) rfl ?_
        rw [hend.out]
        exact ⟨none, 0, rfl, ⟨rfl, Nat.le_refl _, .inl rfl⟩, hBS.out⟩
      · have hdn : doneOf xs.length q 0 = 0 := by
          unfold doneOf
          rw [if_pos rfl, if_neg (by omega)]
        rw [show decT 0 (lastF (-1) us) (xs.drop q) = ([], 0) by unfold decT; rw [if_pos (List.drop_eq_nil_of_le (by omega))], foldr_ok us] at hdec
        have hdnH := Lib.hid hdn
        have hend := Lib.hid hdec
        have hlH := Lib.hid hl
        clear hlt hdec hBs hj hur hq hdn hl
        go_wp2_with fail
        refine (pDone_any hRd).mono ?_
        rintro r w9 ⟨rfl, b9⟩
        rw [hdnH.out]
        have hR9 := hR.keep b9 hR.lt
        have hP9 := hP.keep b9 hP.lt
        have hB9 := hB.trans (b9.mono hB.size)
        have hM9 := hM.keep b9
        have k9 := hR9.cell 0
        have f9 := hR9.frozen 0
        have p9 := hP9.cell 0
        have hRS := Lib.hid (hR9.set 0 (.slice ub N uc))
        have hBS := Lib.hid (hB9.setCell (p := ⟨R, 0, none⟩) (by have := hRH.out; show w.heap.size ≤ R; omega) (.slice ub N uc))
        have hMS := Lib.hid (hM9.moved (w' := w9.setCell ⟨R, 0, none⟩ (.slice ub N uc)) (fun q hq _ => Below.heap_setCell w9 ⟨R, 0, none⟩ _ q (by show q ≠ R; have := hRPB.out.1; omega)))
        clear hRd hR hB hP hM b9 hR9 hB9 hP9 hM9
        go_wp2_with fail
        (try rw [Exit.noGoto_ret])
        refine bodyPost_ret (results_blk_tmp rfl rfl hRS.out rowPay13) rfl ?_
        rw [hend.out]
        have hl := hlH.out
        subst hl
        exact ⟨ub, uc, rfl, hMS.out.at, hBS.out⟩
end Go.Proofs.YtcfachgfgogllaaDoor

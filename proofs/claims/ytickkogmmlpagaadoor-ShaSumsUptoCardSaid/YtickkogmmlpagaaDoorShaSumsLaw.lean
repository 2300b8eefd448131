/-
  The law ShaSums comes to true; only new memory is written. Conditions: at most 2^32 parts, of at most 2^32 bytes in all, each byte a number from 0 to 255; the package's variables hold the constants and the starts.
-/
import Derived.Test.YtickkogmmlpagaaDoorRegion0
import Derived.Test.YtickkogmmlpagaaDoorShaAlive
import Derived.Laws.Bits64
namespace Go.Proofs.YtickkogmmlpagaaDoor
open Go.RowKit

set_option maxRecDepth 100000 in
set_option maxHeartbeats 3200000 in
theorem shaSums_any (a : Option Addr) (n cap : Nat) (ps : List (List Int)) (w : World) (hG : Glob w) (hP : Parts w a n cap ps) (hr : ∀ p ∈ ps, ∀ x ∈ p, 0 ≤ x ∧ x < 256) (ht : ps.flatten.length ≤ 4294967296) (hn : n ≤ 4294967296) :
    Calls Tryd.prog 3 #[.slice a n cap] w fun e w' => e = .returned (.bool true) ∧ Below w.heap.size w w' := by
  have hl := Lib.hid hP.len
  have HP := Lib.hid hP
  have hcap := hP.2.1
  have hng := noGuardId
  clear hP
  go_enter Tryd.func3, Tryd.ntmps3
  go_wp2_with fail
  refine (refFew_any a n cap ps w HP.out ht hn).mono ?_; rintro e w0 ⟨rfl, rfl⟩
  by_cases hF : n + ps.flatten.length ≤ 700
  case neg =>
    rw [decide_eq_false hF]
    clear hF ht
    go_wp2_with fail
    refine (alive2_any w hG).mono ?_; rintro e w1 ⟨rfl, b1⟩
    go_wp2_with fail
    go_ret
    exact ⟨rfl, b1⟩
  rw [decide_eq_true hF]
  have HF := Lib.hid hF
  clear hF ht
  go_wp2_with fail
  refine (new_any w hG).mono ?_; rintro e w1 ⟨rfl, H1, b1⟩
  have hn7 : (n : Int) ≤ 700 := by have := HF.out; omega
  go_wp2_with fail
  go_loopw [15] (fun i wr => ∃ k : Nat, k ≤ n ∧ i = .int .i64 k ∧ HashAt wr w.heap.size (ps.take k).flatten ∧ Below w.heap.size w wr) (fun i _ => n - (intOf i).toNat)
  case atStart => exact ⟨0, Nat.zero_le _, rfl, H1, b1⟩
  case round =>
    obtain ⟨k, hk, rfl, hH, hb⟩ := hrel
    clear H1 b1
    by_cases hlt : k < n
    · obtain ⟨pb, po, rfl, hc⟩ := HP.out.at (by omega)
      obtain ⟨A, m, c, hck, hI⟩ := hc k hlt
      have hltI : (k : Int) < (n : Int) := by omega
      have hcapI : (k : Int) + 1 ≤ (cap : Int) := by omega
      have hw1 : IntKind.i64.wrap ((k : Int) + 1) = (k : Int) + 1 := IntWalk.i64_in _ (by omega)
      have hk1 : ((k : Int) + 1).toNat = k + 1 := by omega
      have hk2 : (0 : Int) ≤ (k : Int) + 1 := by omega
      obtain ⟨XS, hXS⟩ : ∃ XS, XS = (ps.take k).flatten ++ ps.getD k [] := ⟨_, rfl⟩
      have hSN : XS = (ps.take (k + 1)).flatten := by rw [flatten_snoc ps k (by rw [hl.out]; exact hlt)]; exact hXS
      obtain ⟨L, hLX⟩ : ∃ L, XS.length = L := ⟨_, rfl⟩
      have hL7 : L ≤ 700 := by have h1 := flatten_take_le ps (k + 1); have h2 := HF.out; rw [← hSN, hLX] at h1; omega
      have hL7I : (L : Int) ≤ 700 := by omega
      have hwL : IntKind.u64.wrap (L : Int) = (L : Int) := by rw [IntKind.wrap_u64]; omega
      have hXR : ∀ x ∈ XS, 0 ≤ x ∧ x < 256 := by
        intro x hx
        rw [hSN] at hx
        obtain ⟨p, hp, hxp⟩ := List.mem_flatten.1 hx
        exact hr p (List.mem_of_mem_take hp) x hxp
      obtain ⟨E, hE⟩ : ∃ E, E = ((shaSum XS).map (Value.int .u8)).toArray := ⟨_, rfl⟩
      have same : ∀ w, (Op.equalIn 10000 30 (.agg E) (.agg E)).run Tryd.prog w = .ok true w := by rw [hE]; exact same_id (shaSum XS) (shaSum_length _)
      have hckr : wr.cell? ⟨pb, po + k, none⟩ = some (.slice A m c) := by rw [hb.cell (World.block_lt_of_cell? w _ hck)]; exact hck
      have hbd : Below w.heap.size w wr.drew := hb.drew
      have hGr : Glob wr.drew := hG.keep hbd (Nat.le_refl _)
      have hHd : HashAt wr.drew w.heap.size (ps.take k).flatten := hH
      have hm : m = (ps.getD k []).length := hI.len.symm
      have CW := Lib.hid (write_any w.heap.size (ps.take k).flatten A m c (ps.getD k []) wr.drew hHd hGr (hI.keep hbd) (getD_mem_range hr k) (fun x hx hp => by have := hI.isIn.2 x hx hp; omega) (by have h1 := congrArg List.length hXS; rw [List.length_append, hLX] at h1; omega))
      have HE := Lib.hid hE; have HXS := Lib.hid hXS; have HSN := Lib.hid hSN; have HLX := Lib.hid hLX; have HXR := Lib.hid hXR
      clear hE hXS hSN hLX hXR hc hck hI hm
      go_wp2_with fail
      refine region_seq0 (by kernel_rfl) ?_
      simp only [pairs, Nat.reduceAdd]
      repeat (first
        | (refine Seq0.take (v := ?_) (by kernel_rfl) (by decide +kernel) (by decide +kernel) (Or.inl ⟨by rfl, ?_⟩) ?_
           rotate_left
           focus
             intro w' hb'
             go_simp
             with_reducible rfl
           simp only [Act.put, List.setIfInBounds_toArray, List.set_cons_zero, List.set_cons_succ])
        | (refine Seq0.take1 (v := ?_) (by kernel_rfl) (by decide +kernel) (by decide +kernel) (Or.inl ⟨by rfl, ?_⟩) ?_
           rotate_left
           focus
             intro w' hb'
             go_simp
             with_reducible rfl
           simp only [Act.put, List.setIfInBounds_toArray, List.set_cons_zero, List.set_cons_succ]))
      refine Seq0.alone (by decide +kernel) (by rfl) (fun K hK => ?_)
      go_simp
      go_at_call 9
      refine CW.out.mono ?_
      rintro e w2 ⟨rfl, H2, g2⟩
      go_simp
      refine hK _ _ ?_
      clear hK K CW
      have hq2 : Below w2.heap.size w2 w2 := Below.refl _ _
      have hb2 : Below w.heap.size w w2 := hbd.trans (below_of_grown g2 (Nat.le_refl _) hHd.lt)
      have G2 : Glob w2 := hHd.far hGr g2
      have CS := Lib.hid (fun w' (q : Below w2.heap.size w2 w') => (show Calls Tryd.prog 10 #[.pointer (some ⟨w.heap.size, 0, none⟩)] w' fun e w'' => e = .returned (.agg E) ∧ Below w'.heap.size w' w'' by rw [HE.out, HXS.out]; exact hsum_any _ _ w' (H2.keep q H2.lt) (G2.keep q (Nat.le_refl _)) (by rw [← HXS.out, HLX.out]; omega)))
      have CJ := Lib.hid (fun w' (q : Below w2.heap.size w2 w') => (show Calls Tryd.prog 12 #[.slice (some ⟨pb, po, none⟩) (k + 1) cap] w' fun e w'' => ∃ b c, e = .returned (.slice b L c) ∧ Ints .u8 w'' b L c XS ∧ Below w'.heap.size w' w'' by
        have hh := refJoin_any (some ⟨pb, po, none⟩) (k + 1) cap (ps.take (k + 1)) w' ((HP.out.take (k + 1) hlt).keep (hb2.trans (q.mono hb2.size))) (by rw [← HSN.out, HLX.out]; omega) (by omega)
        rw [← HSN.out, HLX.out] at hh; exact hh))
      have CR := Lib.hid (fun w' b c (q : Ints .u8 w' b L c XS) => (show Calls Tryd.prog 11 #[.slice b L c] w' fun e w'' => e = .returned (.agg E) ∧ Below w'.heap.size w' w'' by rw [HE.out]; exact refSum_any b L c XS w' q HXR.out (by omega)))
      have CL := Lib.hid (fun w' (q : Below w2.heap.size w2 w') => (show Calls Tryd.prog 13 #[.pointer (some ⟨w.heap.size, 0, none⟩)] w' fun e w'' => e = .returned (.int .u64 (L : Int)) ∧ w' = w'' by
        have hh := len_any w.heap.size _ w' (H2.keep q H2.lt)
        rw [← HXS.out, HLX.out] at hh; exact hh))
      have HH := Lib.hid (fun w' (q : Below w2.heap.size w2 w') => (show HashAt w' w.heap.size (ps.take (k + 1)).flatten by rw [← HSN.out, HXS.out]; exact H2.keep q H2.lt))
      clear H2 G2 g2 hH hHd hGr hb hbd
      repeat (first
        | (refine Seq.take (v := ?_) (by kernel_rfl) (by decide +kernel) (by decide +kernel) (Or.inl ⟨by rfl, ?_⟩) ?_
           rotate_left
           focus
             intro w' hb'
             go_simp
             with_reducible rfl
           simp only [Act.put, List.setIfInBounds_toArray, List.set_cons_zero, List.set_cons_succ])
        | (refine Seq.take (v := undef) (by kernel_rfl) (by decide +kernel) (by decide +kernel) (Or.inr ⟨by rfl, rfl⟩) ?_
           simp only [Act.put, List.setIfInBounds_toArray, List.set_cons_zero, List.set_cons_succ])
        | (refine Seq.take1 (v := ?_) (by kernel_rfl) (by decide +kernel) (by decide +kernel) (Or.inl ⟨by rfl, ?_⟩) ?_
           rotate_left
           focus
             intro w' hb'
             go_simp
             with_reducible rfl
           simp only [Act.put, List.setIfInBounds_toArray, List.set_cons_zero, List.set_cons_succ])
        | (refine Seq.take1 (v := undef) (by kernel_rfl) (by decide +kernel) (by decide +kernel) (Or.inr ⟨by rfl, rfl⟩) ?_
           simp only [Act.put, List.setIfInBounds_toArray, List.set_cons_zero, List.set_cons_succ])
        | (refine Seq.take2 (v := ?_) (by kernel_rfl) (by decide +kernel) (by decide +kernel) (Or.inl ⟨by rfl, ?_⟩) ?_
           rotate_left
           focus
             intro w' hb'
             go_simp
             with_reducible rfl
           simp only [Act.put, List.setIfInBounds_toArray, List.set_cons_zero, List.set_cons_succ])
        | (refine Seq.take2 (v := undef) (by kernel_rfl) (by decide +kernel) (by decide +kernel) (Or.inr ⟨by rfl, rfl⟩) ?_
           simp only [Act.put, List.setIfInBounds_toArray, List.set_cons_zero, List.set_cons_succ])
        | (refine Seq.alone (by decide +kernel) (by rfl) (fun K hK => ?_)
           go_simp
           go_at_call 10
           refine (CS.out _ (by assumption)).mono ?_
           rintro e w3 ⟨rfl, hb3⟩
           go_simp
           refine hK _ _ (by first | assumption | exact Below.refl _ _) ?_
           clear hK K
           have hq3 : Below w2.heap.size w2 w3 := chain (by assumption) hb3
           skip)
        | (refine Seq.alone (by decide +kernel) (by rfl) (fun K hK => ?_)
           go_simp
           go_at_call 12
           refine (CJ.out _ (by assumption)).mono ?_
           rintro e w4 ⟨jb, jc, rfl, J4, hb4⟩
           go_simp
           refine hK _ _ (by first | assumption | exact Below.refl _ _) ?_
           clear hK K
           have hq4 : Below w2.heap.size w2 w4 := chain (by assumption) hb4
           skip)
        | (refine Seq.alone (by decide +kernel) (by rfl) (fun K hK => ?_)
           go_simp
           go_at_call 11
           refine (CR.out _ _ _ J4).mono ?_
           rintro e w5 ⟨rfl, hb5⟩
           go_simp
           refine hK _ _ (by first | assumption | exact Below.refl _ _) ?_
           clear hK K
           have hq5 : Below w2.heap.size w2 w5 := chain (by assumption) hb5
           skip)
        | (refine Seq.alone (by decide +kernel) (by rfl) (fun K hK => ?_)
           go_simp
           go_at_call 13
           refine (CL.out _ (by assumption)).mono ?_
           rintro e w6 ⟨rfl, rfl⟩
           go_simp
           refine hK _ _ (by first | assumption | exact Below.refl _ _) ?_
           clear hK K
           skip))
      refine Seq.done (by decide +kernel) ?_
      have hbq : Below w.heap.size w w4 := hb2.trans ((show Below w2.heap.size w2 w4 from by assumption).mono hb2.size)
      have hHq : HashAt w4 w.heap.size (ps.take (k + 1)).flatten := HH.out _ (by assumption)
      go_wp2_with fail
      go_roundw
      case rel => exact ⟨k + 1, by omega, by go_num, hHq, hbq⟩
      case measure => simp [intOf] <;> omega
    · obtain rfl : n = k := by omega
      have hge : (n : Int) ≤ (n : Int) := Int.le_refl _
      rw [List.take_of_length_le (by rw [hl.out]; exact Nat.le_refl _)] at hH
      obtain ⟨XS, hXS⟩ : ∃ XS, XS = ps.flatten := ⟨_, rfl⟩
      obtain ⟨L, hLX⟩ : ∃ L, XS.length = L := ⟨_, rfl⟩
      have hL7 : L ≤ 700 := by have h2 := HF.out; rw [← hXS, hLX] at h2; omega
      have hXR : ∀ x ∈ XS, 0 ≤ x ∧ x < 256 := by
        intro x hx
        rw [hXS] at hx
        obtain ⟨p, hp, hxp⟩ := List.mem_flatten.1 hx
        exact hr p hp x hxp
      obtain ⟨E, hE⟩ : ∃ E, E = ((shaSum XS).map (Value.int .u8)).toArray := ⟨_, rfl⟩
      have same : ∀ w, (Op.equalIn 10000 30 (.agg E) (.agg E)).run Tryd.prog w = .ok true w := by rw [hE]; exact same_id (shaSum XS) (shaSum_length _)
      have G7 : Glob wr := hG.keep hb (Nat.le_refl _)
      have HE := Lib.hid hE; have HXS := Lib.hid hXS; have HLX := Lib.hid hLX; have HXR := Lib.hid hXR
      have CF := Lib.hid (fun w' (q : Below wr.heap.size wr w') => (show Calls Tryd.prog 14 #[.slice a n cap] w' fun e w'' => e = .returned (.agg E) ∧ Below w'.heap.size w' w'' by
        rw [HE.out, HXS.out]; exact sumFn_any a n cap ps w' (HP.out.keep (hb.trans (q.mono hb.size))) hr (G7.keep q (Nat.le_refl _)) (by rw [← HXS.out, HLX.out]; omega) (by omega)))
      have CJ := Lib.hid (fun w' (q : Below wr.heap.size wr w') => (show Calls Tryd.prog 12 #[.slice a n cap] w' fun e w'' => ∃ b c, e = .returned (.slice b L c) ∧ Ints .u8 w'' b L c XS ∧ Below w'.heap.size w' w'' by
        have hh := refJoin_any a n cap ps w' (HP.out.keep (hb.trans (q.mono hb.size))) (by rw [← HXS.out, HLX.out]; omega) (by omega)
        rw [← HXS.out, HLX.out] at hh; exact hh))
      have CS := Lib.hid (fun w' (q : Below wr.heap.size wr w') => (show Calls Tryd.prog 10 #[.pointer (some ⟨w.heap.size, 0, none⟩)] w' fun e w'' => e = .returned (.agg E) ∧ Below w'.heap.size w' w'' by
        rw [HE.out, HXS.out]; exact hsum_any _ _ w' (hH.keep q hH.lt) (G7.keep q (Nat.le_refl _)) (by rw [← HXS.out, HLX.out]; omega)))
      clear hE hXS hLX hXR
      go_wp2_with fail
      refine (CF.out wr (Below.refl _ _)).mono ?_; rintro e w2 ⟨rfl, b2⟩
      go_wp2_with fail
      refine (CJ.out w2 b2).mono ?_; rintro e w3 ⟨jb, jc, rfl, J3, b3⟩
      have q3 := chain b2 b3
      go_wp2_with fail
      refine (refSum_any jb L jc XS w3 J3 HXR.out (by omega)).mono ?_; rintro e w4 ⟨rfl, b4⟩
      rw [← HE.out]
      have q4 := chain q3 b4
      clear J3 b2 b3 b4 q3
      go_wp2_with fail
      refine (CS.out w4 q4).mono ?_; rintro e w5 ⟨rfl, b5⟩
      have q5 := chain q4 b5
      go_wp2_with fail
      refine (CF.out w5 q5).mono ?_; rintro e w6 ⟨rfl, b6⟩
      have q6 := chain q5 b6
      go_wp2_with fail
      refine (alive2_any w6 (G7.keep q6 (Nat.le_refl _))).mono ?_; rintro e w7 ⟨rfl, b7⟩
      have q7 := chain q6 b7
      go_wp2_with fail
      go_ret
      exact ⟨rfl, hb.trans (q7.mono hb.size)⟩

theorem law_ShaSums (a : Option Addr) (n cap : Nat) (ps : List (List Int)) (w : World) (hG : Glob w) (hP : Parts w a n cap ps) (hr : ∀ p ∈ ps, ∀ x ∈ p, 0 ≤ x ∧ x < 256) (hb : n + ps.flatten.length ≤ 1048576) :
    Calls Tryd.prog 3 #[.slice a n cap] w fun e w' => e = .returned (.bool true) ∧ Below w.heap.size w w' :=
  shaSums_any a n cap ps w hG hP hr (by omega) (by omega)
end Go.Proofs.YtickkogmmlpagaaDoor

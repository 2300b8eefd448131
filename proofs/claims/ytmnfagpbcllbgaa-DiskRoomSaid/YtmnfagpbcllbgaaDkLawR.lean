/-
  The law DiskRoom: what is used never goes beyond the room, and a crash leaves what is used. New memory alone is written. Conditions: the calls are of the sizes that the rows' own reach gives.
-/
import Derived.Test.YtmnfagpbcllbgaaDkRoom
namespace Go.Proofs.Ytmnfagpbcllbgaa
open Go.RowKit

set_option maxRecDepth 100000 in
set_option maxHeartbeats 2000000 in
theorem law_dkroom (R : Int) (a : Option Addr) (m k : Nat) (ops : List OpD) (z : List Int) (w : World) (_ : (Lit.int .i64 R).wf = true) (hO : OpsD w a m k ops) (hsz : m ≤ 1954687338269 ∧ ∀ o ∈ ops, o.bn ≤ 140737488355328)
    (hz : z.length = 3) (_ : ∀ x ∈ z, (Lit.int .i64 x).wf = true) :
    Calls Try.prog 4 #[.agg #[.int .i64 R, .slice a m k], .agg (z.map (Value.int .i64)).toArray] w fun q w' => q = .returned (.bool true) ∧ Below w.heap.size w w' := by
  have hszH := Lib.hid hsz
  have hb0 := below1 w (.cells #[.int .i64 R, .slice a m k] 24)
  have hs0 := size1 w (.cells #[.int .i64 R, .slice a m k] 24)
  have B0 : Blk (w.alloc (.cells #[.int .i64 R, .slice a m k] 24)) w.heap.size 24 [.int .i64 R, .slice a m k] := Blk.new w 24 [.int .i64 R, .slice a m k]
  have c0 := B0.cell 0
  have c1 := B0.cell 1
  obtain ⟨W1, hW1⟩ : ∃ W1, w.alloc (.cells #[.int .i64 R, .slice a m k] 24) = W1 := ⟨_, rfl⟩
  rw [hW1] at hb0 hs0 c0 c1
  obtain ⟨Cz, hCz⟩ : ∃ Cz, z.map (Value.int .i64) = Cz := ⟨_, rfl⟩
  have hb1 := below1 W1 (.cells Cz.toArray 45)
  have hs1 := size1 W1 (.cells Cz.toArray 45)
  have IZ := row_ints W1 45 .i64 z
  rw [hCz, hs0, hz] at IZ
  obtain ⟨W, hW⟩ : ∃ W, W1.alloc (.cells Cz.toArray 45) = W := ⟨_, rfl⟩
  rw [hW] at hb1 hs1 IZ
  have hbW := hb0.trans (hb1.mono hb0.size)
  have d0 : W.cell? ⟨w.heap.size, 0, none⟩ = some (.int .i64 R) := by rw [hb1.cell (World.block_lt_of_cell? W1 _ c0)]; exact c0
  have d1 : W.cell? ⟨w.heap.size, 1, none⟩ = some (.slice a m k) := by rw [hb1.cell (World.block_lt_of_cell? W1 _ c1)]; exact c1
  have hsW : w.heap.size + 1 < W.heap.size := by omega
  have hO1 := Lib.hid (hO.keep hbW)
  have hIH := Lib.hid IZ
  have hsWH := Lib.hid hsW
  have hW1H := Lib.hid hW1
  have hWH := Lib.hid hW
  rw [hCz]
  clear B0 c0 c1 hb0 hs0 hb1 hs1 hO IZ hsW hW1 hW hz hsz hCz
  go_enter Try.func4, Try.ntmps4
  go_wp2_with (first
    | ((with_reducible refine box_row rfl 24 (.tmp 0) rfl [.int .i64 R, .slice a m k] ?_ ?_); rfl)
    | ((with_reducible refine box_row rfl 45 (.tmp 1) rfl Cz ?_ ?_); rfl; refine RowKit.Hid.out ?_))
  refine Lib.hid ?_
  have e1 := hW1H.out
  have e2 := hWH.out
  rw [show ([Value.int .i64 R, .slice a m k].toArray) = #[.int .i64 R, .slice a m k] from rfl, e1, e2]
  clear e1 e2
  by_cases hR : R < 1 ∨ 65536 < R
  · have hN := dNew_no (w := W) R hR
    go_wp2_with fail
    refine hN.mono ?_
    rintro q w1 ⟨rfl, rfl⟩
    have hsm := small18_any hO1.out hszH.out.1
    clear hN hR
    go_wp2_with fail
    refine hsm.mono ?_
    rintro q w2 ⟨b, rfl, b2⟩
    have hBL := hbW.trans (b2.mono hbW.size)
    clear hsm b2 hbW d0 d1
    cases b
    · go_wp2_with fail
      refine (alive18_any _).mono ?_
      rintro q wz ⟨rfl, bz⟩
      have hBz := hBL.trans (bz.mono hBL.size)
      clear bz hBL
      go_wp2
      go_ret
      exact ⟨rfl, hBz⟩
    · go_wp2_with fail
      refine (alive18_any _).mono ?_
      rintro q wz ⟨rfl, bz⟩
      have hBz := hBL.trans (bz.mono hBL.size)
      clear bz hBL
      go_wp2
      go_ret
      exact ⟨rfl, hBz⟩
  · have hN := new_own (w := W) R (by omega)
    have o0 := Lib.hid (dk0_ok R (by omega))
    clear hR
    go_wp2_with fail
    refine hN.mono ?_
    rintro q w1 ⟨g, rfl, h1⟩
    have d1' : w1.cell? ⟨w.heap.size, 1, none⟩ = some (.slice a m k) := by rw [h1.b.cell (World.block_lt_of_cell? W _ d1)]; exact d1
    have hsm := small18_any (hO1.out.keep h1.b) hszH.out.1
    clear hN
    go_wp2_with fail
    refine hsm.mono ?_
    rintro q w2 ⟨b, rfl, b2⟩
    have h2 := h1.keep b2
    have hBL := hbW.trans (h2.b.mono hbW.size)
    have d2' : w2.cell? ⟨w.heap.size, 1, none⟩ = some (.slice a m k) := by rw [b2.cell (World.block_lt_of_cell? w1 _ d1')]; exact d1'
    clear hsm b2 d1' h1
    cases b
    · clear d2' h2
      go_wp2_with fail
      refine (alive18_any _).mono ?_
      rintro q wz ⟨rfl, bz⟩
      have hBz := hBL.trans (bz.mono hBL.size)
      clear bz hBL
      go_wp2
      go_ret
      exact ⟨rfl, hBz⟩
    · have d1H := Lib.hid d1
      have d0H := Lib.hid d0
      clear hBL d1 d0
      go_wp2_with fail
      go_loopw [27] (fun i wr => ∃ j : Nat, j ≤ m ∧ i = .int .i64 j ∧ ∃ D, D.Ok (0 + j) ∧ D.room = R ∧ DkOwn W.heap.size W wr g D) (fun i _ => m - (intOf i).toNat)
      case atStart => exact ⟨0, Nat.zero_le _, rfl, _, o0.out, rfl, h2⟩
      case round =>
        clear h2 d2'
        obtain ⟨j, hj, rfl, D, hOk, hrm, h3⟩ := hrel
        by_cases hlt : j < m
        · have hji : (j : Int) < (m : Int) := by omega
          have hmb : (m : Int) ≤ 1954687338269 := by have := hszH.out.1; omega
          have hkc := hO1.out.cap
          have hjk : (j : Int) + 1 ≤ (k : Int) := by omega
          have hkj : ¬ k - j = 0 := by omega
          have hkj2 : j + 1 - j = 1 := by omega
          obtain ⟨b, off, rfl⟩ : ∃ b off, a = some ⟨b, off, none⟩ := by
            rcases hO1.out.at' with h0 | ⟨b, off, ha, _⟩
            · omega
            · exact ⟨b, off, ha⟩
          obtain ⟨o, hsub⟩ := hO1.out.sub j hlt
          have dr : wr.cell? ⟨w.heap.size, 1, none⟩ = some (.slice (some ⟨b, off, none⟩) m k) := by rw [h3.b.cell (World.block_lt_of_cell? W _ d1H.out)]; exact d1H.out
          have hp := play18_room h3 hOk hsub (by have := hszH.out.1; omega) (by decide)
          have hltH := Lib.hid hlt
          rw [hrm] at hp
          clear hsub hkc hj hOk h3 hlt hrm
          go_wp2_with fail
          refine hp.mono ?_
          rintro q w4 ⟨rfl, D1, hOk, hrm, h4⟩
          have hcl := own_clone h4 hOk (by have := hszH.out.1; have := hltH.out; omega)
          clear hp dr
          go_wp2_with fail
          refine hcl.mono ?_
          rintro q w5 ⟨gc, rfl, hc5⟩
          have hb5 := hc5.b
          have h5 := h4.keep hb5
          have hI5 := (hIH.out.keep h4.b).keep hb5
          have hcr := own_crash hc5 (Below.refl _ _) hOk (by have := hszH.out.1; have := hltH.out; omega) hI5 (fun x hx _ => .inr (by injection hx with hx; have := h4.s; have := hsWH.out; rw [← hx]; show w.heap.size + 1 < w4.heap.size; omega))
          have oc := crD_ok hOk z
          obtain ⟨m1, m2, m3, m4⟩ := room_math hOk z
          obtain ⟨E, hE⟩ : ∃ E, crD D1 z = E := ⟨_, rfl⟩
          rw [hE] at hcr oc m3 m4
          rw [hrm] at m1
          have h4H := Lib.hid h4
          have ocH := Lib.hid oc
          have hOkH := Lib.hid hOk
          have hrmH := Lib.hid hrm
          have mH := Lib.hid (And.intro m1 (And.intro m2 (And.intro m3 m4)))
          clear hcl hI5 hE oc h4 hOk m1 m2 m3 m4 h5 hb5 hrm
          go_wp2_with fail
          refine hcr.mono ?_
          rintro q w6 ⟨rfl, hc6⟩
          have h6 := h4H.out.keep hc6.b
          have d6 : w6.cell? ⟨w.heap.size, 0, none⟩ = some (.int .i64 R) := by rw [h6.b.cell (World.block_lt_of_cell? W _ d0H.out)]; exact d0H.out
          clear hcr hc5
          go_wp2_with fail
          obtain ⟨NU, hNU⟩ : ∃ n, D1.used = n := ⟨_, rfl⟩
          obtain ⟨NV, hNV⟩ : ∃ n, E.used = n := ⟨_, rfl⟩
          obtain ⟨s0, hs0⟩ : ∃ n, (D1.f 0).held.length = n := ⟨_, rfl⟩
          obtain ⟨s1, hs1⟩ : ∃ n, (D1.f 1).held.length = n := ⟨_, rfl⟩
          obtain ⟨s2, hs2⟩ : ∃ n, (D1.f 2).held.length = n := ⟨_, rfl⟩
          obtain ⟨r0, hr0⟩ : ∃ n, (E.f 0).held.length = n := ⟨_, rfl⟩
          obtain ⟨r1, hr1⟩ : ∃ n, (E.f 1).held.length = n := ⟨_, rfl⟩
          obtain ⟨r2, hr2⟩ : ∃ n, (E.f 2).held.length = n := ⟨_, rfl⟩
          have U := Lib.hid (fun w' (h : Below w6.heap.size w6 w') => own_usedL (h6.keep h) hOkH.out NU hNU)
          have V := Lib.hid (fun w' (h : Below w6.heap.size w6 w') => own_usedL (hc6.keep h) ocH.out NV hNV)
          have Z0 := Lib.hid (fun w' (h : Below w6.heap.size w6 w') => own_sizeL (h6.keep h) hOkH.out 0 (by decide) 0 rfl s0 hs0)
          have Z1 := Lib.hid (fun w' (h : Below w6.heap.size w6 w') => own_sizeL (h6.keep h) hOkH.out 1 (by decide) 1 rfl s1 hs1)
          have Z2 := Lib.hid (fun w' (h : Below w6.heap.size w6 w') => own_sizeL (h6.keep h) hOkH.out 2 (by decide) 2 rfl s2 hs2)
          have Y0 := Lib.hid (fun w' (h : Below w6.heap.size w6 w') => own_sizeL (hc6.keep h) ocH.out 0 (by decide) 0 rfl r0 hr0)
          have Y1 := Lib.hid (fun w' (h : Below w6.heap.size w6 w') => own_sizeL (hc6.keep h) ocH.out 1 (by decide) 1 rfl r1 hr1)
          have Y2 := Lib.hid (fun w' (h : Below w6.heap.size w6 w') => own_sizeL (hc6.keep h) ocH.out 2 (by decide) 2 rfl r2 hr2)
          have dd := Lib.hid (fun w' (h : Below w6.heap.size w6 w') => show w'.cell? ⟨w.heap.size, 0, none⟩ = some (.int .i64 R) by rw [h.cell (World.block_lt_of_cell? w6 _ d6)]; exact d6)
          obtain ⟨m1, m2, m3, m4⟩ := mH.out
          rw [hNU] at m1 m2 m3
          rw [hNV] at m3 m4
          rw [hs0, hs1, hs2] at m2
          rw [hr0, hr1, hr2] at m4
          have hRb := (hrmH.out ▸ hOkH.out.room : 1 ≤ R ∧ R ≤ 65536)
          obtain ⟨g1, v1, v2, g2, g3, v3, v4, g4⟩ := room_nums R NU NV s0 s1 s2 r0 r1 r2 hRb.2 m1 m2 m3 m4
          have g3n : decide (NU < NV) = false := decide_eq_false (Nat.not_lt.2 m3)
          have g3p : ¬ NU < NV := Nat.not_lt.2 m3
          have h6H := Lib.hid h6
          clear m1 m2 m3 m4 hNU hNV hs0 hs1 hs2 hr0 hr1 hr2 d6 hc6 hRb
          have b3 : Below w6.heap.size w6 w6.drew := (Below.refl _ _).drew
          refine region_seqS (fun w' => Below w6.heap.size w6 w') (by kernel_rfl) b3 ?_
          simp only [pairs, Nat.reduceAdd]
          repeat (first
            | (refine SeqS.take (v := ?_) (by first | assumption | trivial) (by kernel_rfl) (by decide +kernel) (by decide +kernel) (Or.inl ⟨by rfl, ?_⟩) ?_
               rotate_left
               focus
                 intro w' hb'
                 go_simp
                 with_reducible rfl
               simp only [Act.put, List.setIfInBounds_toArray, List.set_cons_zero, List.set_cons_succ])
            | (refine SeqS.take (v := ?_) (by first | assumption | trivial) (by kernel_rfl) (by decide +kernel) (by decide +kernel) (Or.inl ⟨by rfl, ?_⟩) ?_
               rotate_left
               focus
                 intro w' hb'
                 have d0 := dd.out w' hb'
                 go_simp
                 with_reducible rfl
               simp only [Act.put, List.setIfInBounds_toArray, List.set_cons_zero, List.set_cons_succ])
            | (refine SeqS.take (v := undef) (by first | assumption | trivial) (by kernel_rfl) (by decide +kernel) (by decide +kernel) (Or.inr ⟨by rfl, rfl⟩) ?_
               simp only [Act.put, List.setIfInBounds_toArray, List.set_cons_zero, List.set_cons_succ])
            | (refine SeqS.take1 (v := ?_) (by first | assumption | trivial) (by kernel_rfl) (by decide +kernel) (by decide +kernel) (Or.inl ⟨by rfl, ?_⟩) ?_
               rotate_left
               focus
                 intro w' hb'
                 go_simp
                 with_reducible rfl
               simp only [Act.put, List.setIfInBounds_toArray, List.set_cons_zero, List.set_cons_succ])
            | (refine SeqS.take1 (v := ?_) (by first | assumption | trivial) (by kernel_rfl) (by decide +kernel) (by decide +kernel) (Or.inl ⟨by rfl, ?_⟩) ?_
               rotate_left
               focus
                 intro w' hb'
                 have d0 := dd.out w' hb'
                 go_simp
                 with_reducible rfl
               simp only [Act.put, List.setIfInBounds_toArray, List.set_cons_zero, List.set_cons_succ])
            | (refine SeqS.take1 (v := undef) (by first | assumption | trivial) (by kernel_rfl) (by decide +kernel) (by decide +kernel) (Or.inr ⟨by rfl, rfl⟩) ?_
               simp only [Act.put, List.setIfInBounds_toArray, List.set_cons_zero, List.set_cons_succ])
            | (refine SeqS.take2 (v := ?_) (by first | assumption | trivial) (by kernel_rfl) (by decide +kernel) (by decide +kernel) (Or.inl ⟨by rfl, ?_⟩) ?_
               rotate_left
               focus
                 intro w' hb'
                 go_simp
                 with_reducible rfl
               simp only [Act.put, List.setIfInBounds_toArray, List.set_cons_zero, List.set_cons_succ])
            | (refine SeqS.take2 (v := ?_) (by first | assumption | trivial) (by kernel_rfl) (by decide +kernel) (by decide +kernel) (Or.inl ⟨by rfl, ?_⟩) ?_
               rotate_left
               focus
                 intro w' hb'
                 have d0 := dd.out w' hb'
                 go_simp
                 with_reducible rfl
               simp only [Act.put, List.setIfInBounds_toArray, List.set_cons_zero, List.set_cons_succ])
            | (refine SeqS.take2 (v := undef) (by first | assumption | trivial) (by kernel_rfl) (by decide +kernel) (by decide +kernel) (Or.inr ⟨by rfl, rfl⟩) ?_
               simp only [Act.put, List.setIfInBounds_toArray, List.set_cons_zero, List.set_cons_succ]))
          refine SeqS.alone (by decide +kernel) (by rfl) (fun K hK => ?_)
          go_simp
          go_at_call 13
          refine (U.out _ b3).mono ?_
          rintro e w10 ⟨rfl, b10⟩
          go_simp
          have S10 : Below w6.heap.size w6 w10 := b3.trans (b10.mono b3.size)
          refine hK _ _ S10 ?_
          clear hK K
          repeat (first
            | (refine SeqS.take (v := ?_) (by first | assumption | trivial) (by kernel_rfl) (by decide +kernel) (by decide +kernel) (Or.inl ⟨by rfl, ?_⟩) ?_
               rotate_left
               focus
                 intro w' hb'
                 go_simp
                 with_reducible rfl
               simp only [Act.put, List.setIfInBounds_toArray, List.set_cons_zero, List.set_cons_succ])
            | (refine SeqS.take (v := undef) (by first | assumption | trivial) (by kernel_rfl) (by decide +kernel) (by decide +kernel) (Or.inr ⟨by rfl, rfl⟩) ?_
               simp only [Act.put, List.setIfInBounds_toArray, List.set_cons_zero, List.set_cons_succ])
            | (refine SeqS.take1 (v := ?_) (by first | assumption | trivial) (by kernel_rfl) (by decide +kernel) (by decide +kernel) (Or.inl ⟨by rfl, ?_⟩) ?_
               rotate_left
               focus
                 intro w' hb'
                 go_simp
                 with_reducible rfl
               simp only [Act.put, List.setIfInBounds_toArray, List.set_cons_zero, List.set_cons_succ])
            | (refine SeqS.take1 (v := undef) (by first | assumption | trivial) (by kernel_rfl) (by decide +kernel) (by decide +kernel) (Or.inr ⟨by rfl, rfl⟩) ?_
               simp only [Act.put, List.setIfInBounds_toArray, List.set_cons_zero, List.set_cons_succ])
            | (refine SeqS.take2 (v := ?_) (by first | assumption | trivial) (by kernel_rfl) (by decide +kernel) (by decide +kernel) (Or.inl ⟨by rfl, ?_⟩) ?_
               rotate_left
               focus
                 intro w' hb'
                 go_simp
                 with_reducible rfl
               simp only [Act.put, List.setIfInBounds_toArray, List.set_cons_zero, List.set_cons_succ])
            | (refine SeqS.take2 (v := undef) (by first | assumption | trivial) (by kernel_rfl) (by decide +kernel) (by decide +kernel) (Or.inr ⟨by rfl, rfl⟩) ?_
               simp only [Act.put, List.setIfInBounds_toArray, List.set_cons_zero, List.set_cons_succ])
            | (refine SeqS.take3 (v := ?_) (by first | assumption | trivial) (by kernel_rfl) (by decide +kernel) (by decide +kernel) (Or.inl ⟨by rfl, ?_⟩) ?_
               rotate_left
               focus
                 intro w' hb'
                 go_simp
                 with_reducible rfl
               simp only [Act.put, List.setIfInBounds_toArray, List.set_cons_zero, List.set_cons_succ])
            | (refine SeqS.take3 (v := undef) (by first | assumption | trivial) (by kernel_rfl) (by decide +kernel) (by decide +kernel) (Or.inr ⟨by rfl, rfl⟩) ?_
               simp only [Act.put, List.setIfInBounds_toArray, List.set_cons_zero, List.set_cons_succ])
            | (refine SeqS.take4 (v := ?_) (by first | assumption | trivial) (by kernel_rfl) (by decide +kernel) (by decide +kernel) (Or.inl ⟨by rfl, ?_⟩) ?_
               rotate_left
               focus
                 intro w' hb'
                 go_simp
                 with_reducible rfl
               simp only [Act.put, List.setIfInBounds_toArray, List.set_cons_zero, List.set_cons_succ])
            | (refine SeqS.take4 (v := undef) (by first | assumption | trivial) (by kernel_rfl) (by decide +kernel) (by decide +kernel) (Or.inr ⟨by rfl, rfl⟩) ?_
               simp only [Act.put, List.setIfInBounds_toArray, List.set_cons_zero, List.set_cons_succ])
            | (refine SeqS.take5 (v := ?_) (by first | assumption | trivial) (by kernel_rfl) (by decide +kernel) (by decide +kernel) (Or.inl ⟨by rfl, ?_⟩) ?_
               rotate_left
               focus
                 intro w' hb'
                 go_simp
                 with_reducible rfl
               simp only [Act.put, List.setIfInBounds_toArray, List.set_cons_zero, List.set_cons_succ])
            | (refine SeqS.take5 (v := undef) (by first | assumption | trivial) (by kernel_rfl) (by decide +kernel) (by decide +kernel) (Or.inr ⟨by rfl, rfl⟩) ?_
               simp only [Act.put, List.setIfInBounds_toArray, List.set_cons_zero, List.set_cons_succ])
            | (refine SeqS.take6 (v := ?_) (by first | assumption | trivial) (by kernel_rfl) (by decide +kernel) (by decide +kernel) (Or.inl ⟨by rfl, ?_⟩) ?_
               rotate_left
               focus
                 intro w' hb'
                 go_simp
                 with_reducible rfl
               simp only [Act.put, List.setIfInBounds_toArray, List.set_cons_zero, List.set_cons_succ])
            | (refine SeqS.take6 (v := undef) (by first | assumption | trivial) (by kernel_rfl) (by decide +kernel) (by decide +kernel) (Or.inr ⟨by rfl, rfl⟩) ?_
               simp only [Act.put, List.setIfInBounds_toArray, List.set_cons_zero, List.set_cons_succ]))
          refine SeqS.alone (by decide +kernel) (by rfl) (fun K hK => ?_)
          go_simp
          go_at_call 14
          refine (Z0.out _ S10).mono ?_
          rintro e w11 ⟨rfl, b11⟩
          go_simp
          have S11 : Below w6.heap.size w6 w11 := S10.trans (b11.mono S10.size)
          refine hK _ _ S11 ?_
          clear hK K
          repeat (first
            | (refine SeqS.take (v := ?_) (by first | assumption | trivial) (by kernel_rfl) (by decide +kernel) (by decide +kernel) (Or.inl ⟨by rfl, ?_⟩) ?_
               rotate_left
               focus
                 intro w' hb'
                 go_simp
                 with_reducible rfl
               simp only [Act.put, List.setIfInBounds_toArray, List.set_cons_zero, List.set_cons_succ])
            | (refine SeqS.take (v := undef) (by first | assumption | trivial) (by kernel_rfl) (by decide +kernel) (by decide +kernel) (Or.inr ⟨by rfl, rfl⟩) ?_
               simp only [Act.put, List.setIfInBounds_toArray, List.set_cons_zero, List.set_cons_succ])
            | (refine SeqS.take1 (v := ?_) (by first | assumption | trivial) (by kernel_rfl) (by decide +kernel) (by decide +kernel) (Or.inl ⟨by rfl, ?_⟩) ?_
               rotate_left
               focus
                 intro w' hb'
                 go_simp
                 with_reducible rfl
               simp only [Act.put, List.setIfInBounds_toArray, List.set_cons_zero, List.set_cons_succ])
            | (refine SeqS.take1 (v := undef) (by first | assumption | trivial) (by kernel_rfl) (by decide +kernel) (by decide +kernel) (Or.inr ⟨by rfl, rfl⟩) ?_
               simp only [Act.put, List.setIfInBounds_toArray, List.set_cons_zero, List.set_cons_succ])
            | (refine SeqS.take2 (v := ?_) (by first | assumption | trivial) (by kernel_rfl) (by decide +kernel) (by decide +kernel) (Or.inl ⟨by rfl, ?_⟩) ?_
               rotate_left
               focus
                 intro w' hb'
                 go_simp
                 with_reducible rfl
               simp only [Act.put, List.setIfInBounds_toArray, List.set_cons_zero, List.set_cons_succ])
            | (refine SeqS.take2 (v := undef) (by first | assumption | trivial) (by kernel_rfl) (by decide +kernel) (by decide +kernel) (Or.inr ⟨by rfl, rfl⟩) ?_
               simp only [Act.put, List.setIfInBounds_toArray, List.set_cons_zero, List.set_cons_succ]))
          refine SeqS.alone (by decide +kernel) (by rfl) (fun K hK => ?_)
          go_simp
          go_at_call 14
          refine (Z1.out _ S11).mono ?_
          rintro e w12 ⟨rfl, b12⟩
          go_simp
          have S12 : Below w6.heap.size w6 w12 := S11.trans (b12.mono S11.size)
          refine hK _ _ S12 ?_
          clear hK K
          repeat (first
            | (refine SeqS.take (v := ?_) (by first | assumption | trivial) (by kernel_rfl) (by decide +kernel) (by decide +kernel) (Or.inl ⟨by rfl, ?_⟩) ?_
               rotate_left
               focus
                 intro w' hb'
                 go_simp
                 with_reducible rfl
               simp only [Act.put, List.setIfInBounds_toArray, List.set_cons_zero, List.set_cons_succ])
            | (refine SeqS.take (v := undef) (by first | assumption | trivial) (by kernel_rfl) (by decide +kernel) (by decide +kernel) (Or.inr ⟨by rfl, rfl⟩) ?_
               simp only [Act.put, List.setIfInBounds_toArray, List.set_cons_zero, List.set_cons_succ])
            | (refine SeqS.take1 (v := ?_) (by first | assumption | trivial) (by kernel_rfl) (by decide +kernel) (by decide +kernel) (Or.inl ⟨by rfl, ?_⟩) ?_
               rotate_left
               focus
                 intro w' hb'
                 go_simp
                 with_reducible rfl
               simp only [Act.put, List.setIfInBounds_toArray, List.set_cons_zero, List.set_cons_succ])
            | (refine SeqS.take1 (v := undef) (by first | assumption | trivial) (by kernel_rfl) (by decide +kernel) (by decide +kernel) (Or.inr ⟨by rfl, rfl⟩) ?_
               simp only [Act.put, List.setIfInBounds_toArray, List.set_cons_zero, List.set_cons_succ])
            | (refine SeqS.take2 (v := ?_) (by first | assumption | trivial) (by kernel_rfl) (by decide +kernel) (by decide +kernel) (Or.inl ⟨by rfl, ?_⟩) ?_
               rotate_left
               focus
                 intro w' hb'
                 go_simp
                 with_reducible rfl
               simp only [Act.put, List.setIfInBounds_toArray, List.set_cons_zero, List.set_cons_succ])
            | (refine SeqS.take2 (v := undef) (by first | assumption | trivial) (by kernel_rfl) (by decide +kernel) (by decide +kernel) (Or.inr ⟨by rfl, rfl⟩) ?_
               simp only [Act.put, List.setIfInBounds_toArray, List.set_cons_zero, List.set_cons_succ]))
          refine SeqS.alone (by decide +kernel) (by rfl) (fun K hK => ?_)
          go_simp
          go_at_call 14
          refine (Z2.out _ S12).mono ?_
          rintro e w13 ⟨rfl, b13⟩
          go_simp
          have S13 : Below w6.heap.size w6 w13 := S12.trans (b13.mono S12.size)
          refine hK _ _ S13 ?_
          clear hK K
          repeat (first
            | (refine SeqS.take (v := ?_) (by first | assumption | trivial) (by kernel_rfl) (by decide +kernel) (by decide +kernel) (Or.inl ⟨by rfl, ?_⟩) ?_
               rotate_left
               focus
                 intro w' hb'
                 go_simp
                 with_reducible rfl
               simp only [Act.put, List.setIfInBounds_toArray, List.set_cons_zero, List.set_cons_succ])
            | (refine SeqS.take (v := undef) (by first | assumption | trivial) (by kernel_rfl) (by decide +kernel) (by decide +kernel) (Or.inr ⟨by rfl, rfl⟩) ?_
               simp only [Act.put, List.setIfInBounds_toArray, List.set_cons_zero, List.set_cons_succ])
            | (refine SeqS.take1 (v := ?_) (by first | assumption | trivial) (by kernel_rfl) (by decide +kernel) (by decide +kernel) (Or.inl ⟨by rfl, ?_⟩) ?_
               rotate_left
               focus
                 intro w' hb'
                 go_simp
                 with_reducible rfl
               simp only [Act.put, List.setIfInBounds_toArray, List.set_cons_zero, List.set_cons_succ])
            | (refine SeqS.take1 (v := undef) (by first | assumption | trivial) (by kernel_rfl) (by decide +kernel) (by decide +kernel) (Or.inr ⟨by rfl, rfl⟩) ?_
               simp only [Act.put, List.setIfInBounds_toArray, List.set_cons_zero, List.set_cons_succ])
            | (refine SeqS.take2 (v := ?_) (by first | assumption | trivial) (by kernel_rfl) (by decide +kernel) (by decide +kernel) (Or.inl ⟨by rfl, ?_⟩) ?_
               rotate_left
               focus
                 intro w' hb'
                 go_simp
                 with_reducible rfl
               simp only [Act.put, List.setIfInBounds_toArray, List.set_cons_zero, List.set_cons_succ])
            | (refine SeqS.take2 (v := undef) (by first | assumption | trivial) (by kernel_rfl) (by decide +kernel) (by decide +kernel) (Or.inr ⟨by rfl, rfl⟩) ?_
               simp only [Act.put, List.setIfInBounds_toArray, List.set_cons_zero, List.set_cons_succ]))
          refine SeqS.alone (by decide +kernel) (by rfl) (fun K hK => ?_)
          go_simp
          go_at_call 13
          refine (U.out _ S13).mono ?_
          rintro e w14 ⟨rfl, b14⟩
          go_simp
          have S14 : Below w6.heap.size w6 w14 := S13.trans (b14.mono S13.size)
          refine hK _ _ S14 ?_
          clear hK K
          repeat (first
            | (refine SeqS.take (v := ?_) (by first | assumption | trivial) (by kernel_rfl) (by decide +kernel) (by decide +kernel) (Or.inl ⟨by rfl, ?_⟩) ?_
               rotate_left
               focus
                 intro w' hb'
                 go_simp
                 with_reducible rfl
               simp only [Act.put, List.setIfInBounds_toArray, List.set_cons_zero, List.set_cons_succ])
            | (refine SeqS.take (v := undef) (by first | assumption | trivial) (by kernel_rfl) (by decide +kernel) (by decide +kernel) (Or.inr ⟨by rfl, rfl⟩) ?_
               simp only [Act.put, List.setIfInBounds_toArray, List.set_cons_zero, List.set_cons_succ])
            | (refine SeqS.take1 (v := ?_) (by first | assumption | trivial) (by kernel_rfl) (by decide +kernel) (by decide +kernel) (Or.inl ⟨by rfl, ?_⟩) ?_
               rotate_left
               focus
                 intro w' hb'
                 go_simp
                 with_reducible rfl
               simp only [Act.put, List.setIfInBounds_toArray, List.set_cons_zero, List.set_cons_succ])
            | (refine SeqS.take1 (v := undef) (by first | assumption | trivial) (by kernel_rfl) (by decide +kernel) (by decide +kernel) (Or.inr ⟨by rfl, rfl⟩) ?_
               simp only [Act.put, List.setIfInBounds_toArray, List.set_cons_zero, List.set_cons_succ])
            | (refine SeqS.take2 (v := ?_) (by first | assumption | trivial) (by kernel_rfl) (by decide +kernel) (by decide +kernel) (Or.inl ⟨by rfl, ?_⟩) ?_
               rotate_left
               focus
                 intro w' hb'
                 go_simp
                 with_reducible rfl
               simp only [Act.put, List.setIfInBounds_toArray, List.set_cons_zero, List.set_cons_succ])
            | (refine SeqS.take2 (v := undef) (by first | assumption | trivial) (by kernel_rfl) (by decide +kernel) (by decide +kernel) (Or.inr ⟨by rfl, rfl⟩) ?_
               simp only [Act.put, List.setIfInBounds_toArray, List.set_cons_zero, List.set_cons_succ])
            | (refine SeqS.take3 (v := ?_) (by first | assumption | trivial) (by kernel_rfl) (by decide +kernel) (by decide +kernel) (Or.inl ⟨by rfl, ?_⟩) ?_
               rotate_left
               focus
                 intro w' hb'
                 go_simp
                 with_reducible rfl
               simp only [Act.put, List.setIfInBounds_toArray, List.set_cons_zero, List.set_cons_succ])
            | (refine SeqS.take3 (v := undef) (by first | assumption | trivial) (by kernel_rfl) (by decide +kernel) (by decide +kernel) (Or.inr ⟨by rfl, rfl⟩) ?_
               simp only [Act.put, List.setIfInBounds_toArray, List.set_cons_zero, List.set_cons_succ])
            | (refine SeqS.take4 (v := ?_) (by first | assumption | trivial) (by kernel_rfl) (by decide +kernel) (by decide +kernel) (Or.inl ⟨by rfl, ?_⟩) ?_
               rotate_left
               focus
                 intro w' hb'
                 go_simp
                 with_reducible rfl
               simp only [Act.put, List.setIfInBounds_toArray, List.set_cons_zero, List.set_cons_succ])
            | (refine SeqS.take4 (v := undef) (by first | assumption | trivial) (by kernel_rfl) (by decide +kernel) (by decide +kernel) (Or.inr ⟨by rfl, rfl⟩) ?_
               simp only [Act.put, List.setIfInBounds_toArray, List.set_cons_zero, List.set_cons_succ])
            | (refine SeqS.take5 (v := ?_) (by first | assumption | trivial) (by kernel_rfl) (by decide +kernel) (by decide +kernel) (Or.inl ⟨by rfl, ?_⟩) ?_
               rotate_left
               focus
                 intro w' hb'
                 go_simp
                 with_reducible rfl
               simp only [Act.put, List.setIfInBounds_toArray, List.set_cons_zero, List.set_cons_succ])
            | (refine SeqS.take5 (v := undef) (by first | assumption | trivial) (by kernel_rfl) (by decide +kernel) (by decide +kernel) (Or.inr ⟨by rfl, rfl⟩) ?_
               simp only [Act.put, List.setIfInBounds_toArray, List.set_cons_zero, List.set_cons_succ])
            | (refine SeqS.take6 (v := ?_) (by first | assumption | trivial) (by kernel_rfl) (by decide +kernel) (by decide +kernel) (Or.inl ⟨by rfl, ?_⟩) ?_
               rotate_left
               focus
                 intro w' hb'
                 go_simp
                 with_reducible rfl
               simp only [Act.put, List.setIfInBounds_toArray, List.set_cons_zero, List.set_cons_succ])
            | (refine SeqS.take6 (v := undef) (by first | assumption | trivial) (by kernel_rfl) (by decide +kernel) (by decide +kernel) (Or.inr ⟨by rfl, rfl⟩) ?_
               simp only [Act.put, List.setIfInBounds_toArray, List.set_cons_zero, List.set_cons_succ]))
          refine SeqS.alone (by decide +kernel) (by rfl) (fun K hK => ?_)
          go_simp
          go_at_call 13
          refine (V.out _ S14).mono ?_
          rintro e w15 ⟨rfl, b15⟩
          go_simp
          have S15 : Below w6.heap.size w6 w15 := S14.trans (b15.mono S14.size)
          refine hK _ _ S15 ?_
          clear hK K
          repeat (first
            | (refine SeqS.take (v := ?_) (by first | assumption | trivial) (by kernel_rfl) (by decide +kernel) (by decide +kernel) (Or.inl ⟨by rfl, ?_⟩) ?_
               rotate_left
               focus
                 intro w' hb'
                 go_simp
                 with_reducible rfl
               simp only [Act.put, List.setIfInBounds_toArray, List.set_cons_zero, List.set_cons_succ])
            | (refine SeqS.take (v := undef) (by first | assumption | trivial) (by kernel_rfl) (by decide +kernel) (by decide +kernel) (Or.inr ⟨by rfl, rfl⟩) ?_
               simp only [Act.put, List.setIfInBounds_toArray, List.set_cons_zero, List.set_cons_succ])
            | (refine SeqS.take1 (v := ?_) (by first | assumption | trivial) (by kernel_rfl) (by decide +kernel) (by decide +kernel) (Or.inl ⟨by rfl, ?_⟩) ?_
               rotate_left
               focus
                 intro w' hb'
                 go_simp
                 with_reducible rfl
               simp only [Act.put, List.setIfInBounds_toArray, List.set_cons_zero, List.set_cons_succ])
            | (refine SeqS.take1 (v := undef) (by first | assumption | trivial) (by kernel_rfl) (by decide +kernel) (by decide +kernel) (Or.inr ⟨by rfl, rfl⟩) ?_
               simp only [Act.put, List.setIfInBounds_toArray, List.set_cons_zero, List.set_cons_succ])
            | (refine SeqS.take2 (v := ?_) (by first | assumption | trivial) (by kernel_rfl) (by decide +kernel) (by decide +kernel) (Or.inl ⟨by rfl, ?_⟩) ?_
               rotate_left
               focus
                 intro w' hb'
                 go_simp
                 with_reducible rfl
               simp only [Act.put, List.setIfInBounds_toArray, List.set_cons_zero, List.set_cons_succ])
            | (refine SeqS.take2 (v := undef) (by first | assumption | trivial) (by kernel_rfl) (by decide +kernel) (by decide +kernel) (Or.inr ⟨by rfl, rfl⟩) ?_
               simp only [Act.put, List.setIfInBounds_toArray, List.set_cons_zero, List.set_cons_succ]))
          refine SeqS.alone (by decide +kernel) (by rfl) (fun K hK => ?_)
          go_simp
          go_at_call 13
          refine (U.out _ S15).mono ?_
          rintro e w16 ⟨rfl, b16⟩
          go_simp
          have S16 : Below w6.heap.size w6 w16 := S15.trans (b16.mono S15.size)
          refine hK _ _ S16 ?_
          clear hK K
          repeat (first
            | (refine SeqS.take (v := ?_) (by first | assumption | trivial) (by kernel_rfl) (by decide +kernel) (by decide +kernel) (Or.inl ⟨by rfl, ?_⟩) ?_
               rotate_left
               focus
                 intro w' hb'
                 go_simp
                 with_reducible rfl
               simp only [Act.put, List.setIfInBounds_toArray, List.set_cons_zero, List.set_cons_succ])
            | (refine SeqS.take (v := undef) (by first | assumption | trivial) (by kernel_rfl) (by decide +kernel) (by decide +kernel) (Or.inr ⟨by rfl, rfl⟩) ?_
               simp only [Act.put, List.setIfInBounds_toArray, List.set_cons_zero, List.set_cons_succ])
            | (refine SeqS.take1 (v := ?_) (by first | assumption | trivial) (by kernel_rfl) (by decide +kernel) (by decide +kernel) (Or.inl ⟨by rfl, ?_⟩) ?_
               rotate_left
               focus
                 intro w' hb'
                 go_simp
                 with_reducible rfl
               simp only [Act.put, List.setIfInBounds_toArray, List.set_cons_zero, List.set_cons_succ])
            | (refine SeqS.take1 (v := undef) (by first | assumption | trivial) (by kernel_rfl) (by decide +kernel) (by decide +kernel) (Or.inr ⟨by rfl, rfl⟩) ?_
               simp only [Act.put, List.setIfInBounds_toArray, List.set_cons_zero, List.set_cons_succ])
            | (refine SeqS.take2 (v := ?_) (by first | assumption | trivial) (by kernel_rfl) (by decide +kernel) (by decide +kernel) (Or.inl ⟨by rfl, ?_⟩) ?_
               rotate_left
               focus
                 intro w' hb'
                 go_simp
                 with_reducible rfl
               simp only [Act.put, List.setIfInBounds_toArray, List.set_cons_zero, List.set_cons_succ])
            | (refine SeqS.take2 (v := undef) (by first | assumption | trivial) (by kernel_rfl) (by decide +kernel) (by decide +kernel) (Or.inr ⟨by rfl, rfl⟩) ?_
               simp only [Act.put, List.setIfInBounds_toArray, List.set_cons_zero, List.set_cons_succ])
            | (refine SeqS.take3 (v := ?_) (by first | assumption | trivial) (by kernel_rfl) (by decide +kernel) (by decide +kernel) (Or.inl ⟨by rfl, ?_⟩) ?_
               rotate_left
               focus
                 intro w' hb'
                 go_simp
                 with_reducible rfl
               simp only [Act.put, List.setIfInBounds_toArray, List.set_cons_zero, List.set_cons_succ])
            | (refine SeqS.take3 (v := undef) (by first | assumption | trivial) (by kernel_rfl) (by decide +kernel) (by decide +kernel) (Or.inr ⟨by rfl, rfl⟩) ?_
               simp only [Act.put, List.setIfInBounds_toArray, List.set_cons_zero, List.set_cons_succ])
            | (refine SeqS.take4 (v := ?_) (by first | assumption | trivial) (by kernel_rfl) (by decide +kernel) (by decide +kernel) (Or.inl ⟨by rfl, ?_⟩) ?_
               rotate_left
               focus
                 intro w' hb'
                 go_simp
                 with_reducible rfl
               simp only [Act.put, List.setIfInBounds_toArray, List.set_cons_zero, List.set_cons_succ])
            | (refine SeqS.take4 (v := undef) (by first | assumption | trivial) (by kernel_rfl) (by decide +kernel) (by decide +kernel) (Or.inr ⟨by rfl, rfl⟩) ?_
               simp only [Act.put, List.setIfInBounds_toArray, List.set_cons_zero, List.set_cons_succ])
            | (refine SeqS.take5 (v := ?_) (by first | assumption | trivial) (by kernel_rfl) (by decide +kernel) (by decide +kernel) (Or.inl ⟨by rfl, ?_⟩) ?_
               rotate_left
               focus
                 intro w' hb'
                 go_simp
                 with_reducible rfl
               simp only [Act.put, List.setIfInBounds_toArray, List.set_cons_zero, List.set_cons_succ])
            | (refine SeqS.take5 (v := undef) (by first | assumption | trivial) (by kernel_rfl) (by decide +kernel) (by decide +kernel) (Or.inr ⟨by rfl, rfl⟩) ?_
               simp only [Act.put, List.setIfInBounds_toArray, List.set_cons_zero, List.set_cons_succ])
            | (refine SeqS.take6 (v := ?_) (by first | assumption | trivial) (by kernel_rfl) (by decide +kernel) (by decide +kernel) (Or.inl ⟨by rfl, ?_⟩) ?_
               rotate_left
               focus
                 intro w' hb'
                 go_simp
                 with_reducible rfl
               simp only [Act.put, List.setIfInBounds_toArray, List.set_cons_zero, List.set_cons_succ])
            | (refine SeqS.take6 (v := undef) (by first | assumption | trivial) (by kernel_rfl) (by decide +kernel) (by decide +kernel) (Or.inr ⟨by rfl, rfl⟩) ?_
               simp only [Act.put, List.setIfInBounds_toArray, List.set_cons_zero, List.set_cons_succ]))
          refine SeqS.alone (by decide +kernel) (by rfl) (fun K hK => ?_)
          go_simp
          go_at_call 14
          refine (Y0.out _ S16).mono ?_
          rintro e w17 ⟨rfl, b17⟩
          go_simp
          have S17 : Below w6.heap.size w6 w17 := S16.trans (b17.mono S16.size)
          refine hK _ _ S17 ?_
          clear hK K
          repeat (first
            | (refine SeqS.take (v := ?_) (by first | assumption | trivial) (by kernel_rfl) (by decide +kernel) (by decide +kernel) (Or.inl ⟨by rfl, ?_⟩) ?_
               rotate_left
               focus
                 intro w' hb'
                 go_simp
                 with_reducible rfl
               simp only [Act.put, List.setIfInBounds_toArray, List.set_cons_zero, List.set_cons_succ])
            | (refine SeqS.take (v := undef) (by first | assumption | trivial) (by kernel_rfl) (by decide +kernel) (by decide +kernel) (Or.inr ⟨by rfl, rfl⟩) ?_
               simp only [Act.put, List.setIfInBounds_toArray, List.set_cons_zero, List.set_cons_succ])
            | (refine SeqS.take1 (v := ?_) (by first | assumption | trivial) (by kernel_rfl) (by decide +kernel) (by decide +kernel) (Or.inl ⟨by rfl, ?_⟩) ?_
               rotate_left
               focus
                 intro w' hb'
                 go_simp
                 with_reducible rfl
               simp only [Act.put, List.setIfInBounds_toArray, List.set_cons_zero, List.set_cons_succ])
            | (refine SeqS.take1 (v := undef) (by first | assumption | trivial) (by kernel_rfl) (by decide +kernel) (by decide +kernel) (Or.inr ⟨by rfl, rfl⟩) ?_
               simp only [Act.put, List.setIfInBounds_toArray, List.set_cons_zero, List.set_cons_succ])
            | (refine SeqS.take2 (v := ?_) (by first | assumption | trivial) (by kernel_rfl) (by decide +kernel) (by decide +kernel) (Or.inl ⟨by rfl, ?_⟩) ?_
               rotate_left
               focus
                 intro w' hb'
                 go_simp
                 with_reducible rfl
               simp only [Act.put, List.setIfInBounds_toArray, List.set_cons_zero, List.set_cons_succ])
            | (refine SeqS.take2 (v := undef) (by first | assumption | trivial) (by kernel_rfl) (by decide +kernel) (by decide +kernel) (Or.inr ⟨by rfl, rfl⟩) ?_
               simp only [Act.put, List.setIfInBounds_toArray, List.set_cons_zero, List.set_cons_succ]))
          refine SeqS.alone (by decide +kernel) (by rfl) (fun K hK => ?_)
          go_simp
          go_at_call 14
          refine (Y1.out _ S17).mono ?_
          rintro e w18 ⟨rfl, b18⟩
          go_simp
          have S18 : Below w6.heap.size w6 w18 := S17.trans (b18.mono S17.size)
          refine hK _ _ S18 ?_
          clear hK K
          repeat (first
            | (refine SeqS.take (v := ?_) (by first | assumption | trivial) (by kernel_rfl) (by decide +kernel) (by decide +kernel) (Or.inl ⟨by rfl, ?_⟩) ?_
               rotate_left
               focus
                 intro w' hb'
                 go_simp
                 with_reducible rfl
               simp only [Act.put, List.setIfInBounds_toArray, List.set_cons_zero, List.set_cons_succ])
            | (refine SeqS.take (v := undef) (by first | assumption | trivial) (by kernel_rfl) (by decide +kernel) (by decide +kernel) (Or.inr ⟨by rfl, rfl⟩) ?_
               simp only [Act.put, List.setIfInBounds_toArray, List.set_cons_zero, List.set_cons_succ])
            | (refine SeqS.take1 (v := ?_) (by first | assumption | trivial) (by kernel_rfl) (by decide +kernel) (by decide +kernel) (Or.inl ⟨by rfl, ?_⟩) ?_
               rotate_left
               focus
                 intro w' hb'
                 go_simp
                 with_reducible rfl
               simp only [Act.put, List.setIfInBounds_toArray, List.set_cons_zero, List.set_cons_succ])
            | (refine SeqS.take1 (v := undef) (by first | assumption | trivial) (by kernel_rfl) (by decide +kernel) (by decide +kernel) (Or.inr ⟨by rfl, rfl⟩) ?_
               simp only [Act.put, List.setIfInBounds_toArray, List.set_cons_zero, List.set_cons_succ])
            | (refine SeqS.take2 (v := ?_) (by first | assumption | trivial) (by kernel_rfl) (by decide +kernel) (by decide +kernel) (Or.inl ⟨by rfl, ?_⟩) ?_
               rotate_left
               focus
                 intro w' hb'
                 go_simp
                 with_reducible rfl
               simp only [Act.put, List.setIfInBounds_toArray, List.set_cons_zero, List.set_cons_succ])
            | (refine SeqS.take2 (v := undef) (by first | assumption | trivial) (by kernel_rfl) (by decide +kernel) (by decide +kernel) (Or.inr ⟨by rfl, rfl⟩) ?_
               simp only [Act.put, List.setIfInBounds_toArray, List.set_cons_zero, List.set_cons_succ]))
          refine SeqS.alone (by decide +kernel) (by rfl) (fun K hK => ?_)
          go_simp
          go_at_call 14
          refine (Y2.out _ S18).mono ?_
          rintro e w19 ⟨rfl, b19⟩
          go_simp
          have S19 : Below w6.heap.size w6 w19 := S18.trans (b19.mono S18.size)
          refine hK _ _ S19 ?_
          clear hK K
          repeat (first
            | (refine SeqS.take (v := ?_) (by first | assumption | trivial) (by kernel_rfl) (by decide +kernel) (by decide +kernel) (Or.inl ⟨by rfl, ?_⟩) ?_
               rotate_left
               focus
                 intro w' hb'
                 go_simp
                 with_reducible rfl
               simp only [Act.put, List.setIfInBounds_toArray, List.set_cons_zero, List.set_cons_succ])
            | (refine SeqS.take (v := undef) (by first | assumption | trivial) (by kernel_rfl) (by decide +kernel) (by decide +kernel) (Or.inr ⟨by rfl, rfl⟩) ?_
               simp only [Act.put, List.setIfInBounds_toArray, List.set_cons_zero, List.set_cons_succ])
            | (refine SeqS.take1 (v := ?_) (by first | assumption | trivial) (by kernel_rfl) (by decide +kernel) (by decide +kernel) (Or.inl ⟨by rfl, ?_⟩) ?_
               rotate_left
               focus
                 intro w' hb'
                 go_simp
                 with_reducible rfl
               simp only [Act.put, List.setIfInBounds_toArray, List.set_cons_zero, List.set_cons_succ])
            | (refine SeqS.take1 (v := undef) (by first | assumption | trivial) (by kernel_rfl) (by decide +kernel) (by decide +kernel) (Or.inr ⟨by rfl, rfl⟩) ?_
               simp only [Act.put, List.setIfInBounds_toArray, List.set_cons_zero, List.set_cons_succ])
            | (refine SeqS.take2 (v := ?_) (by first | assumption | trivial) (by kernel_rfl) (by decide +kernel) (by decide +kernel) (Or.inl ⟨by rfl, ?_⟩) ?_
               rotate_left
               focus
                 intro w' hb'
                 go_simp
                 with_reducible rfl
               simp only [Act.put, List.setIfInBounds_toArray, List.set_cons_zero, List.set_cons_succ])
            | (refine SeqS.take2 (v := undef) (by first | assumption | trivial) (by kernel_rfl) (by decide +kernel) (by decide +kernel) (Or.inr ⟨by rfl, rfl⟩) ?_
               simp only [Act.put, List.setIfInBounds_toArray, List.set_cons_zero, List.set_cons_succ]))
          refine SeqS.alone (by decide +kernel) (by rfl) (fun K hK => ?_)
          go_simp
          go_at_call 13
          refine (V.out _ S19).mono ?_
          rintro e w20 ⟨rfl, b20⟩
          go_simp
          have S20 : Below w6.heap.size w6 w20 := S19.trans (b20.mono S19.size)
          refine hK _ _ S20 ?_
          clear hK K
          repeat (first
            | (refine SeqS.take (v := ?_) (by first | assumption | trivial) (by kernel_rfl) (by decide +kernel) (by decide +kernel) (Or.inl ⟨by rfl, ?_⟩) ?_
               rotate_left
               focus
                 intro w' hb'
                 go_simp
                 with_reducible rfl
               simp only [Act.put, List.setIfInBounds_toArray, List.set_cons_zero, List.set_cons_succ])
            | (refine SeqS.take (v := undef) (by first | assumption | trivial) (by kernel_rfl) (by decide +kernel) (by decide +kernel) (Or.inr ⟨by rfl, rfl⟩) ?_
               simp only [Act.put, List.setIfInBounds_toArray, List.set_cons_zero, List.set_cons_succ])
            | (refine SeqS.take1 (v := ?_) (by first | assumption | trivial) (by kernel_rfl) (by decide +kernel) (by decide +kernel) (Or.inl ⟨by rfl, ?_⟩) ?_
               rotate_left
               focus
                 intro w' hb'
                 go_simp
                 with_reducible rfl
               simp only [Act.put, List.setIfInBounds_toArray, List.set_cons_zero, List.set_cons_succ])
            | (refine SeqS.take1 (v := undef) (by first | assumption | trivial) (by kernel_rfl) (by decide +kernel) (by decide +kernel) (Or.inr ⟨by rfl, rfl⟩) ?_
               simp only [Act.put, List.setIfInBounds_toArray, List.set_cons_zero, List.set_cons_succ])
            | (refine SeqS.take2 (v := ?_) (by first | assumption | trivial) (by kernel_rfl) (by decide +kernel) (by decide +kernel) (Or.inl ⟨by rfl, ?_⟩) ?_
               rotate_left
               focus
                 intro w' hb'
                 go_simp
                 with_reducible rfl
               simp only [Act.put, List.setIfInBounds_toArray, List.set_cons_zero, List.set_cons_succ])
            | (refine SeqS.take2 (v := undef) (by first | assumption | trivial) (by kernel_rfl) (by decide +kernel) (by decide +kernel) (Or.inr ⟨by rfl, rfl⟩) ?_
               simp only [Act.put, List.setIfInBounds_toArray, List.set_cons_zero, List.set_cons_succ]))
          refine SeqS.done (by decide +kernel) ?_
          have h7 := h6H.out.keep S20
          clear b3 b10 b11 b12 b13 b14 b15 b16 b17 b18 b19 b20 S10 S11 S12 S13 S14 S15 S16 S17 S18 S19 S20 U V Z0 Z1 Z2 Y0 Y1 Y2 dd h6 h6H
          go_wp2_with fail
          exact ⟨⟨j + 1, by have := hltH.out; omega, by congr 1, D1, hOkH.out, hrmH.out, h7⟩, by simp only [intOf]; have := hltH.out; omega⟩
        · obtain rfl : j = m := by omega
          have hBL := hbW.trans (h3.b.mono hbW.size)
          clear h3 hOk hrm
          go_wp2_with fail
          refine (alive18_any _).mono ?_
          rintro q wz ⟨rfl, bz⟩
          have hBz := hBL.trans (bz.mono hBL.size)
          clear bz hBL
          go_wp2
          go_ret
          exact ⟨rfl, hBz⟩
end Go.Proofs.Ytmnfagpbcllbgaa

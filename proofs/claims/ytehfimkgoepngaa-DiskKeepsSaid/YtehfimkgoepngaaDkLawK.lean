/-
  The law DiskKeeps: what a crash leaves of one append behind a sync. New memory alone is written. Conditions: the calls and the bytes are of the sizes that the rows' own reach gives.
-/
import Derived.Test.YtehfimkgoepngaaDkPlay
import Derived.Test.YtehfimkgoepngaaRowOps
import Derived.Test.YtehfimkgoepngaaHexStr
namespace Go.Proofs.Ytehfimkgoepngaa
open Go.RowKit

theorem syD_fine {D : DkV} (h : (syD D 1).2 = 0) : (syD D 1).1.down = false ∧ (syD D 1).1.f1 = ⟨(D.f 1).held, []⟩ := by
  have hno : ¬ noFile 1 := by decide
  unfold syD at h ⊢
  rw [if_neg hno] at h ⊢
  by_cases h1 : D.down = true
  · rw [if_pos h1] at h
    cases h
  · rw [if_neg h1] at h ⊢
    by_cases h2 : D.burn.down = true
    · rw [if_pos h2] at h
      cases h
    · rw [if_neg h2]
      exact ⟨by cases hq : D.burn.down with
        | true => exact absurd hq h2
        | false => exact hq, rfl⟩
theorem settle_put (H b : List Int) (u : Nat) (hu : u ≤ b.length) : FlV.settle ⟨H, [.put b]⟩ u = ⟨H ++ b.take u, []⟩ := by
  have h := doneL_snoc [] H (.put b) u
  rw [List.nil_append] at h
  unfold FlV.settle
  rw [show doneL H [.put b] u = _ from h]
  have h2 : min (u - unitsL []) (StV.put b).units = u := by
    show min (u - 0) b.length = u
    omega
  rw [h2]
  rfl
theorem keeps_math {E X : DkV} {e : Int} {H : List Int} (hd : E.down = false) (h1 : E.f1 = ⟨H, []⟩) (b : List Int) (z : Int) (ha : apD E 1 b = (X, e)) :
    (e = 17 ∧ (crD X [0, z]).f1 = ⟨H, []⟩) ∨ ((e = 0 ∨ e = 18) ∧ (crD X [0, z]).f1 = ⟨H ++ b.take (z % ((b.length : Int) + 1)).toNat, []⟩) := by
  have hno : ¬ noFile 1 := by decide
  unfold apD at ha
  rw [if_neg hno, if_neg (by rw [hd]; decide)] at ha
  split at ha
  · cases ha
    refine .inl ⟨rfl, ?_⟩
    show E.f1.settle _ = _
    rw [h1]
    rfl
  · cases ha
    refine .inr ⟨?_, ?_⟩
    · unfold DkV.ans
      split
      · exact .inr rfl
      · exact .inl rfl
    · have hf : (E.set (1 : Int).toNat ((E.f (1 : Int).toNat).step (.put b))).burn.f1 = ⟨H, [.put b]⟩ := by
        have hf0 : (E.set (1 : Int).toNat ((E.f (1 : Int).toNat).step (.put b))).f1 = E.f1.step (.put b) := rfl
        have hf1 : (E.set (1 : Int).toNat ((E.f (1 : Int).toNat).step (.put b))).burn.f1 = (E.set (1 : Int).toNat ((E.f (1 : Int).toNat).step (.put b))).f1 := by unfold DkV.burn; split <;> rfl
        rw [hf1, hf0, h1]
        rfl
      show (E.set (1 : Int).toNat ((E.f (1 : Int).toNat).step (.put b))).burn.f1.settle (leftU (E.set (1 : Int).toNat ((E.f (1 : Int).toNat).step (.put b))).burn.f1 [0, z] 1) = _
      rw [hf]
      have hl : leftU ⟨H, [.put b]⟩ [0, z] 1 = (z % ((b.length : Int) + 1)).toNat := by
        unfold leftU
        rw [if_pos (by simp)]
        show (z % (((b.length + 0 : Nat) : Int) + 1)).toNat = _
        rw [Nat.add_zero]
      rw [hl, settle_put]
      have h3 := Int.emod_lt_of_pos z (show (0 : Int) < (b.length : Int) + 1 by omega)
      omega
theorem str_size18 (xs : List Int) : (strOfNums xs).size = xs.length := by
  unfold strOfNums
  simp [ByteArray.size]
theorem ints_pre {kd : IntKind} {w : World} {a : Option Addr} {n c : Nat} {xs : List Int} (h : Ints kd w a n c xs) {u : Nat} (hu : u ≤ n) : Ints kd w a u c (xs.take u) := by
  obtain ⟨h1, h2, h3⟩ := h
  refine ⟨by rw [List.length_take]; omega, by omega, ?_⟩
  rcases h3 with h0 | ⟨b, off, ha, hc⟩
  · exact .inl (by omega)
  · refine .inr ⟨b, off, ha, fun i hi => ?_⟩
    rw [hc i (by omega), List.getD_eq_getElem?_getD, List.getD_eq_getElem?_getD, List.getElem?_take_of_lt hi]
theorem idx18 (z : Int) (n : Nat) (hn : n ≤ 300) : ∃ u : Nat, u ≤ n ∧ (z % ((n : Int) + 1)).toNat = u ∧ (wrap64 (wrap64 (z.tmod ((n : Int) + 1) + (n : Int)) + 1)).tmod ((n : Int) + 1) = (u : Int) := by
  have hnn := Int.emod_nonneg z (show ((n : Int) + 1) ≠ 0 by omega)
  have hnl := Int.emod_lt_of_pos z (show (0 : Int) < (n : Int) + 1 by omega)
  have htm := Int.tmod_eq_emod (a := z) (b := (n : Int) + 1)
  have hem := Int.emod_eq_of_lt hnn hnl
  obtain ⟨e, he⟩ : ∃ e, z % ((n : Int) + 1) = e := ⟨_, rfl⟩
  obtain ⟨t, ht⟩ : ∃ t, z.tmod ((n : Int) + 1) = t := ⟨_, rfl⟩
  rw [he] at hnn hnl htm hem
  rw [ht] at htm
  rw [he, ht]
  clear he ht
  have hna : ((n : Int) + 1).natAbs = n + 1 := by omega
  rw [hna] at htm
  refine ⟨e.toNat, by omega, rfl, ?_⟩
  have hr : -((n : Int) + 1) ≤ t ∧ t ≤ n := by split at htm <;> omega
  rw [show wrap64 (t + (n : Int)) = t + (n : Int) by unfold wrap64; omega, show wrap64 (t + (n : Int) + 1) = t + (n : Int) + 1 by unfold wrap64; omega, Int.tmod_eq_emod_of_nonneg (by omega)]
  split at htm
  · rw [show t + (n : Int) + 1 = e + ((n : Int) + 1) by omega, Int.add_emod_right, hem]
    omega
  · rw [show t + (n : Int) + 1 = e by omega, hem]
    omega

set_option maxRecDepth 100000 in
set_option maxHeartbeats 2000000 in
theorem law_dkkeeps (R : Int) (a : Option Addr) (m k : Nat) (ops : List OpD) (ba : Option Addr) (n c : Nat) (bs : List Int) (z : Int) (w : World) (_ : (Lit.int .i64 R).wf = true) (hO : OpsD w a m k ops) (hsz : m ≤ 1954687338269 ∧ ∀ o ∈ ops, o.bn ≤ 140737488355328)
    (hI : Ints .u8 w ba n c bs) (_ : ∀ x ∈ bs, (Lit.int .u8 x).wf = true) (_ : c ≤ maxLen) (hz : (Lit.int .i64 z).wf = true) :
    Calls Try.prog 4 #[.agg #[.int .i64 R, .slice a m k], .slice ba n c, .int .i64 z] w fun q w' => q = .returned (.bool true) ∧ Below w.heap.size w w' := by
  have hszH := Lib.hid hsz
  have hzb : -9223372036854775808 ≤ z ∧ z < 9223372036854775808 := by
    simp [Lit.wf, IntKind.min, IntKind.max, IntKind.signed, IntKind.bits] at hz
    omega
  have hzH := Lib.hid hzb
  clear hsz hz hzb
  have B0 : Blk (w.alloc (.cells #[.int .i64 R, .slice a m k] 24)) w.heap.size 24 [.int .i64 R, .slice a m k] := Blk.new w 24 [.int .i64 R, .slice a m k]
  have hb0 := below1 w (.cells #[.int .i64 R, .slice a m k] 24)
  have hs0 := size1 w (.cells #[.int .i64 R, .slice a m k] 24)
  obtain ⟨W, hW⟩ : ∃ W, w.alloc (.cells #[.int .i64 R, .slice a m k] 24) = W := ⟨_, rfl⟩
  rw [hW] at B0 hb0 hs0
  have hO1 := Lib.hid (hO.keep hb0)
  have hI1 := Lib.hid (hI.keep hb0)
  have hWH := Lib.hid hW
  have c0 : W.cell? ⟨w.heap.size, 0, none⟩ = some (.int .i64 R) := B0.cell 0
  have c1 : W.cell? ⟨w.heap.size, 1, none⟩ = some (.slice a m k) := B0.cell 1
  have hs0H := Lib.hid hs0
  clear hO hI hW B0 hs0
  go_enter Try.func4, Try.ntmps4
  go_wp2_with ((with_reducible refine box_row rfl 24 (.tmp 0) rfl [.int .i64 R, .slice a m k] ?_ ?_); rfl; refine RowKit.Hid.out ?_)
  refine Lib.hid ?_
  have hW2 := hWH.out
  rw [show ([Value.int .i64 R, .slice a m k].toArray) = #[.int .i64 R, .slice a m k] from rfl, hW2]
  clear hW2
  by_cases hR : R < 1 ∨ 65536 < R
  · have hN := dNew_no (w := W) R hR
    go_wp2_with fail
    refine hN.mono ?_
    rintro q w1 ⟨rfl, rfl⟩
    have hsm := small18_any hO1.out hszH.out.1
    clear hN hR
    go_wp2_with fail
    refine hsm.mono ?_
    rintro q w2 ⟨b, rfl, b2⟩
    have hBL := hb0.trans (b2.mono hb0.size)
    clear hsm b2 hb0 c0 c1
    cases b
    · go_wp2_with fail
      refine (alive18_any _).mono ?_
      rintro q wz ⟨rfl, bz⟩
      have hBz := hBL.trans (bz.mono hBL.size)
      clear bz hBL
      go_wp2
      go_ret
      exact ⟨rfl, hBz⟩
    · by_cases hn3 : n ≤ 300
      · have hn3i : ¬ (300 : Int) < (n : Int) := by omega
        go_wp2_with fail
        refine (alive18_any _).mono ?_
        rintro q wz ⟨rfl, bz⟩
        have hBz := hBL.trans (bz.mono hBL.size)
        clear bz hBL
        go_wp2
        go_ret
        exact ⟨rfl, hBz⟩
      · have hn3i : (300 : Int) < (n : Int) := by omega
        go_wp2_with fail
        refine (alive18_any _).mono ?_
        rintro q wz ⟨rfl, bz⟩
        have hBz := hBL.trans (bz.mono hBL.size)
        clear bz hBL
        go_wp2
        go_ret
        exact ⟨rfl, hBz⟩
  · have hN := new_own (w := W) R (by omega)
    have o0 := Lib.hid (dk0_ok R (by omega))
    clear hR
    go_wp2_with fail
    refine hN.mono ?_
    rintro q w1 ⟨g, rfl, h1⟩
    have c1' : w1.cell? ⟨w.heap.size, 1, none⟩ = some (.slice a m k) := by rw [h1.b.cell (World.block_lt_of_cell? W _ c1)]; exact c1
    have hsm := small18_any (hO1.out.keep h1.b) hszH.out.1
    clear hN c0
    go_wp2_with fail
    refine hsm.mono ?_
    rintro q w2 ⟨b, rfl, b2⟩
    have h2 := h1.keep b2
    have hBL := hb0.trans (h2.b.mono hb0.size)
    have c2' : w2.cell? ⟨w.heap.size, 1, none⟩ = some (.slice a m k) := by rw [b2.cell (World.block_lt_of_cell? w1 _ c1')]; exact c1'
    clear hsm b2 c1 c1' h1
    cases b
    · clear c2' h2 hb0
      go_wp2_with fail
      refine (alive18_any _).mono ?_
      rintro q wz ⟨rfl, bz⟩
      have hBz := hBL.trans (bz.mono hBL.size)
      clear bz hBL
      go_wp2
      go_ret
      exact ⟨rfl, hBz⟩
    · by_cases hn3 : n ≤ 300
      · have hn3i : ¬ (300 : Int) < (n : Int) := by omega
        have hp := play18_any h2 o0.out hO1.out (by have := hszH.out.1; omega) hszH.out.1
        clear hBL
        go_wp2_with fail
        refine hp.mono ?_
        rintro q w3 ⟨rfl, D, hOk, h3⟩
        clear hp h2 c2'
        have hT : 0 + m + 1 < 4398046511104 := by have := hszH.out.1; omega
        have hy := own_sync (file := 1) h3 hOk (by omega)
        have oE := syD_ok hOk 1
        have hfine := syD_fine (D := D)
        obtain ⟨e, he⟩ : ∃ e, (syD D 1).2 = e := ⟨_, rfl⟩
        obtain ⟨E, hE⟩ : ∃ E, (syD D 1).1 = E := ⟨_, rfl⟩
        rw [he] at hy hfine
        rw [hE] at hy oE hfine
        clear h3 he hE hOk
        go_wp2_with fail
        refine hy.mono ?_
        rintro q w4 ⟨rfl, h4⟩
        clear hy
        by_cases he0 : e = 0
        · subst he0
          obtain ⟨hd, hf1⟩ := hfine rfl
          obtain ⟨H, hH⟩ : ∃ H, (D.f 1).held = H := ⟨_, rfl⟩
          rw [hH] at hf1
          have hrd := own_read h4 oE 1 (by decide)
          have hh : (E.f 1).held = H := by show E.f1.held = H; rw [hf1]; rfl
          rw [hh] at hrd
          have hHl : H.length ≤ 65536 := by
            have h1 := (oE.f 1).need
            rw [show E.f 1 = E.f1 from rfl, hf1] at h1
            exact h1
          have hHlH := Lib.hid hHl
          clear hHl
          have hfH := Lib.hid hf1
          have hdH := Lib.hid hd
          have oEH := Lib.hid oE
          have hTH := Lib.hid hT
          have hh4 := h4
          clear hfine hH hh hd hf1 oE hT
          go_wp2_with fail
          refine hrd.mono ?_
          rintro q w5 ⟨ra, rc, rfl, ho, b5⟩
          have hstr := (own_ints' ho).string (P := Try.prog) 31 9 5 Try.underlying31 Try.underlying5 Try.underlying9
          have h5 := h4.keep b5
          have hap := own_append (file := 1) h5 oEH.out (by have := hTH.out; omega) (hI1.out.keep h5.b)
          have oX := apD_ok oEH.out 1 bs
          have hkm := fun X e => keeps_math (X := X) (e := e) hdH.out hfH.out bs z
          obtain ⟨X, e, hXe⟩ : ∃ X e, apD E 1 bs = (X, e) := ⟨_, _, rfl⟩
          have hkm := hkm X e hXe
          rw [hXe] at hap oX
          have oXH := Lib.hid oX
          have hkH := Lib.hid hkm
          clear hrd ho b5 h4 hh4 hXe oX hkm h5
          go_wp2_with fail
          refine hap.mono ?_
          rintro q w6 ⟨rfl, h6⟩
          have b6 := below1 w6 (.cells #[.int .i64 0, .int .i64 z] 3)
          have I6 := row_ints w6 3 .i64 [0, z]
          have hcr := own_crash h6 b6 oXH.out (by have := hTH.out; omega) I6 (fun x hx _ => .inl (by injection hx with hx; rw [← hx]; exact Nat.le_refl _))
          have oY := crD_ok oXH.out [0, z]
          have hYd : (crD X [0, z]).down = false := rfl
          have hYf : (crD X [0, z]).fuse = 0 := rfl
          have hk2 := hkH.out
          obtain ⟨Y, hY⟩ : ∃ Y, crD X [0, z] = Y := ⟨_, rfl⟩
          rw [hY] at hcr oY hYd hYf hk2
          have oYH := Lib.hid oY
          have hYdH := Lib.hid hYd
          have hYfH := Lib.hid hYf
          have hk2H := Lib.hid hk2
          clear hap b6 I6 hY hstr oY hYd hYf hk2 h6 hkH
          go_wp2_with fail
          refine hcr.mono ?_
          rintro q w7 ⟨rfl, h7⟩
          clear hcr
          have hrd := own_read h7 oYH.out 1 (by decide)
          go_wp2_with fail
          rcases hk2H.out with ⟨he, hf⟩ | ⟨he, hf⟩
          · subst he
            have hh : (Y.f 1).held = H := by show Y.f1.held = H; rw [hf]; rfl
            rw [hh] at hrd
            clear hf hh
            refine hrd.mono ?_
            rintro q w8 ⟨sa, sc, rfl, ho, b8⟩
            have hstr := (own_ints' ho).string (P := Try.prog) 31 9 5 Try.underlying31 Try.underlying5 Try.underlying9
            have h8 := h7.keep b8
            have hBL := hb0.trans (h8.b.mono hb0.size)
            clear ho b8 h7 hrd h8
            go_wp2_with fail
            refine (alive18_any _).mono ?_
            rintro q wz ⟨rfl, bz⟩
            have hBz := hBL.trans (bz.mono hBL.size)
            clear bz hBL
            go_wp2
            go_ret
            exact ⟨rfl, hBz⟩
          · have hln0 := hI1.out.len
            obtain ⟨u, hul, hu, hidx⟩ := idx18 z n hn3
            have huli : (u : Int) ≤ (n : Int) := by omega
            have hcl := hI1.out.2.1
            have hcli : (n : Int) ≤ (c : Int) := by omega
            rw [hln0, hu] at hf
            have hulH := Lib.hid hul
            clear hln0 hul hcl hu
            obtain ⟨G, hG⟩ : ∃ G, H ++ bs.take u = G := ⟨_, rfl⟩
            rw [hG] at hf
            have hh : (Y.f 1).held = G := by show Y.f1.held = _; rw [hf]; rfl
            have hK : (Y.f 1).K = G := by show Y.f1.K = _; rw [hf]
            have hGH := Lib.hid hG
            rw [hh] at hrd
            have hKH := Lib.hid hK
            clear hf hh hK hG
            refine hrd.mono ?_
            rintro q w8 ⟨sa, sc, rfl, ho, b8⟩
            have hstr := (own_ints' ho).string (P := Try.prog) 31 9 5 Try.underlying31 Try.underlying5 Try.underlying9
            have h8 := h7.keep b8
            have hI8 := hI1.out.keep h8.b
            clear ho b8 h7 hrd
            rcases he with he | he
            · subst he
              by_cases hn0 : n = 0
              · have hbs : bs = [] := List.eq_nil_of_length_eq_zero (by have := hI1.out.len; omega)
                subst hn0
                have hGG := hGH.out
                rw [hbs, List.take_nil, List.append_nil] at hGG
                subst hGG
                have hBL := hb0.trans (h8.b.mono hb0.size)
                clear h8 hI8
                go_wp2_with fail
                refine (alive18_any _).mono ?_
                rintro q wz ⟨rfl, bz⟩
                have hBz := hBL.trans (bz.mono hBL.size)
                clear bz hBL
                go_wp2
                go_ret
                exact ⟨rfl, hBz⟩
              · have hn0i : ¬ (n : Int) = 0 := by omega
                have hI9 : Ints .u8 w8 ba u c (bs.take u) := ints_pre hI8 hulH.out
                obtain ⟨Bu, hBu⟩ : ∃ Bu, bs.take u = Bu := ⟨_, rfl⟩
                have hcat : strOfNums H ++ strOfNums Bu = strOfNums G := by rw [str_append, ← hBu, hGH.out]
                rw [hBu] at hI9
                have hsz1 : (strOfNums H).size ≤ 65536 := by rw [str_size18]; exact hHlH.out
                have hsz2 : (strOfNums Bu).size ≤ 300 := by rw [str_size18, hI9.len]; have := hulH.out; omega
                have hstr2 := hI9.string (P := Try.prog) 31 9 5 Try.underlying31 Try.underlying5 Try.underlying9
                have hr := oYH.out.room
                obtain ⟨L8, P8, k8, _⟩ := h8.is
                obtain ⟨d0, df, dd⟩ := k8.cells
                rw [hYfH.out] at df
                rw [hYdH.out] at dd
                have hDn := dDown_any d0 (by omega) dd
                have hFu := dFuse_any d0 (by omega) df
                obtain ⟨x0, x1, x2, k9⟩ := k8
                have hKp := dKept_any k9 oYH.out 1 (by decide)
                rw [hKH.out] at hKp
                clear d0 df dd k9 hr hI9 hBu hI8
                go_wp2_with fail
                refine hDn.mono ?_
                rintro q w9 ⟨rfl, rfl⟩
                go_wp2_with fail
                refine hFu.mono ?_
                rintro q w9 ⟨rfl, rfl⟩
                go_wp2_with fail
                refine hKp.mono ?_
                rintro q w9 ⟨ka, kc, rfl, ho, b9⟩
                have hstr3 := (own_ints' ho).string (P := Try.prog) 31 9 5 Try.underlying31 Try.underlying5 Try.underlying9
                have hBL := hb0.trans ((h8.keep b9).b.mono hb0.size)
                clear ho b9 h8 hKp hDn hFu
                go_wp2_with fail
                refine (alive18_any _).mono ?_
                rintro q wz ⟨rfl, bz⟩
                have hBz := hBL.trans (bz.mono hBL.size)
                clear bz hBL
                go_wp2
                go_ret
                exact ⟨rfl, hBz⟩
            · subst he
              have hI9 : Ints .u8 w8 ba u c (bs.take u) := ints_pre hI8 hulH.out
              obtain ⟨Bu, hBu⟩ : ∃ Bu, bs.take u = Bu := ⟨_, rfl⟩
              have hcat : strOfNums H ++ strOfNums Bu = strOfNums G := by rw [str_append, ← hBu, hGH.out]
              rw [hBu] at hI9
              have hsz1 : (strOfNums H).size ≤ 65536 := by rw [str_size18]; exact hHlH.out
              have hsz2 : (strOfNums Bu).size ≤ 300 := by rw [str_size18, hI9.len]; have := hulH.out; omega
              have hstr2 := hI9.string (P := Try.prog) 31 9 5 Try.underlying31 Try.underlying5 Try.underlying9
              have hr := oYH.out.room
              obtain ⟨L8, P8, k8, _⟩ := h8.is
              obtain ⟨d0, df, dd⟩ := k8.cells
              rw [hYfH.out] at df
              rw [hYdH.out] at dd
              have hDn := dDown_any d0 (by omega) dd
              have hFu := dFuse_any d0 (by omega) df
              obtain ⟨x0, x1, x2, k9⟩ := k8
              have hKp := dKept_any k9 oYH.out 1 (by decide)
              rw [hKH.out] at hKp
              clear d0 df dd k9 hr hI9 hBu hI8
              go_wp2_with fail
              refine hDn.mono ?_
              rintro q w9 ⟨rfl, rfl⟩
              go_wp2_with fail
              refine hFu.mono ?_
              rintro q w9 ⟨rfl, rfl⟩
              go_wp2_with fail
              refine hKp.mono ?_
              rintro q w9 ⟨ka, kc, rfl, ho, b9⟩
              have hstr3 := (own_ints' ho).string (P := Try.prog) 31 9 5 Try.underlying31 Try.underlying5 Try.underlying9
              have hBL := hb0.trans ((h8.keep b9).b.mono hb0.size)
              clear ho b9 h8 hKp hDn hFu
              go_wp2_with fail
              refine (alive18_any _).mono ?_
              rintro q wz ⟨rfl, bz⟩
              have hBz := hBL.trans (bz.mono hBL.size)
              clear bz hBL
              go_wp2
              go_ret
              exact ⟨rfl, hBz⟩
        · clear hfine oE hT
          have hBL := hb0.trans (h4.b.mono hb0.size)
          clear h4
          go_wp2_with fail
          refine (alive18_any _).mono ?_
          rintro q wz ⟨rfl, bz⟩
          have hBz := hBL.trans (bz.mono hBL.size)
          clear bz hBL
          go_wp2
          go_ret
          exact ⟨rfl, hBz⟩
      · have hn3i : (300 : Int) < (n : Int) := by omega
        clear c2' h2 hb0
        go_wp2_with fail
        refine (alive18_any _).mono ?_
        rintro q wz ⟨rfl, bz⟩
        have hBz := hBL.trans (bz.mono hBL.size)
        clear bz hBL
        go_wp2
        go_ret
        exact ⟨rfl, hBz⟩
end Go.Proofs.Ytehfimkgoepngaa

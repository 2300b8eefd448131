/-
  The law ReplyNames (layer 15). New memory alone is written. Conditions: the library's table of powers of ten as its text lays it.
-/
import Derived.Test.YtbiabjehdmddbaaDoorRlAlive
import Derived.Test.YtbiabjehdmddbaaDoorRfParse
namespace Go.Proofs.YtbiabjehdmddbaaDoor
open Go.RowKit

set_option maxRecDepth 100000 in
set_option maxHeartbeats 8000000 in
theorem rlNames_any (e k : Int) (s : ByteArray) (w : World) (hG : Pow12 w) : Calls Tryd.prog 4 #[.int .i64 e, .int .i64 k, .string s] w fun q w' => q = .returned (.bool true) ∧ Below w.heap.size w w' := by
  have hEn := Lib.hid (fun w' => rlErrName_any e w')
  have hKn := Lib.hid (fun w' => rlKindName_any k w')
  have hNe := Lib.hid (fun g w' (h : Blk w' g 9 (strsV errsL)) => rfName_any g 21 errsL e w' rfl (by decide) h)
  have hNk := Lib.hid (fun g w' (h : Blk w' g 9 (strsV kindsL)) => rfName_any g 7 kindsL k w' rfl (by decide) h)
  have hEo := Lib.hid (fun w' => rlErrOf_any s w')
  have hKo := Lib.hid (fun w' => rlKindOf_any s w')
  have hOe := Lib.hid (fun g w' (h : Blk w' g 9 (strsV errsL)) => rfOf_any g 21 errsL s w' rfl (by decide) errs_b h)
  have hOk := Lib.hid (fun g w' (h : Blk w' g 9 (strsV kindsL)) => rfOf_any g 7 kindsL s w' rfl (by decide) kinds_b h)
  have hEx := Lib.hid (fun w' => rlErrOf_any (strOfNums (nameL errsL e)) w')
  have hKx := Lib.hid (fun w' => rlKindOf_any (strOfNums (nameL kindsL k)) w')
  have hal := Lib.hid (fun w' (h : Below w.heap.size w w') => alive15_any w' (hG.keep h hG.le))
  have qe := errQ e
  have qk := kindQ k
  rw [nums_str (nameL_ok _ errs_b e)] at hEx
  rw [nums_str (nameL_ok _ kinds_b k)] at hKx
  obtain ⟨P1, hP1⟩ : ∃ P, placeL (numsOf s) errsL 0 = P := ⟨_, rfl⟩
  obtain ⟨P2, hP2⟩ : ∃ P, placeL (numsOf s) kindsL 0 = P := ⟨_, rfl⟩
  rw [hP1] at hEo hOe
  rw [hP2] at hKo hOk
  obtain ⟨p1, f1⟩ := P1
  obtain ⟨p2, f2⟩ := P2
  dsimp only at hEo hOe hKo hOk
  have ze := fun h => congrArg (fun x => placeL x errsL 0) (err_out (k := e) h)
  have zk := fun h => congrArg (fun x => placeL x kindsL 0) (kind_out (k := k) h)
  have ie := fun h => (err_in (k := e) h).2.2
  have ik := fun h => (kind_in (k := k) h).2.2
  try dsimp only at ze zk
  rw [errs_q] at ze
  rw [kinds_q] at zk
  obtain ⟨Q1, hQ1⟩ : ∃ P, placeL (nameL errsL e) errsL 0 = P := ⟨_, rfl⟩
  obtain ⟨Q2, hQ2⟩ : ∃ P, placeL (nameL kindsL k) kindsL 0 = P := ⟨_, rfl⟩
  rw [hQ1] at hEx ze ie
  rw [hQ2] at hKx zk ik
  obtain ⟨X, hX⟩ : ∃ S, strOfNums (nameL errsL e) = S := ⟨_, rfl⟩
  obtain ⟨Y, hY⟩ : ∃ S, strOfNums (nameL kindsL k) = S := ⟨_, rfl⟩
  rw [hX] at hEn hNe hEx qe
  rw [hY] at hKn hNk hKx qk
  clear hP1 hP2 hQ1 hQ2 hX hY hG
  by_cases he : 0 ≤ e ∧ e < 21
  · obtain rfl := ie he
    have x1 : ¬ X.toList = [63] := fun h => qe.1 h he
    have x2 : (X.toList == [63]) = false := beq_false_of_ne x1
    clear ie ze qe he
    by_cases hk : 0 ≤ k ∧ k < 7
    · obtain rfl := ik hk
      have y1 : ¬ Y.toList = [63] := fun h => qk.1 h hk
      have y2 : (Y.toList == [63]) = false := beq_false_of_ne y1
      clear ik zk qk hk
      go_enter Tryd.func4, Tryd.ntmps4
      go_wp2_with fail
      refine (hEn.out w).mono ?_
      rintro q w1 ⟨rfl, b1⟩
      go_wp2_with fail
      refine (hKn.out w1).mono ?_
      rintro q w2 ⟨rfl, b2⟩
      have B2 := b1.trans (b2.mono b1.size)
      clear b1 b2
      go_wp2_with fail
      refine (rfErrs_at w2).mono ?_
      rintro q w3 ⟨rfl, b3, k3⟩
      have B3 := B2.trans (b3.mono B2.size)
      clear B2 b3
      go_wp2_with fail
      refine (hNe.out _ w3 k3).mono ?_
      rintro q w4 ⟨rfl, hw4⟩
      subst hw4
      clear k3
      go_wp2_with fail
      refine (rfKinds_at w4).mono ?_
      rintro q w5 ⟨rfl, b5, k5⟩
      have B5 := B3.trans (b5.mono B3.size)
      clear B3 b5
      go_wp2_with fail
      refine (hNk.out _ w5 k5).mono ?_
      rintro q w6 ⟨rfl, hw6⟩
      subst hw6
      clear k5
      go_wp2_with fail
      refine (hEo.out w6).mono ?_
      rintro q w7 ⟨rfl, b7⟩
      have B7 := B5.trans (b7.mono B5.size)
      clear B5 b7
      go_wp2_with fail
      refine (rfErrs_at w7).mono ?_
      rintro q w8 ⟨rfl, b8, k8⟩
      have B8 := B7.trans (b8.mono B7.size)
      clear B7 b8
      go_wp2_with fail
      refine (hOe.out _ w8 k8).mono ?_
      rintro q w9 ⟨rfl, hw9⟩
      subst hw9
      clear k8
      go_wp2_with fail
      refine (hKo.out w9).mono ?_
      rintro q v1 ⟨rfl, c1⟩
      have B9 := B8.trans (c1.mono B8.size)
      clear B8 c1
      go_wp2_with fail
      refine (rfKinds_at v1).mono ?_
      rintro q v2 ⟨rfl, c2, k2⟩
      have B10 := B9.trans (c2.mono B9.size)
      clear B9 c2
      go_wp2_with fail
      refine (hOk.out _ v2 k2).mono ?_
      rintro q v3 ⟨rfl, hv3⟩
      subst hv3
      clear k2
      go_wp2_with fail
      refine (hEx.out v3).mono ?_
      rintro q v4 ⟨rfl, c4⟩
      have B11 := B10.trans (c4.mono B10.size)
      clear B10 c4
      go_wp2_with fail
      refine (hKx.out v4).mono ?_
      rintro q v5 ⟨rfl, c5⟩
      have B12 := B11.trans (c5.mono B11.size)
      clear B11 c5
      go_wp2_with fail
      refine (hal.out v5 B12).mono ?_
      rintro q v6 ⟨rfl, c6⟩
      go_wp2
      go_ret
      exact ⟨by first | rfl | simp, B12.trans (c6.mono B12.size)⟩
    · obtain rfl := zk hk
      have y1 : Y.toList = [63] := qk.2 hk
      have y2 : (Y.toList == [63]) = true := beq_iff_eq.2 y1
      clear ik zk qk hk
      go_enter Tryd.func4, Tryd.ntmps4
      go_wp2_with fail
      refine (hEn.out w).mono ?_
      rintro q w1 ⟨rfl, b1⟩
      go_wp2_with fail
      refine (hKn.out w1).mono ?_
      rintro q w2 ⟨rfl, b2⟩
      have B2 := b1.trans (b2.mono b1.size)
      clear b1 b2
      go_wp2_with fail
      refine (rfErrs_at w2).mono ?_
      rintro q w3 ⟨rfl, b3, k3⟩
      have B3 := B2.trans (b3.mono B2.size)
      clear B2 b3
      go_wp2_with fail
      refine (hNe.out _ w3 k3).mono ?_
      rintro q w4 ⟨rfl, hw4⟩
      subst hw4
      clear k3
      go_wp2_with fail
      refine (rfKinds_at w4).mono ?_
      rintro q w5 ⟨rfl, b5, k5⟩
      have B5 := B3.trans (b5.mono B3.size)
      clear B3 b5
      go_wp2_with fail
      refine (hNk.out _ w5 k5).mono ?_
      rintro q w6 ⟨rfl, hw6⟩
      subst hw6
      clear k5
      go_wp2_with fail
      refine (hEo.out w6).mono ?_
      rintro q w7 ⟨rfl, b7⟩
      have B7 := B5.trans (b7.mono B5.size)
      clear B5 b7
      go_wp2_with fail
      refine (rfErrs_at w7).mono ?_
      rintro q w8 ⟨rfl, b8, k8⟩
      have B8 := B7.trans (b8.mono B7.size)
      clear B7 b8
      go_wp2_with fail
      refine (hOe.out _ w8 k8).mono ?_
      rintro q w9 ⟨rfl, hw9⟩
      subst hw9
      clear k8
      go_wp2_with fail
      refine (hKo.out w9).mono ?_
      rintro q v1 ⟨rfl, c1⟩
      have B9 := B8.trans (c1.mono B8.size)
      clear B8 c1
      go_wp2_with fail
      refine (rfKinds_at v1).mono ?_
      rintro q v2 ⟨rfl, c2, k2⟩
      have B10 := B9.trans (c2.mono B9.size)
      clear B9 c2
      go_wp2_with fail
      refine (hOk.out _ v2 k2).mono ?_
      rintro q v3 ⟨rfl, hv3⟩
      subst hv3
      clear k2
      go_wp2_with fail
      refine (hEx.out v3).mono ?_
      rintro q v4 ⟨rfl, c4⟩
      have B11 := B10.trans (c4.mono B10.size)
      clear B10 c4
      go_wp2_with fail
      refine (hKx.out v4).mono ?_
      rintro q v5 ⟨rfl, c5⟩
      have B12 := B11.trans (c5.mono B11.size)
      clear B11 c5
      go_wp2_with fail
      refine (hal.out v5 B12).mono ?_
      rintro q v6 ⟨rfl, c6⟩
      go_wp2
      go_ret
      exact ⟨by first | rfl | simp, B12.trans (c6.mono B12.size)⟩
  · obtain rfl := ze he
    have x1 : X.toList = [63] := qe.2 he
    have x2 : (X.toList == [63]) = true := beq_iff_eq.2 x1
    clear ie ze qe he
    by_cases hk : 0 ≤ k ∧ k < 7
    · obtain rfl := ik hk
      have y1 : ¬ Y.toList = [63] := fun h => qk.1 h hk
      have y2 : (Y.toList == [63]) = false := beq_false_of_ne y1
      clear ik zk qk hk
      go_enter Tryd.func4, Tryd.ntmps4
      go_wp2_with fail
      refine (hEn.out w).mono ?_
      rintro q w1 ⟨rfl, b1⟩
      go_wp2_with fail
      refine (hKn.out w1).mono ?_
      rintro q w2 ⟨rfl, b2⟩
      have B2 := b1.trans (b2.mono b1.size)
      clear b1 b2
      go_wp2_with fail
      refine (rfErrs_at w2).mono ?_
      rintro q w3 ⟨rfl, b3, k3⟩
      have B3 := B2.trans (b3.mono B2.size)
      clear B2 b3
      go_wp2_with fail
      refine (hNe.out _ w3 k3).mono ?_
      rintro q w4 ⟨rfl, hw4⟩
      subst hw4
      clear k3
      go_wp2_with fail
      refine (rfKinds_at w4).mono ?_
      rintro q w5 ⟨rfl, b5, k5⟩
      have B5 := B3.trans (b5.mono B3.size)
      clear B3 b5
      go_wp2_with fail
      refine (hNk.out _ w5 k5).mono ?_
      rintro q w6 ⟨rfl, hw6⟩
      subst hw6
      clear k5
      go_wp2_with fail
      refine (hEo.out w6).mono ?_
      rintro q w7 ⟨rfl, b7⟩
      have B7 := B5.trans (b7.mono B5.size)
      clear B5 b7
      go_wp2_with fail
      refine (rfErrs_at w7).mono ?_
      rintro q w8 ⟨rfl, b8, k8⟩
      have B8 := B7.trans (b8.mono B7.size)
      clear B7 b8
      go_wp2_with fail
      refine (hOe.out _ w8 k8).mono ?_
      rintro q w9 ⟨rfl, hw9⟩
      subst hw9
      clear k8
      go_wp2_with fail
      refine (hKo.out w9).mono ?_
      rintro q v1 ⟨rfl, c1⟩
      have B9 := B8.trans (c1.mono B8.size)
      clear B8 c1
      go_wp2_with fail
      refine (rfKinds_at v1).mono ?_
      rintro q v2 ⟨rfl, c2, k2⟩
      have B10 := B9.trans (c2.mono B9.size)
      clear B9 c2
      go_wp2_with fail
      refine (hOk.out _ v2 k2).mono ?_
      rintro q v3 ⟨rfl, hv3⟩
      subst hv3
      clear k2
      go_wp2_with fail
      refine (hEx.out v3).mono ?_
      rintro q v4 ⟨rfl, c4⟩
      have B11 := B10.trans (c4.mono B10.size)
      clear B10 c4
      go_wp2_with fail
      refine (hKx.out v4).mono ?_
      rintro q v5 ⟨rfl, c5⟩
      have B12 := B11.trans (c5.mono B11.size)
      clear B11 c5
      go_wp2_with fail
      refine (hal.out v5 B12).mono ?_
      rintro q v6 ⟨rfl, c6⟩
      go_wp2
      go_ret
      exact ⟨by first | rfl | simp, B12.trans (c6.mono B12.size)⟩
    · obtain rfl := zk hk
      have y1 : Y.toList = [63] := qk.2 hk
      have y2 : (Y.toList == [63]) = true := beq_iff_eq.2 y1
      clear ik zk qk hk
      go_enter Tryd.func4, Tryd.ntmps4
      go_wp2_with fail
      refine (hEn.out w).mono ?_
      rintro q w1 ⟨rfl, b1⟩
      go_wp2_with fail
      refine (hKn.out w1).mono ?_
      rintro q w2 ⟨rfl, b2⟩
      have B2 := b1.trans (b2.mono b1.size)
      clear b1 b2
      go_wp2_with fail
      refine (rfErrs_at w2).mono ?_
      rintro q w3 ⟨rfl, b3, k3⟩
      have B3 := B2.trans (b3.mono B2.size)
      clear B2 b3
      go_wp2_with fail
      refine (hNe.out _ w3 k3).mono ?_
      rintro q w4 ⟨rfl, hw4⟩
      subst hw4
      clear k3
      go_wp2_with fail
      refine (rfKinds_at w4).mono ?_
      rintro q w5 ⟨rfl, b5, k5⟩
      have B5 := B3.trans (b5.mono B3.size)
      clear B3 b5
      go_wp2_with fail
      refine (hNk.out _ w5 k5).mono ?_
      rintro q w6 ⟨rfl, hw6⟩
      subst hw6
      clear k5
      go_wp2_with fail
      refine (hEo.out w6).mono ?_
      rintro q w7 ⟨rfl, b7⟩
      have B7 := B5.trans (b7.mono B5.size)
      clear B5 b7
      go_wp2_with fail
      refine (rfErrs_at w7).mono ?_
      rintro q w8 ⟨rfl, b8, k8⟩
      have B8 := B7.trans (b8.mono B7.size)
      clear B7 b8
      go_wp2_with fail
      refine (hOe.out _ w8 k8).mono ?_
      rintro q w9 ⟨rfl, hw9⟩
      subst hw9
      clear k8
      go_wp2_with fail
      refine (hKo.out w9).mono ?_
      rintro q v1 ⟨rfl, c1⟩
      have B9 := B8.trans (c1.mono B8.size)
      clear B8 c1
      go_wp2_with fail
      refine (rfKinds_at v1).mono ?_
      rintro q v2 ⟨rfl, c2, k2⟩
      have B10 := B9.trans (c2.mono B9.size)
      clear B9 c2
      go_wp2_with fail
      refine (hOk.out _ v2 k2).mono ?_
      rintro q v3 ⟨rfl, hv3⟩
      subst hv3
      clear k2
      go_wp2_with fail
      refine (hEx.out v3).mono ?_
      rintro q v4 ⟨rfl, c4⟩
      have B11 := B10.trans (c4.mono B10.size)
      clear B10 c4
      go_wp2_with fail
      refine (hKx.out v4).mono ?_
      rintro q v5 ⟨rfl, c5⟩
      have B12 := B11.trans (c5.mono B11.size)
      clear B11 c5
      go_wp2_with fail
      refine (hal.out v5 B12).mono ?_
      rintro q v6 ⟨rfl, c6⟩
      go_wp2
      go_ret
      exact ⟨by first | rfl | simp, B12.trans (c6.mono B12.size)⟩
end Go.Proofs.YtbiabjehdmddbaaDoor

/-
  The law HexNums, out of what a program's texts come to ('HexProg'). New memory alone is written. Conditions: numbers below 2^64.
-/
import Derived.Test.YtnfjmhppajdmaaaDoorHexProg
namespace Go.Proofs.YtnfjmhppajdmaaaDoor
open Go.RowKit

set_option maxRecDepth 100000 in
set_option maxHeartbeats 2000000 in
theorem hexNums_any (HP : HexProg) (n m : Nat) (s : ByteArray) (w : World) (hG : HP.Gl w) (hn : n < 18446744073709551616) (hm : m < 18446744073709551616) :
    Calls Tryd.prog 5 #[.int .u64 (n : Int), .int .u64 (m : Int), .string s] w fun q w' => q = .returned (.bool true) ∧ Below w.heap.size w w' := by
  have hN := HP.gl_le hG
  have gl := Lib.hid (fun w' (h : Below w.heap.size w w') => HP.gl_keep hG (h.mono hN))
  have al := Lib.hid (fun w' h => alive12_any HP w' (gl.out w' h))
  have ct := fun w' h => HP.num n w' (gl.out w' h) hn
  have rt := fun w' => rNum_any n w' hn
  have hz := numL_size n 19 (by omega)
  have htz : (strOfNums (numL n)).size ≤ 3000 := by rw [strOfNums_size]; omega
  have c1 := fun w' h => HP.numOf (strOfNums (numL n)) 18446744073709551615 w' (gl.out w' h) htz (by decide)
  have c2 := fun w' h => HP.numOf (strOfNums (numL n)) m w' (gl.out w' h) htz hm
  rw [nums_str (numL_ok n), unNum_numL] at c1 c2
  rw [if_neg (show ¬ 18446744073709551615 < n by omega)] at c1
  obtain ⟨T, hT⟩ : ∃ T, strOfNums (numL n) = T := ⟨_, rfl⟩
  rw [hT] at ct rt c1 c2
  dsimp only at c1
  have mk := fun (h : ¬ 1000 < s.size) => (⟨fun w' h' => HP.numOf s m w' (gl.out w' h') (by omega) hm, fun w' => rNumOf_any s m w' (by omega) hm⟩ : (∀ w', Below w.heap.size w w' → _) ∧ (∀ w', _))
  have hsn := str_nums s
  obtain ⟨ss, hss⟩ : ∃ ss, numsOf s = ss := ⟨_, rfl⟩
  rw [hss] at hsn
  simp only [hss] at mk
  obtain ⟨v, e, hu⟩ : ∃ v e, unNum ss m = (v, e) := ⟨_, _, rfl⟩
  rw [hu] at mk
  dsimp only at mk
  have bk := Lib.hid (fun (h : e = 0) => numL_unNum (ss := ss) (m := m) (v := v) (by rw [hu, h]))
  have ck := Lib.hid (fun w' h (he : e = 0) => (by
    have h1 := HP.num v w' (gl.out w' h) (by have := (bk.out he).2; omega)
    rw [(bk.out he).1, hsn] at h1
    exact h1 : Calls Tryd.prog 15 #[.int .u64 (v : Int)] w' fun q w'' => q = .returned (.string s) ∧ Below w'.heap.size w' w''))
  obtain ⟨M, hM⟩ : ∃ M : Int, (m : Int) = M := ⟨_, rfl⟩
  obtain ⟨N, hNe⟩ : ∃ N : Int, (n : Int) = N := ⟨_, rfl⟩
  have hMH := Lib.hid hM
  have hNH := Lib.hid hNe
  rw [hM] at c2 mk ⊢
  rw [hNe] at ct rt c1 ⊢
  have ctH := Lib.hid ct
  have rtH := Lib.hid rt
  have c1H := Lib.hid c1
  have c2H := Lib.hid c2
  have mkH := Lib.hid mk
  clear ct rt c1 c2 mk hss hsn hu hT htz hz hn hm hM hNe
  by_cases hz : 1000 < s.size
  · have hzi : 1000 < (s.size : Int) := by omega
    clear hz
    go_enter Tryd.func5, Tryd.ntmps5
    go_wp2_with fail
    refine (al.out w (Below.refl _ _)).mono ?_
    rintro q w9 ⟨rfl, b9⟩
    go_wp2
    go_ret
    exact ⟨rfl, b9⟩
  have hzi : ¬ 1000 < (s.size : Int) := by omega
  have cs := Lib.hid (mkH.out hz).1
  have rs := Lib.hid (mkH.out hz).2
  clear hz mkH
  go_enter Tryd.func5, Tryd.ntmps5
  go_wp2_with fail
  refine (ctH.out w (Below.refl _ _)).mono ?_
  rintro q w1 ⟨rfl, b1⟩
  go_wp2_with fail
  refine (c1H.out w1 b1).mono ?_
  rintro q w2 ⟨rfl, b2⟩
  have B2 := b1.trans (b2.mono b1.size)
  clear b1 b2
  go_wp2_with fail
  refine (rtH.out w2).mono ?_
  rintro q w3 ⟨rfl, rfl⟩
  go_wp2_with fail
  refine (c2H.out w2 B2).mono ?_
  rintro q w4 ⟨rfl, b4⟩
  have B4 := B2.trans (b4.mono B2.size)
  clear b4 B2
  by_cases hlt : m < n
  · rw [if_pos hlt]
    dsimp only
    have hle : ¬ N ≤ M := by have := hMH.out; have := hNH.out; omega
    clear hlt
    go_wp2_with fail
    refine (cs.out w4 B4).mono ?_
    rintro q w5 ⟨rfl, b5⟩
    have B5 := B4.trans (b5.mono B4.size)
    clear b5 B4
    go_wp2_with fail
    refine (rs.out w5).mono ?_
    rintro q w6 ⟨rfl, rfl⟩
    by_cases he : e = 0
    · have hk := ck.out w5 B5 he
      have hvm := Lib.hid (bk.out he).2
      obtain ⟨y, hy⟩ : ∃ y : Int, (v : Int) = y := ⟨_, rfl⟩
      have hle : y ≤ M := by have := hvm.out; have := hMH.out; omega
      rw [hy] at hk ⊢
      subst he
      clear hy
      go_wp2_with fail
      refine hk.mono ?_
      rintro q w7 ⟨rfl, b7⟩
      have B7 := B5.trans (b7.mono B5.size)
      clear b7 B5 hk
      go_wp2_with fail
      refine (al.out w7 B7).mono ?_
      rintro q w8 ⟨rfl, b8⟩
      go_wp2
      go_ret
      exact ⟨rfl, B7.trans (b8.mono B7.size)⟩
    · have heb : (e == 0) = false := beq_false_of_ne he
      obtain ⟨y, hy⟩ : ∃ y : Int, (v : Int) = y := ⟨_, rfl⟩
      rw [hy]
      clear hy
      go_wp2_with fail
      refine (al.out w5 B5).mono ?_
      rintro q w8 ⟨rfl, b8⟩
      go_wp2
      go_ret
      exact ⟨rfl, B5.trans (b8.mono B5.size)⟩
  · rw [if_neg hlt]
    dsimp only
    have hle0 : N ≤ M := by have := hMH.out; have := hNH.out; omega
    rw [hNH.out]
    clear hlt
    go_wp2_with fail
    refine (cs.out w4 B4).mono ?_
    rintro q w5 ⟨rfl, b5⟩
    have B5 := B4.trans (b5.mono B4.size)
    clear b5 B4
    go_wp2_with fail
    refine (rs.out w5).mono ?_
    rintro q w6 ⟨rfl, rfl⟩
    by_cases he : e = 0
    · have hk := ck.out w5 B5 he
      have hvm := Lib.hid (bk.out he).2
      obtain ⟨y, hy⟩ : ∃ y : Int, (v : Int) = y := ⟨_, rfl⟩
      have hle : y ≤ M := by have := hvm.out; have := hMH.out; omega
      rw [hy] at hk ⊢
      subst he
      clear hy
      go_wp2_with fail
      refine hk.mono ?_
      rintro q w7 ⟨rfl, b7⟩
      have B7 := B5.trans (b7.mono B5.size)
      clear b7 B5 hk
      go_wp2_with fail
      refine (al.out w7 B7).mono ?_
      rintro q w8 ⟨rfl, b8⟩
      go_wp2
      go_ret
      exact ⟨rfl, B7.trans (b8.mono B7.size)⟩
    · have heb : (e == 0) = false := beq_false_of_ne he
      obtain ⟨y, hy⟩ : ∃ y : Int, (v : Int) = y := ⟨_, rfl⟩
      rw [hy]
      clear hy
      go_wp2_with fail
      refine (al.out w5 B5).mono ?_
      rintro q w8 ⟨rfl, b8⟩
      go_wp2
      go_ret
      exact ⟨rfl, B5.trans (b8.mono B5.size)⟩
end Go.Proofs.YtnfjmhppajdmaaaDoor

/-
  The law HexBytes, out of what a program's texts come to ('HexProg'). New memory alone is written. Conditions: bytes below 256.
-/
import Derived.Test.YtnfjmhppajdmaaaDoorHexProg
namespace Go.Proofs.YtnfjmhppajdmaaaDoor
open Go.RowKit

theorem unText_cases (ss : List Int) : (∃ ys, unText ss = (ys, 0) ∧ textL ys = ss ∧ okB ys ∧ ys.length ≤ ss.length) ∨ unText ss = ([], 4) := by
  unfold unText
  cases ho : ofL ss with
  | none => exact .inr rfl
  | some ys => exact .inl ⟨ys, rfl, ofL_some ho⟩

set_option maxRecDepth 100000 in
set_option maxHeartbeats 2000000 in
theorem hexBytes_any (HP : HexProg) (a : Option Addr) (n c : Nat) (xs : List Int) (s : ByteArray) (w : World) (hG : HP.Gl w) (hI : Ints .u8 w a n c xs) (hr : okB xs) :
    Calls Tryd.prog 3 #[.slice a n c, .string s] w fun q w' => q = .returned (.bool true) ∧ Below w.heap.size w w' := by
  by_cases hn : 1000 < n
  · have hni : 1000 < (n : Int) := by omega
    go_enter Tryd.func3, Tryd.ntmps3
    go_wp2_with fail
    refine (alive12_any HP _ hG).mono ?_
    rintro q w9 ⟨rfl, b9⟩
    go_wp2
    go_ret
    exact ⟨rfl, b9⟩
  have hni : ¬ 1000 < (n : Int) := by omega
  by_cases hz : 1000 < s.size
  · have hzi : 1000 < (s.size : Int) := by omega
    go_enter Tryd.func3, Tryd.ntmps3
    go_wp2_with fail
    refine (alive12_any HP _ hG).mono ?_
    rintro q w9 ⟨rfl, b9⟩
    go_wp2
    go_ret
    exact ⟨rfl, b9⟩
  have hzi : ¬ 1000 < (s.size : Int) := by omega
  have hl := hI.len
  have hN := HP.gl_le hG
  have gl := Lib.hid (fun w' (h : Below w.heap.size w w') => HP.gl_keep hG (h.mono hN))
  have IK := Lib.hid (fun w' (h : Below w.heap.size w w') => hI.keep h)
  have ct := fun w' h => HP.text a n c xs w' (gl.out w' h) (IK.out w' h) hr (by omega)
  have rt := fun w' h => rText_any a n c xs w' (IK.out w' h) hr (by omega)
  have htz : (strOfNums (textL xs)).size ≤ 3000 := by rw [strOfNums_size]; have := textL_len xs; omega
  have cb := fun w' h => HP.bytes (strOfNums (textL xs)) w' (gl.out w' h) htz
  rw [nums_str (textL_range hr)] at cb
  have hut : unText (textL xs) = (xs, 0) := by
    unfold unText
    rw [ofL_textL hr]
  rw [hut, hl] at cb
  have cs := fun w' h => HP.bytes s w' (gl.out w' h) (by omega)
  have rs := fun w' => rBytes_any s w' (by omega)
  have cv := Lib.hid (fun (w' : World) (b : Option Addr) (k d : Nat) (zs : List Int) (h : Ints .u8 w' b k d zs) => h.string (P := Tryd.prog) 22 9 5 Tryd.underlying22 Tryd.underlying5 Tryd.underlying9)
  have hsz := numsOf_length s
  have hsn := str_nums s
  obtain ⟨ss, hss⟩ : ∃ ss, numsOf s = ss := ⟨_, rfl⟩
  rw [hss] at cs rs hsz hsn
  obtain ⟨T, hT⟩ : ∃ T, strOfNums (textL xs) = T := ⟨_, rfl⟩
  rw [hT] at ct rt cb
  have ctH := Lib.hid ct
  have rtH := Lib.hid rt
  have cbH := Lib.hid cb
  have csH := Lib.hid cs
  have rsH := Lib.hid rs
  have alH := Lib.hid (fun w' h => alive12_any HP w' (gl.out w' h))
  obtain ⟨X, hX⟩ : ∃ X, strOfNums xs = X := ⟨_, rfl⟩
  have hXH := Lib.hid hX
  have hlH := Lib.hid hl
  clear ct rt cb cs rs hss hT htz hut hX hn hz hl
  go_enter Tryd.func3, Tryd.ntmps3
  go_wp2_with fail
  refine (ctH.out w (Below.refl _ _)).mono ?_
  rintro q w1 ⟨rfl, b1⟩
  go_wp2_with fail
  refine (cbH.out w1 b1).mono ?_
  rintro q w2 ⟨yb, yc, rfl, hY, b2⟩
  have B2 := b1.trans (b2.mono b1.size)
  clear b1 b2
  go_wp2_with fail
  refine (rtH.out w2 B2).mono ?_
  rintro q w3 ⟨rfl, b3⟩
  have hY3 := hY.keep b3
  have B3 := B2.trans (b3.mono B2.size)
  have v1 := cv.out w3 yb n yc xs hY3
  have v2 := cv.out w3 a n c xs (IK.out w3 B3)
  rw [hXH.out] at v1 v2
  clear hY hY3 B2 b3
  go_wp2_with fail
  refine (csH.out w3 B3).mono ?_
  rintro q w4 ⟨zb, zc, rfl, hZ, b4⟩
  have B4 := B3.trans (b4.mono B3.size)
  clear b4 B3 v1 v2
  go_wp2_with fail
  refine (rsH.out w4).mono ?_
  rintro q w5 ⟨rb, rc, rfl, hR, hrb, b5⟩
  have hZ5 := hZ.keep b5
  have B5 := B4.trans (b5.mono B4.size)
  clear hZ b5 B4 hrb
  rcases unText_cases ss with ⟨ys, hu, hty, hoy, hly⟩ | hu
  · rw [hu] at hZ5 hR ⊢
    dsimp only at hZ5 hR ⊢
    have v3 := cv.out w5 zb _ zc ys hZ5
    have v4 := cv.out w5 rb _ rc ys hR
    have hk := HP.text zb ys.length zc ys w5 (gl.out w5 B5) hZ5 hoy (by omega)
    rw [hty, hsn] at hk
    obtain ⟨Y, hY⟩ : ∃ Y, strOfNums ys = Y := ⟨_, rfl⟩
    rw [hY] at v3 v4
    obtain ⟨K, hK⟩ : ∃ K, ys.length = K := ⟨_, rfl⟩
    rw [hK] at v3 v4 hk ⊢
    clear hY hK hZ5 hR hu hty hoy hly hsn hsz
    go_wp2_with fail
    refine hk.mono ?_
    rintro q w6 ⟨rfl, b6⟩
    have B6 := B5.trans (b6.mono B5.size)
    clear b6 B5 hk
    go_wp2_with fail
    refine (alH.out w6 B6).mono ?_
    rintro q w7 ⟨rfl, b7⟩
    go_wp2
    go_ret
    exact ⟨rfl, B6.trans (b7.mono B6.size)⟩
  · rw [hu] at hZ5 hR ⊢
    dsimp only [List.length_nil] at hZ5 hR ⊢
    have v3 := cv.out w5 zb _ zc [] hZ5
    have v4 := cv.out w5 rb _ rc [] hR
    obtain ⟨Y, hY⟩ : ∃ Y, strOfNums [] = Y := ⟨_, rfl⟩
    rw [hY] at v3 v4
    clear hY hZ5 hR hu hsn hsz
    go_wp2_with fail
    refine (alH.out w5 B5).mono ?_
    rintro q w7 ⟨rfl, b7⟩
    go_wp2
    go_ret
    exact ⟨rfl, B5.trans (b7.mono B5.size)⟩
end Go.Proofs.YtnfjmhppajdmaaaDoor

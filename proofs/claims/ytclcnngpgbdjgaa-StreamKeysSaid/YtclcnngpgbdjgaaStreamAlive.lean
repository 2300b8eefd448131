/-
  The document's example of a stream comes to true; new memory alone is written. No conditions.
-/
import Derived.Test.YtclcnngpgbdjgaaStreamNew
import Derived.Test.YtclcnngpgbdjgaaStreamMask
import Derived.Test.YtclcnngpgbdjgaaCipherAlive
namespace Go.Proofs.Ytclcnngpgbdjgaa
open Go.RowKit

theorem bytesL_two (f : Nat → Nat) : bytesL 2 f = [((f 0 : Nat) : Int), ((f 1 : Nat) : Int)] := rfl
theorem by_zf : By zf := fun _ => (by decide : 0 < 256)
theorem mk_zf (K : Nat → Nat → Nat) (p i j v : Nat) (hj : (p + i) % 18446744073709551616 = j) (h : sby K j = v) : mk K p zf i = v := by
  unfold mk
  rw [hj, h, zf_at, Nat.zero_xor]
theorem two_of (f : Nat → Nat) (x y : Nat) (hx : f 0 = x) (hy : f 1 = y) : bytesL 2 f = [(x : Int), (y : Int)] := by
  rw [bytesL_two, hx, hy]
theorem zmask : bytesL 2 (mk (keyAt zxF) 0 zf) = [((220 : Nat) : Int), ((149 : Nat) : Int)] :=
  two_of (mk (keyAt zxF) 0 zf) 220 149 (mk_zf (keyAt zxF) 0 0 0 220 rfl sby_first.1) (mk_zf (keyAt zxF) 0 1 1 149 rfl sby_first.2)

set_option maxRecDepth 100000 in
set_option maxHeartbeats 1000000 in
theorem stAlive_any (w : World) : Calls Try.prog 7 #[] w fun e w' => e = .returned (.bool true) ∧ Below w.heap.size w w' := by
  obtain ⟨i0, hi, hz0, hz1, hz2⟩ := info_u8
  go_enter Try.func7, Try.ntmps7
  go_wp2_with (at_make; refine wpList_make_two rfl _ _ 31 rfl w.heap.size 5 i0 (.int .u8 0) Try.underlying31 hi hz0 hz1 rfl (n := 32) (C := 32) rfl rfl rfl rfl (Nat.le_refl _) ?_ ?_ (Nat.le_refl _) ?_; (rw [hz2]; decide); (unfold maxLen; decide); intro V _ hkV hgV; refine RowKit.Hid.out ?_)
  refine Lib.hid ?_
  rw [rep_zero] at hkV
  have bV : Below w.heap.size w V := (Below.refl _ w).grown hgV (Nat.le_refl _) (fun j hj => by cases hj)
  have hIk : Ints .u8 V (some ⟨w.heap.size, 0, none⟩) 32 32 (bytesL 32 zf) := Ints.row (o := 0) (cap := 32) hkV 32 (by decide) (by decide)
  clear hgV hkV
  go_wp2_with fail
  refine (stNew_any (some ⟨w.heap.size, 0, none⟩) 32 (bytesL 32 zf) V hIk (bytesL_range by_zf 32)).mono ?_
  rintro e w1 ⟨g, rfl, hg, hS, hB⟩
  change StAt w1 g zxF 0 at hS
  have hVs := bV.size
  have hB1 := Lib.hid (bV.trans (hB.mono hVs))
  have hgs : w.heap.size ≤ g := Nat.le_trans hVs hg
  have hFb : By zxF := kb_by _
  have hgs := Lib.hid hgs
  have hFb := Lib.hid hFb
  clear hIk hB hVs bV hg
  go_wp2_with fail
  refine (at_any g zxF 0 0 w1 hFb.out hS (by decide)).mono ?_
  rintro e w2 ⟨rfl, hS2, g2⟩
  rw [sby_first.1]
  go_wp2_with fail
  refine (at_any g zxF 0 1 w2 hFb.out hS2 (by decide)).mono ?_
  rintro e w3 ⟨rfl, hS3, g3⟩
  rw [sby_first.2]
  go_wp2_with fail
  have b4 : Below w3.heap.size w3 (w3.alloc (.cells #[.int .u8 0, .int .u8 0] 5)) := below1 w3 _
  have hI4 : Ints .u8 (w3.alloc (.cells #[.int .u8 0, .int .u8 0] 5)) (some ⟨w3.heap.size, 0, none⟩) 2 2 (bytesL 2 zf) := Ints.row (o := 0) (cap := 2) (Blk.new w3 5 (rowN 2 zf)) 2 (by decide) (by decide)
  have hS4 := hS3.keep b4 hS3.lt
  have hgl := hS3.lt
  obtain ⟨w4, hw4⟩ : ∃ w4, w3.alloc (.cells #[.int .u8 0, .int .u8 0] 5) = w4 := ⟨_, rfl⟩
  rw [hw4] at b4 hI4 hS4 ⊢
  clear hw4
  refine (mask_any g zxF 0 (some ⟨w3.heap.size, 0, none⟩) 2 2 zf w4 hFb.out by_zf hS4 (by decide) hI4 (by decide)).mono ?_
  rintro e w5 ⟨b, c, rfl, ho, hS5, g5⟩
  have hO := own_intsL ho
  rw [zmask] at hO
  have fs := hO.string 31 9 5 Try.underlying31 Try.underlying5 Try.underlying9
  rw [show strOfNums [((220 : Nat) : Int), ((149 : Nat) : Int)] = { data := #[220, 149] } from rfl] at fs
  have b2 := Lib.hid (below_of_grown g2 hgs.out hS.lt)
  have b3 := Lib.hid (below_of_grown g3 hgs.out hS2.lt)
  have b4 := Lib.hid b4
  have b5 := Lib.hid (below_of_grown g5 hgs.out hS4.lt)
  have hgl := Lib.hid hgl
  clear ho hO hS4 hI4 g2 g3 g5 hS hS2 hS3
  go_wp2_with fail
  refine (place_any g zxF _ w5 hS5).mono ?_
  rintro e w6 ⟨rfl, rfl⟩
  rw [show (0 + 2) % 18446744073709551616 = 2 from rfl]
  go_wp2
  go_ret
  refine ⟨rfl, ?_⟩
  exact (((hB1.out.trans b2.out).trans b3.out).trans (b4.out.mono (by have := hgs.out; have := hgl.out; omega))).trans b5.out
end Go.Proofs.Ytclcnngpgbdjgaa

/-
  What package sha's padding comes to: the bytes behind n bytes that make whole pieces. Conditions: n is at most 2^33.
-/
import Derived.Test.YtcfachgfgogllaaDoorShaWrite
import Derived.Test.YtcfachgfgogllaaDoorAppends
namespace Go.Proofs.YtcfachgfgogllaaDoor
open Go.RowKit

theorem two_words (w : World) (t : TypeId) (x y : Int) : Ints .u32 (w.alloc (.cells #[.int .u32 x, .int .u32 y] t)) (some ⟨w.heap.size, 0, none⟩) 2 2 [x, y] :=
  Ints.of_blk (Blk.new w t [.int .u32 x, .int .u32 y]) rfl (Nat.le_refl _) (fun i hi => by rcases i with _ | _ | i <;> first | rfl | omega)

set_option maxRecDepth 100000 in
set_option maxHeartbeats 800000 in
theorem padding_any (n : Nat) (w : World) (hn : n ≤ 8589934592) :
    Calls Tryd.prog 66 #[.int .u64 n] w fun e w' => ∃ b m c, e = .returned (.slice b m c) ∧ Ints .u8 w' b m c (padBehind n) ∧ Below w.heap.size w w' ∧ (∀ x, b = some x → w.heap.size ≤ x.block) := by
  obtain ⟨i0, hi, hz0, hz1, hz2⟩ := info_parts infoU8
  obtain ⟨B, hB⟩ : ∃ B, B = blanks n := ⟨_, rfl⟩
  have hBl : B < 64 := by rw [hB]; unfold blanks; omega
  have hb1 : (119 - (n : Int) % 64) % 64 = (B : Int) := by rw [hB]; unfold blanks; omega
  have hb2 := Lib.hid (show 1 + (B : Int) = ((1 + B : Nat) : Int) by omega)
  have hb3 := Lib.hid (show 1 + (B : Int) + 8 = ((1 + B + 8 : Nat) : Int) by omega)
  have hb3' := Lib.hid (show 9 + (B : Int) = ((1 + B + 8 : Nat) : Int) by omega)
  have HB := Lib.hid hB
  have b0 : (0 : Int) ≤ (B : Int) := by omega
  have bl : (B : Int) < 64 := by omega
  have n0 : (0 : Int) ≤ (n : Int) := by omega
  have nl : (n : Int) ≤ 8589934592 := by omega
  clear hB
  go_enter Tryd.func66, Tryd.ntmps66
  go_wp2_with (at_make; refine wpList_make_two rfl (.tmp 11) (.tmp 14) 27 rfl w.heap.size 5 i0 (.int .u8 0) Tryd.underlying27 hi hz0 hz1 rfl rfl rfl (n := 1 + B) (C := 1 + B + 8) ?_ ?_ ?_ ?_ ?_ (Nat.le_refl _) ?_; omega; omega; omega; (rw [hz2]; omega); (unfold maxLen; omega); intro w1 hown1 hblk1 hgr1; have c1 := hblk1.cell 0; have f1 := hblk1.frozen 0; rw [List.getElem?_replicate, if_pos (by omega)] at c1)
  obtain ⟨hown2, hgr2⟩ := hown1.stored 0 (.int .u8 128)
  rw [show 1 + B = B + 1 from by omega, List.replicate_succ, List.set_cons_zero, show B + 1 = 1 + B from by omega] at hown2
  have hb2' : Below w.heap.size w (w1.setCell ⟨w.heap.size, 0, none⟩ (.int .u8 128)) := ((Below.refl _ _).grown hgr1 (Nat.le_refl _) (by simp)).setCell (Nat.le_refl _) _
  have hsz : w.heap.size + 1 ≤ w1.heap.size := hblk1.lt
  have hs2 : (w1.setCell ⟨w.heap.size, 0, none⟩ (.int .u8 128)).heap.size = w1.heap.size := by simp [World.setCell]
  have hp := two_words (w1.setCell ⟨w.heap.size, 0, none⟩ (.int .u8 128)) 39 (8 * (n : Int) / 4294967296) (8 * (n : Int) % 4294967296)
  have hp2 := hown2.alloc (.cells #[.int .u32 (8 * (n : Int) / 4294967296), .int .u32 (8 * (n : Int) % 4294967296)] 39)
  have hp3 := hb2'.alloc hb2'.size (.cells #[.int .u32 (8 * (n : Int) / 4294967296), .int .u32 (8 * (n : Int) % 4294967296)] 39)
  rw [hs2] at hp
  clear hown1 hgr1 c1 f1 hown2 hgr2 hb2'
  refine (bytes_any _ 2 2 [8 * (n : Int) / 4294967296, 8 * (n : Int) % 4294967296] _ hp (by simp; omega) (by decide)).mono ?_
  rintro e w3 ⟨b, m, c, rfl, hY, hb3⟩
  have hm : m = 8 := by rw [← hY.len, bytesOf_length]; rfl
  subst hm
  have hown3 := hp2.kept (grown_of_below hb3 none) (by simp [Value.ownBlock])
  have hb4 := hp3.trans (hb3.mono (by simp [World.setCell]; omega))
  clear hp hp2 hp3 hb3
  go_wp2_with (at_builtin; refine wpList_append_ints rfl (.tmp 20) (.tmp 27) 27 rfl w.heap.size 5 i0 (.int .u8 0) 1 Tryd.underlying27 hi hz0 hz1 hz2 rfl rfl hown3 rfl hY ?_ ?_ hb4.size ?_; (unfold maxLen; omega); omega; intro v' w5 hown5 hg5)
  go_ret
  have hlist : Value.int .u8 128 :: List.replicate B (Value.int .u8 0) ++ (bytesOf [8 * (n : Int) / 4294967296, 8 * (n : Int) % 4294967296]).map (Value.int .u8) = (padBehind n).map (Value.int .u8) := by
    unfold padBehind
    rw [← HB.out, show 8 * (n : Int) / 4294967296 % 4294967296 = 8 * (n : Int) / 4294967296 from by omega, List.map_append, List.map_cons, List.map_replicate]
  rw [hlist] at hown5
  have hlt := hown5.lt
  obtain ⟨b5, c5, rfl, hI⟩ := Ints.of_owns hown5
  refine ⟨b5, _, c5, rfl, hI, hb4.grown hg5 hb4.size ?_, fun x hx => (hlt x.block (by rw [hx]; rfl)).1⟩
  intro j hj
  exact (hown3.lt j hj).1
end Go.Proofs.YtcfachgfgogllaaDoor

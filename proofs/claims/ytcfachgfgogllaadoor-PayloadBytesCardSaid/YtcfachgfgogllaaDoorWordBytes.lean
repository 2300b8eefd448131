/-
  What word.Bytes, word.Words, word.Add and the document's own answers to them come to: lists of numbers. Conditions: each word is a number from 0 to 2^32 - 1, each byte one from 0 to 255; at most 2^32 elements.
-/
import Derived.Test.YtcfachgfgogllaaDoorWordPick
import Derived.Test.YtcfachgfgogllaaDoorSlices
import Derived.Deep.RegionHeld3
import Derived.Deep.QuietTactic
import Derived.BigQuiet
namespace Go.Proofs.YtcfachgfgogllaaDoor
open Go.RowKit

theorem infoU8 : (Tryd.prog.info? 5).map (fun i => (i.zero, i.size, i.bytes)) = some (some (.int .u8 0), 1, 1) := by kernel_rfl
theorem infoU32 : (Tryd.prog.info? 39).map (fun i => (i.zero, i.size, i.bytes)) = some (some (.int .u32 0), 1, 4) := by kernel_rfl

theorem four_cells (w : World) (k : IntKind) (t : TypeId) (x : List Int) (cs : Array Value) (h : cs.toList = x.map (Value.int k)) : ∀ j u, (x.map (Value.int k))[j]? = some u → (w.alloc (.cells cs t)).cell? ((⟨w.heap.size, 0, none⟩ : Addr).add j) = some u := by
  rw [← h]; exact World.news_of_block (heap_alloc_new w _)

set_option maxRecDepth 100000 in
set_option maxHeartbeats 800000 in
theorem bytes_any (a : Option Addr) (n cap : Nat) (xs : List Int) (w : World) (h : Ints .u32 w a n cap xs) (hx : ∀ x ∈ xs, 0 ≤ x ∧ x < 4294967296) (hn : n < 4294967296) :
    Calls Tryd.prog 67 #[.slice a n cap] w fun e w' => ∃ b m c, e = .returned (.slice b m c) ∧ Ints .u8 w' b m c (bytesOf xs) ∧ Below w.heap.size w w' := by
  obtain ⟨i0, hi, hz0, hz1, hz2⟩ := info_parts infoU8
  have hl := h.len
  have HI := Lib.hid h.isIn
  go_enter Tryd.func67, Tryd.ntmps67
  go_wp2_with (at_make; refine wpList_make_own _ rfl _ _ 27 rfl w.heap.size 5 i0 (.int .u8 0) 1 Tryd.underlying27 hi hz0 hz1 _ _ _ (4 * n) rfl rfl (by omega) ?b2 ?b3 (Nat.le_refl _) ?_)
  case b2 => rw [hz2]; omega
  case b3 => unfold maxLen; omega
  intro w0 hown0 hgrow0
  go_wp2
  go_loopw [3, 12] (fun v i wr => ∃ k : Nat, k ≤ n ∧ i = .int .i64 k ∧ wr.ownsRow w.heap.size 5 1 v (4 * k) ((bytesOf (xs.take k)).map (Value.int .u8)) ∧ Below w.heap.size w wr) (fun _ i _ => n - (intOf i).toNat)
  case atStart => exact ⟨0, Nat.zero_le _, rfl, hown0, (Below.refl _ _).grown hgrow0 (Nat.le_refl _) (fun k h => by cases h)⟩
  case round =>
    obtain ⟨k, hk, rfl, hown, hb⟩ := hrel
    by_cases hlt : k < n
    · have HK := Lib.hid (HI.out.keep hb)
      obtain ⟨b, off, rfl, hc⟩ := HK.out.1.at (by omega)
      have hck := hc k hlt
      clear hc
      have hxk := getD_range hx k (by omega)
      obtain ⟨x, hxe⟩ : ∃ x, x = xs.getD k 0 := ⟨_, rfl⟩
      rw [← hxe] at hck hxk
      have SN := Lib.hid (bytesOf_snoc xs k (by omega))
      rw [← hxe] at SN; clear hxe
      obtain ⟨hx0, hx1⟩ := hxk
      go_wp2_with (at_builtin; refine wpList_append_own _ rfl _ _ 27 rfl w.heap.size 5 i0 (.int .u8 0) 1 1 Tryd.underlying27 hi hz0 hz1 hz2 rfl (by decide) _ _ _ rfl (hown.alloc _) ⟨wr.heap.size, 0, none⟩ 4 4 ((bytes4 x).map (Value.int .u8)) rfl rfl ?c1 ?c2 ?c3 ?c4 ?c5 ?_)
      case c1 => exact four_cells _ _ _ _ _ rfl
      case c2 => exact ints_oneCell _ _
      case c3 => unfold maxLen; omega
      case c4 => omega
      case c5 => have := hb.size; simp; omega
      intro v' w1 hown' hgrow _
      have hown1 : w1.ownsRow w.heap.size 5 1 v' (4 * (k + 1)) ((bytesOf (xs.take (k + 1))).map (Value.int .u8)) := by
        rw [SN.out, List.map_append]; exact hown'
      have hb1 : Below w.heap.size w w1 := (hb.alloc hb.size _).grown hgrow (by have := hb.size; simp; omega) (fun j hj => (hown.lt j hj).1)
      clear hown' hgrow hown
      go_wp2
      go_roundw
      case rel => exact ⟨k + 1, by omega, by go_num, hown1, hb1⟩
      case measure => simp [intOf]; omega
    · obtain rfl : n = k := by omega
      go_wp2
      go_ret
      obtain ⟨b, c, rfl, hr⟩ := Ints.of_owns hown
      refine ⟨b, 4 * n, c, rfl, ?_, hb⟩
      rwa [List.take_of_length_le (by omega)] at hr

set_option maxRecDepth 100000 in
set_option maxHeartbeats 800000 in
theorem refBytes_own (a : Option Addr) (n cap : Nat) (xs : List Int) (w : World) (h : Ints .u32 w a n cap xs) (hx : ∀ x ∈ xs, 0 ≤ x ∧ x < 4294967296) (hn : n < 4294967296) :
    Calls Tryd.prog 54 #[.slice a n cap] w fun e w' => ∃ b m c, e = .returned (.slice b m c) ∧ Ints .u8 w' b m c (bytesOf xs) ∧ w'.ownsRow w.heap.size 5 1 (.slice b m c) m ((bytesOf xs).map (Value.int .u8)) ∧ Below w.heap.size w w' := by
  obtain ⟨i0, hi, hz0, hz1, hz2⟩ := info_parts infoU8
  have hl := h.len
  have HI := Lib.hid h.isIn
  go_enter Tryd.func54, Tryd.ntmps54
  go_wp2
  go_loopw [3, 4] (fun v i wr => ∃ k : Nat, k ≤ n ∧ i = .int .i64 k ∧ wr.ownsRow w.heap.size 5 1 v (4 * k) ((bytesOf (xs.take k)).map (Value.int .u8)) ∧ Below w.heap.size w wr) (fun _ i _ => n - (intOf i).toNat)
  case atStart => exact ⟨0, Nat.zero_le _, rfl, World.ownsRow_nil _ _ _ _, Below.refl _ _⟩
  case round =>
    obtain ⟨k, hk, rfl, hown, hb⟩ := hrel
    by_cases hlt : k < n
    · have HK := Lib.hid (HI.out.keep hb)
      obtain ⟨b, off, rfl, hc⟩ := HK.out.1.at (by omega)
      have hck := hc k hlt
      clear hc
      have hxk := getD_range hx k (by omega)
      obtain ⟨x, hxe⟩ : ∃ x, x = xs.getD k 0 := ⟨_, rfl⟩
      rw [← hxe] at hck hxk
      have SN := Lib.hid (bytesOf_snoc xs k (by omega))
      rw [← hxe] at SN; clear hxe
      obtain ⟨hx0, hx1⟩ := hxk
      go_wp2_with (at_builtin; refine wpList_append_own _ rfl _ _ 27 rfl w.heap.size 5 i0 (.int .u8 0) 1 1 Tryd.underlying27 hi hz0 hz1 hz2 rfl (by decide) _ _ _ rfl (hown.alloc _) ⟨wr.heap.size, 0, none⟩ 4 4 ((bytes4 x).map (Value.int .u8)) rfl rfl ?c1 ?c2 ?c3 ?c4 ?c5 ?_)
      case c1 => exact four_cells _ _ _ _ _ rfl
      case c2 => exact ints_oneCell _ _
      case c3 => unfold maxLen; omega
      case c4 => omega
      case c5 => have := hb.size; simp; omega
      intro v' w1 hown' hgrow _
      have hown1 : w1.ownsRow w.heap.size 5 1 v' (4 * (k + 1)) ((bytesOf (xs.take (k + 1))).map (Value.int .u8)) := by
        rw [SN.out, List.map_append]; exact hown'
      have hb1 : Below w.heap.size w w1 := (hb.alloc hb.size _).grown hgrow (by have := hb.size; simp; omega) (fun j hj => (hown.lt j hj).1)
      clear hown' hgrow hown
      go_wp2
      go_roundw
      case rel => exact ⟨k + 1, by omega, by go_num, hown1, hb1⟩
      case measure => simp [intOf]; omega
    · obtain rfl : n = k := by omega
      go_wp2
      go_ret
      obtain ⟨b, c, rfl, hr⟩ := Ints.of_owns hown
      rw [List.take_of_length_le (by omega)] at hr hown
      exact ⟨b, 4 * n, c, rfl, hr, hown, hb⟩

theorem refBytes_any (a : Option Addr) (n cap : Nat) (xs : List Int) (w : World) (h : Ints .u32 w a n cap xs) (hx : ∀ x ∈ xs, 0 ≤ x ∧ x < 4294967296) (hn : n < 4294967296) :
    Calls Tryd.prog 54 #[.slice a n cap] w fun e w' => ∃ b m c, e = .returned (.slice b m c) ∧ Ints .u8 w' b m c (bytesOf xs) ∧ Below w.heap.size w w' :=
  (refBytes_own a n cap xs w h hx hn).mono fun _ _ ⟨b, m, c, h1, h2, _, h4⟩ => ⟨b, m, c, h1, h2, h4⟩
end Go.Proofs.YtcfachgfgogllaaDoor

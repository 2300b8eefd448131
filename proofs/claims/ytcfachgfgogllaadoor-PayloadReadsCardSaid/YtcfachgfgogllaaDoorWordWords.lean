/-
  What word.Words, word.Add and the document's own answers to them come to, and whether two slices of words are the same. Conditions: each word is a number from 0 to 2^32 - 1, each byte one from 0 to 255; at most 2^32 elements.
-/
import Derived.Test.YtcfachgfgogllaaDoorWordBytes
namespace Go.Proofs.YtcfachgfgogllaaDoor
open Go.RowKit

def addStep (s x : Int) : Int := (s + x) % 4294967296
def addAll (xs : List Int) : Int := xs.foldl addStep 0
theorem addAll_snoc (xs : List Int) (k : Nat) (h : k < xs.length) : addAll (xs.take (k + 1)) = (addAll (xs.take k) + xs.getD k 0) % 4294967296 := fold_snoc addStep 0 xs k 0 h

set_option maxRecDepth 100000 in
set_option maxHeartbeats 800000 in
theorem words_yes (a : Option Addr) (n cap : Nat) (bs : List Int) (w : World) (h : Ints .u8 w a n cap bs) (hx : ∀ x ∈ bs, 0 ≤ x ∧ x < 256) (hn : n < 4294967296) (h4 : n % 4 = 0) :
    Calls Tryd.prog 73 #[.slice a n cap] w fun e w' => ∃ b m c, e = .returned (.tuple #[.slice b m c, .bool true]) ∧ Ints .u32 w' b m c (wordsOf bs) ∧ Below w.heap.size w w' := by
  obtain ⟨i0, hi, hz0, hz1, hz2⟩ := info_parts infoU32
  have hl := h.len
  have HI := Lib.hid h.isIn
  obtain ⟨q, hq⟩ : ∃ q, n = 4 * q := ⟨n / 4, by omega⟩
  have t4 : (n : Int) % 4 = 0 := by omega
  have t5 : (n : Int) / 4 = q := by omega
  have HQ := Lib.hid hq
  clear hq h4
  go_enter Tryd.func73, Tryd.ntmps73
  go_wp2_with (at_make; refine wpList_make_own _ rfl _ _ 85 rfl w.heap.size 39 i0 (.int .u32 0) 1 Tryd.underlying85 hi hz0 hz1 _ _ _ q rfl rfl rfl ?b2 ?b3 (Nat.le_refl _) ?_)
  case b2 => have := HQ.out; rw [hz2]; omega
  case b3 => have := HQ.out; unfold maxLen; omega
  intro w0 hown0 hgrow0
  clear t4 t5
  go_wp2
  go_loopw [4, 5] (fun v i wr => ∃ j k : Nat, j = 4 * k ∧ k ≤ q ∧ i = .int .i64 j ∧ wr.ownsRow w.heap.size 39 1 v k ((wordsOf (bs.take (4 * k))).map (Value.int .u32)) ∧ Below w.heap.size w wr) (fun _ i _ => n - (intOf i).toNat)
  case atStart => exact ⟨0, 0, rfl, Nat.zero_le _, rfl, hown0, (Below.refl _ _).grown hgrow0 (Nat.le_refl _) (fun k h => by cases h)⟩
  case round =>
    obtain ⟨j, k, hj, hk, rfl, hown, hb⟩ := hrel
    have hq := HQ.out
    by_cases hlt : k < q
    · have HK := Lib.hid (HI.out.keep hb)
      obtain ⟨b, off, rfl, hc⟩ := HK.out.1.at (by omega)
      have hc0 := hc j (by omega)
      have hc1 := hc (j + 1) (by omega)
      have hc2 := hc (j + 2) (by omega)
      have hc3 := hc (j + 3) (by omega)
      clear hc
      obtain ⟨x0, e0⟩ : ∃ x, x = bs.getD j 0 := ⟨_, rfl⟩
      obtain ⟨x1, e1⟩ : ∃ x, x = bs.getD (j + 1) 0 := ⟨_, rfl⟩
      obtain ⟨x2, e2⟩ : ∃ x, x = bs.getD (j + 2) 0 := ⟨_, rfl⟩
      obtain ⟨x3, e3⟩ : ∃ x, x = bs.getD (j + 3) 0 := ⟨_, rfl⟩
      rw [← e0] at hc0; rw [← e1] at hc1; rw [← e2] at hc2; rw [← e3] at hc3
      have r0 : 0 ≤ x0 ∧ x0 < 256 := by rw [e0]; exact getD_range hx j (by omega)
      have r1 : 0 ≤ x1 ∧ x1 < 256 := by rw [e1]; exact getD_range hx (j + 1) (by omega)
      have r2 : 0 ≤ x2 ∧ x2 < 256 := by rw [e2]; exact getD_range hx (j + 2) (by omega)
      have r3 : 0 ≤ x3 ∧ x3 < 256 := by rw [e3]; exact getD_range hx (j + 3) (by omega)
      have SN := Lib.hid (wordsOf_snoc bs k (by omega))
      rw [← hj, ← e0, ← e1, ← e2, ← e3] at SN
      have OR := Lib.hid (or_word4 x0 x1 x2 x3 r0 r1 r2 r3)
      obtain ⟨a0, b0⟩ := r0
      obtain ⟨a1, b1⟩ := r1
      obtain ⟨a2, b2⟩ := r2
      obtain ⟨a3, b3⟩ := r3
      have hj4 : j + 4 ≤ n := by omega
      have hjn : j < n := by omega
      have hqb : q ≤ 1073741824 := by omega
      rw [← hj] at hown
      have HJ := Lib.hid hj
      clear hj e0 e1 e2 e3 hq
      go_wp2_with fail
      have i0' : (0 : Int) ≤ (j : Int) := Int.natCast_nonneg _
      have j0 : (j : Int) < (n : Int) := by omega
      have j1 : (j : Int) + 1 < (n : Int) := by omega
      have j2 : (j : Int) + 2 < (n : Int) := by omega
      have j3 : (j : Int) + 3 < (n : Int) := by omega
      have p1 : 0 ≤ (j : Int) + 1 := by omega
      have p2 : 0 ≤ (j : Int) + 2 := by omega
      have p3 : 0 ≤ (j : Int) + 3 := by omega
      have n1 : ((j : Int) + 1).toNat = j + 1 := by omega
      have n2 : ((j : Int) + 2).toNat = j + 2 := by omega
      have n3 : ((j : Int) + 3).toNat = j + 3 := by omega
      have w1' : IntKind.i64.wrap ((j : Int) + 1) = (j : Int) + 1 := IntWalk.i64_in _ (by omega)
      have w2' : IntKind.i64.wrap ((j : Int) + 2) = (j : Int) + 2 := IntWalk.i64_in _ (by omega)
      have w3' : IntKind.i64.wrap ((j : Int) + 3) = (j : Int) + 3 := IntWalk.i64_in _ (by omega)
      have v0 : IntKind.u32.wrap x0 = x0 := IntWalk.u32_in _ (by omega)
      have v1 : IntKind.u32.wrap x1 = x1 := IntWalk.u32_in _ (by omega)
      have v2 : IntKind.u32.wrap x2 = x2 := IntWalk.u32_in _ (by omega)
      have v3 : IntKind.u32.wrap x3 = x3 := IntWalk.u32_in _ (by omega)
      have m0 : IntKind.u32.wrap (x0 * 16777216) = x0 * 16777216 := IntWalk.u32_in _ (by omega)
      have m1 : IntKind.u32.wrap (x1 * 65536) = x1 * 65536 := IntWalk.u32_in _ (by omega)
      have m2 : IntKind.u32.wrap (x2 * 256) = x2 * 256 := IntWalk.u32_in _ (by omega)
      have hbb : b < w.heap.size := HI.out.2 _ rfl (by omega)
      have hbr : b < wr.heap.size := by have := hb.size; omega
      have hne : u4.ownBlock ≠ some b := fun h => by have := (hown.lt b h).1; omega
      go_region_held3 (fun w' => w'.cell? ⟨b, off + j, none⟩ = some (.int .u8 x0) ∧ w'.cell? ⟨b, off + (j + 1), none⟩ = some (.int .u8 x1) ∧ w'.cell? ⟨b, off + (j + 2), none⟩ = some (.int .u8 x2) ∧ w'.cell? ⟨b, off + (j + 3), none⟩ = some (.int .u8 x3))
        (first | go_keep | (go_split_ands; refine ⟨?_, ?_, ?_, ?_⟩ <;> (rw [hgrow.cell_far _ (by simp; omega) hne.symm]; assumption)))
        ((refine step_append_lies _ (by rfl) _ _ _ (by rfl) w.heap.size 39 i0 _ 1 4 Tryd.underlying85 hi hz0 hz1 hz2 rfl (by omega) _ _ _ (by rfl) ((hown.alloc _).drew) ⟨wr.heap.size, 0, none⟩ 1 1 [.int .u32 (bits .or .u32 (bits .or .u32 (bits .or .u32 (x0 * 16777216) (x1 * 65536)) (x2 * 256)) x3)] (by rfl) (by rfl) (World.news_of_block (cs := #[.int .u32 (bits .or .u32 (bits .or .u32 (bits .or .u32 (x0 * 16777216) (x1 * 65536)) (x2 * 256)) x3)]) (t := 39) (fr := (0, 0)) (heap_alloc_new wr _)) (by simp [Value.oneCell']) (by omega) (by unfold maxLen; omega) (by omega) (by have := hb.size; simp; omega) (wr.heap.size + 1) (by simp) ?_; intro gg cap w1 hown1 hgrow hat hlt))
      clear n1 n2 n3 w1' w2' w3' v0 v1 v2 v3 m0 m1 m2
      have hown' : w1.ownsRow w.heap.size 39 1 (.slice (some ⟨gg, 0, none⟩) (k + 1) cap) (k + 1) ((wordsOf (bs.take (4 * (k + 1)))).map (Value.int .u32)) := by
        rw [SN.out, List.map_append]
        rw [OR.out] at hown1
        exact hown1
      have hb1 : Below w.heap.size w w1 := ((hb.alloc hb.size _).drew).grown hgrow (by have := hb.size; simp; omega) (fun j hj => (hown.lt j hj).1)
      clear hown1 hgrow hown hat
      go_wp2
      go_roundw
      case rel => exact ⟨j + 4, k + 1, by have := HJ.out; omega, by omega, by go_num, hown', hb1⟩
      case measure => simp [intOf]; omega
    · obtain rfl : q = k := by omega
      have hjn : n ≤ j := by omega
      have ht : bs.take (4 * q) = bs := List.take_of_length_le (by omega)
      rw [ht] at hown
      clear hj hq
      go_wp2
      go_ret2
      obtain ⟨b, c, rfl, hr⟩ := Ints.of_owns hown
      exact ⟨b, q, c, rfl, hr, hb⟩

set_option maxRecDepth 100000 in
set_option maxHeartbeats 400000 in
theorem words_no (a : Option Addr) (n cap : Nat) (w : World) (hn : n < 4294967296) (h4 : n % 4 ≠ 0) :
    Calls Tryd.prog 73 #[.slice a n cap] w fun e w' => e = .returned (.tuple #[.slice none 0 0, .bool false]) ∧ w = w' := by
  have t4 : (n : Int) % 4 ≠ 0 := by omega
  have t5 : ((n : Int) % 4 == 0) = false := by simpa using t4
  go_enter Tryd.func73, Tryd.ntmps73
  go_wp2
  go_ret2
  exact ⟨rfl, rfl⟩

set_option maxRecDepth 100000 in
set_option maxHeartbeats 400000 in
theorem refWords_no (a : Option Addr) (n cap : Nat) (w : World) (hn : n < 4294967296) (h4 : n % 4 ≠ 0) :
    Calls Tryd.prog 62 #[.slice a n cap] w fun e w' => e = .returned (.tuple #[.slice none 0 0, .bool false]) ∧ w = w' := by
  have t4 : (n : Int) % 4 ≠ 0 := by omega
  have t5 : ((n : Int) % 4 == 0) = false := by simpa using t4
  go_enter Tryd.func62, Tryd.ntmps62
  go_wp2
  go_ret2
  exact ⟨rfl, rfl⟩
end Go.Proofs.YtcfachgfgogllaaDoor

/-
  What the document's own answer to word.Words comes to where the bytes are a multiple of four, and whether two slices of words are the same. Conditions: each byte is a number from 0 to 255; at most 2^32 elements.
-/
import Derived.Test.YtcfachgfgogllaaDoorWordWords
import Derived.WalkSmall
namespace Go.Proofs.YtcfachgfgogllaaDoor
open Go.RowKit

def joinStep (s x : Int) : Int := 256 * s % 4294967296 + x
def joinAll (xs : List Int) : Int := xs.foldl joinStep 0
theorem joinAll_snoc (xs : List Int) (k : Nat) (h : k < xs.length) : joinAll (xs.take (k + 1)) = 256 * joinAll (xs.take k) % 4294967296 + xs.getD k 0 := fold_snoc joinStep 0 xs k 0 h
theorem joinAll_four (a b c d : Int) (ha : 0 ≤ a ∧ a < 256) (hb : 0 ≤ b ∧ b < 256) (hc : 0 ≤ c ∧ c < 256) : joinAll [a, b, c, d] = word4 a b c d := by
  simp only [joinAll, List.foldl_cons, List.foldl_nil, joinStep, word4]; omega

set_option maxRecDepth 100000 in
set_option maxHeartbeats 800000 in
theorem refWords_own (a : Option Addr) (n cap : Nat) (bs : List Int) (w : World) (h : Ints .u8 w a n cap bs) (hx : ∀ x ∈ bs, 0 ≤ x ∧ x < 256) (hn : n < 4294967296) (h4 : n % 4 = 0) :
    Calls Tryd.prog 62 #[.slice a n cap] w fun e w' => ∃ b m c, e = .returned (.tuple #[.slice b m c, .bool true]) ∧ Ints .u32 w' b m c (wordsOf bs) ∧ w'.ownsRow w.heap.size 39 1 (.slice b m c) m ((wordsOf bs).map (Value.int .u32)) ∧ Below w.heap.size w w' := by
  obtain ⟨i0, hi, hz0, hz1, hz2⟩ := info_parts infoU32
  have hl := h.len
  have HI := Lib.hid h.isIn
  obtain ⟨q, hq⟩ : ∃ q, n = 4 * q := ⟨n / 4, by omega⟩
  have t4 : (n : Int) % 4 = 0 := by omega
  have HQ := Lib.hid hq
  clear hq h4
  go_enter Tryd.func62, Tryd.ntmps62
  go_wp2
  clear t4
  go_loopw [4, 5] (fun v i wr => ∃ j k : Nat, j = 4 * k ∧ k ≤ q ∧ i = .int .i64 j ∧ wr.ownsRow w.heap.size 39 1 v k ((wordsOf (bs.take (4 * k))).map (Value.int .u32)) ∧ Below w.heap.size w wr) (fun _ i _ => n - (intOf i).toNat)
  case atStart => exact ⟨0, 0, rfl, Nat.zero_le _, rfl, World.ownsRow_nil _ _ _ _, Below.refl _ _⟩
  case round =>
    obtain ⟨j, k, hj, hk, rfl, hown, hb⟩ := hrel
    have hq := HQ.out
    by_cases hlt : k < q
    · have HK := Lib.hid (HI.out.keep hb)
      obtain ⟨b, off, rfl, hc⟩ := HK.out.1.at (by omega)
      obtain ⟨x0, e0⟩ : ∃ x, x = bs.getD j 0 := ⟨_, rfl⟩
      obtain ⟨x1, e1⟩ : ∃ x, x = bs.getD (j + 1) 0 := ⟨_, rfl⟩
      obtain ⟨x2, e2⟩ : ∃ x, x = bs.getD (j + 2) 0 := ⟨_, rfl⟩
      obtain ⟨x3, e3⟩ : ∃ x, x = bs.getD (j + 3) 0 := ⟨_, rfl⟩
      have C := Lib.hid (show ∀ t, t < 4 → wr.cell? ⟨b, off + (j + t), none⟩ = some (.int .u8 ([x0, x1, x2, x3].getD t 0)) from by
        intro t ht
        rw [hc (j + t) (by omega)]
        rcases (show t = 0 ∨ t = 1 ∨ t = 2 ∨ t = 3 from by omega) with rfl | rfl | rfl | rfl <;> simp [e0, e1, e2, e3])
      clear hc
      have r0 : 0 ≤ x0 ∧ x0 < 256 := by rw [e0]; exact getD_range hx j (by omega)
      have r1 : 0 ≤ x1 ∧ x1 < 256 := by rw [e1]; exact getD_range hx (j + 1) (by omega)
      have r2 : 0 ≤ x2 ∧ x2 < 256 := by rw [e2]; exact getD_range hx (j + 2) (by omega)
      have r3 : 0 ≤ x3 ∧ x3 < 256 := by rw [e3]; exact getD_range hx (j + 3) (by omega)
      have SN := Lib.hid (wordsOf_snoc bs k (by omega))
      rw [← hj, ← e0, ← e1, ← e2, ← e3] at SN
      have JF := Lib.hid (joinAll_four x0 x1 x2 x3 r0 r1 r2)
      have R := Lib.hid (show ∀ t, t < 4 → 0 ≤ [x0, x1, x2, x3].getD t 0 ∧ [x0, x1, x2, x3].getD t 0 < 256 from by
        intro t ht
        rcases (show t = 0 ∨ t = 1 ∨ t = 2 ∨ t = 3 from by omega) with rfl | rfl | rfl | rfl <;> simp [r0, r1, r2, r3])
      clear r0 r1 r2 r3
      obtain ⟨L, hL⟩ : ∃ L, L = [x0, x1, x2, x3] := ⟨_, rfl⟩
      have hLl : L.length = 4 := by rw [hL]; rfl
      rw [← hL] at C R JF
      have HLL := Lib.hid hLl
      have hj4 : j + 4 ≤ n := by omega
      have hjn : j < n := by omega
      have hqb : q ≤ 1073741824 := by omega
      rw [← hj] at hown
      have HJ := Lib.hid hj
      clear hj e0 e1 e2 e3 hq hL hLl
      obtain ⟨wo, rfl⟩ : ∃ wo : World, wo = wr := ⟨_, rfl⟩
      go_wp2
      go_loop [6, 7] (fun x t => ∃ i : Nat, i ≤ 4 ∧ t = .int .i64 i ∧ x = .int .u32 (joinAll (L.take i))) (fun _ t => 4 - (intOf t).toNat)
      case atStart => exact ⟨0, by omega, rfl, rfl⟩
      case round =>
        obtain ⟨i, hi4, rfl, rfl⟩ := hrel
        by_cases hlt4 : i < 4
        · have hci := C.out i hlt4
          have hri := R.out i hlt4
          obtain ⟨x, hxe⟩ : ∃ x, x = L.getD i 0 := ⟨_, rfl⟩
          have SJ := Lib.hid (joinAll_snoc L i (by rw [HLL.out]; exact hlt4))
          rw [← hxe] at hci hri SJ; clear hxe
          obtain ⟨hx0, hx1⟩ := hri
          go_wp2
          go_round
          case rel => exact ⟨i + 1, by omega, by go_num, by rw [SJ.out]⟩
          case measure => simp [intOf]; omega
        · obtain rfl : i = 4 := by omega
          have e4 : L.take 4 = L := List.take_of_length_le (by rw [HLL.out]; omega)
          rw [e4]; clear e4
          rw [JF.out]
          go_wp2_with (at_builtin; refine wpList_append_own _ rfl _ _ 85 rfl w.heap.size 39 i0 (.int .u32 0) 1 4 Tryd.underlying85 hi hz0 hz1 hz2 rfl (by decide) _ _ _ rfl (hown.alloc _) ⟨wo.heap.size, 0, none⟩ 1 1 ([word4 x0 x1 x2 x3].map (Value.int .u32)) rfl rfl ?c1 ?c2 ?c3 ?c4 ?c5 ?_)
          case c2 => rfl
          case c3 => unfold maxLen; omega
          case c4 => omega
          case c5 => have := hb.size; simp; omega
          intro v' w1 hown' hgrow _
          have hown1 : w1.ownsRow w.heap.size 39 1 v' (k + 1) ((wordsOf (bs.take (4 * (k + 1)))).map (Value.int .u32)) := by
            rw [SN.out, List.map_append]; exact hown'
          have hb1 : Below w.heap.size w w1 := (hb.alloc hb.size _).grown hgrow (by have := hb.size; simp; omega) (fun j hj => (hown.lt j hj).1)
          clear hown' hgrow hown
          go_wp2
          go_roundw
          case rel => exact ⟨j + 4, k + 1, by have := HJ.out; omega, by omega, by go_num, hown1, hb1⟩
          case measure => simp [intOf]; omega
    · obtain rfl : q = k := by omega
      have hjn : n ≤ j := by omega
      have ht : bs.take (4 * q) = bs := List.take_of_length_le (by omega)
      rw [ht] at hown
      clear hj hq
      go_wp2
      go_ret2
      obtain ⟨b, c, rfl, hr⟩ := Ints.of_owns hown
      exact ⟨b, q, c, rfl, hr, hown, hb⟩

theorem refWords_yes (a : Option Addr) (n cap : Nat) (bs : List Int) (w : World) (h : Ints .u8 w a n cap bs) (hx : ∀ x ∈ bs, 0 ≤ x ∧ x < 256) (hn : n < 4294967296) (h4 : n % 4 = 0) :
    Calls Tryd.prog 62 #[.slice a n cap] w fun e w' => ∃ b m c, e = .returned (.tuple #[.slice b m c, .bool true]) ∧ Ints .u32 w' b m c (wordsOf bs) ∧ Below w.heap.size w w' :=
  (refWords_own a n cap bs w h hx hn h4).mono fun _ _ ⟨b, m, c, h1, h2, _, h4⟩ => ⟨b, m, c, h1, h2, h4⟩

theorem same_step {xs ys : List Int} {k : Nat} (hl : xs.length = ys.length) (h : ∀ i, i < k → xs.getD i 0 = ys.getD i 0) (hk : xs.length ≤ k) : xs = ys := by
  apply List.ext_getElem hl
  intro i h1 h2
  have := h i (by omega)
  rwa [List.getD_eq_getElem?_getD, List.getD_eq_getElem?_getD, List.getElem?_eq_getElem h1, List.getElem?_eq_getElem h2] at this
end Go.Proofs.YtcfachgfgogllaaDoor

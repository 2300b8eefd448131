/-
  The document's own sum of a block with a round key. New memory alone is written.
-/
import Derived.Test.YtohobknianhplaaCipherRefNew
import Derived.Test.YtohobknianhplaaBlocks2
namespace Go.Proofs.Ytohobknianhplaa
open Go.RowKit

theorem bytes_key' (W : Nat → Nat) (h : Wd W) (r : Nat) : bytesOf (wordsL 4 W (4 * r)) = bytesL 16 (keyAt (kb W) r) := by
  have h1 := congrArg (List.map (fun v => match v with | Value.int _ z => z | _ => 0)) (bytes_key W h r)
  rw [List.map_map] at h1
  have h2 : (bytesOf (wordsL 4 W (4 * r))).map ((fun v => match v with | Value.int _ z => z | _ => 0) ∘ Value.int .u8) = bytesOf (wordsL 4 W (4 * r)) := List.map_id _
  rw [h2] at h1
  rw [h1]
  simp [rowN, bytesL, keyAt]
theorem words_cut (n : Nat) (W : Nat → Nat) (s m : Nat) (h : s + m ≤ n) : ((wordsL n W 0).drop s).take m = wordsL m W s := by
  apply List.ext_getElem?
  intro i
  by_cases hi : i < m
  · rw [List.getElem?_take_of_lt hi, List.getElem?_drop]
    simp [wordsL, hi, show s + i < n by omega]
  · rw [List.getElem?_eq_none (by rw [List.length_take, List.length_drop, wordsL_len]; omega), List.getElem?_eq_none (by rw [wordsL_len]; omega)]

set_option maxRecDepth 100000 in
set_option maxHeartbeats 1000000 in
theorem rXor_any (wa : Option Addr) (wc : Nat) (ta : Option Addr) (tc : Nat) (W : Nat → Nat) (r : Nat) (ba : Option Addr) (bc : Nat) (b : Nat → Nat) (w : World)
    (hW : Ints .u32 w wa 60 wc (wordsL 60 W 0)) (hwd : Wd W) (hr : r < 15) (hb : Ints .u8 w ba 16 bc (bytesL 16 b)) (hby : By b) :
    Calls Try.prog 24 #[.agg #[.slice wa 60 wc, .slice ta 256 tc], .int .i64 (r : Int), .slice ba 16 bc] w fun e w' => ∃ oa oc, e = .returned (.slice oa 16 oc) ∧ Ints .u8 w' oa 16 oc (bytesL 16 (bAdd b (keyAt (kb W) r))) ∧ Below w.heap.size w w' := by
  obtain ⟨i0, hi, hz0, hz1, hz2⟩ := info_parts infoU8
  obtain ⟨g, hg⟩ : ∃ g, w.heap.size = g := ⟨_, rfl⟩
  obtain ⟨m, hm⟩ : ∃ m, 4 * r = m := ⟨_, rfl⟩
  have m1 : (4 : Int) * (r : Int) = (m : Int) := by omega
  have m2 : wrap64 (m : Int) = (m : Int) := w64' _ (by omega) (by omega)
  have m3 : wrap64 ((m : Int) + 4) = (m : Int) + 4 := w64' _ (by omega) (by omega)
  have hcut := hW.cut2 m (m + 4) (by omega) (by omega)
  rw [Nat.add_sub_cancel_left, words_cut 60 W m 4 (by omega)] at hcut
  have hml := Lib.hid (show m + 4 ≤ wc by have := hW.2.1; omega)
  have hmr := Lib.hid hm
  have hr15 : (r : Int) < 15 := by omega
  clear hr hm hW
  go_enter Try.func24, Try.ntmps24
  go_wp2_with (first | (refine wpList_cut2 rfl 32 51 (.tmp 11) (.tmp 13) (.tmp 16) rfl Try.underlying32 sizeU32' rfl (l := m) (h := m + 4) rfl rfl ?_ ?_ (Nat.le_add_right m 4) hml.out ?_; (first | rfl | omega); (first | rfl | omega); rw [Nat.add_sub_cancel_left]))
  have b1 := below1 w (.cells #[.slice wa 60 wc, .slice ta 256 tc] 34)
  refine (refBytes_any _ 4 _ (wordsL 4 W m) _ (hcut.keep b1) (wordsL_range hwd 4 m) (by decide)).mono ?_
  rintro e w2 ⟨kA, n, kc, rfl, hK2, b2⟩
  obtain rfl : n = 16 := by rw [← hK2.len, bytesOf_length, wordsL_len]
  rw [← hmr.out, bytes_key' W hwd r] at hK2
  have hB2 := b1.trans (b2.mono b1.size)
  have hb2 := hb.keep hB2
  obtain ⟨kb', koff, rfl, _⟩ := hK2.at (by decide)
  obtain ⟨bb, boff, rfl, _⟩ := hb2.at (by decide)
  obtain ⟨B, hB⟩ : ∃ B, w2.heap.size = B := ⟨_, rfl⟩
  have KC := Lib.hid (fun w' (h : Below B w2 w') (i : Nat) (hi : i < 16) => show w'.cell? ⟨kb', koff + i, none⟩ = some (.int .u8 (keyAt (kb W) r i : Nat)) by
    have h1 := (hK2.keep (by rw [hB]; exact h)).cell_at i hi
    rw [bytesL_at 16 _ i hi] at h1
    exact h1)
  have BC := Lib.hid (fun w' (h : Below B w2 w') (i : Nat) (hi : i < 16) => show w'.cell? ⟨bb, boff + i, none⟩ = some (.int .u8 (b i : Nat)) by
    have h1 := (hb2.keep (by rw [hB]; exact h)).cell_at i hi
    rw [bytesL_at 16 _ i hi] at h1
    exact h1)
  have hB := Lib.hid hB
  have hB2 := Lib.hid hB2
  have hby := Lib.hid hby
  clear hK2 hb2 b1 b2 hb hcut m1 m2 m3 hr15 hwd
  go_wp2
  go_loopw [8, 9] (fun o i wr => ∃ k : Nat, k ≤ 16 ∧ i = .int .i64 k ∧ wr.ownsRow B 5 1 o k (rowN k (bAdd b (keyAt (kb W) r))) ∧ Below B w2 wr) (fun _ i _ => 16 - (intOf i).toNat)
  case atStart => exact ⟨0, by omega, rfl, World.ownsRow_nil _ _ _ _, Below.refl _ _⟩
  case round =>
    obtain ⟨k, hk, rfl, hown, hB0⟩ := hrel
    by_cases hlt : k < 16
    · obtain ⟨bo, co, rfl⟩ : ∃ bo co, u8 = .slice bo k co := by
        obtain ⟨x, y, e, _⟩ := Ints.of_owns (xs := bytesL k (bAdd b (keyAt (kb W) r))) (by rw [bytesL_row]; exact hown)
        exact ⟨x, y, e⟩
      have hxor : bits .xor .u8 (b k : Int) (keyAt (kb W) r k : Int) = ((bAdd b (keyAt (kb W) r) k : Nat) : Int) := bits_xor8 _ _ (hby.out k) (kb_by W _)
      have hlt' := Lib.hid hlt
      have hki : (k : Int) < 16 := by omega
      obtain ⟨v, hv, hD⟩ := Draws.one wr
      have hB1 := hB0.trans (hD.below B)
      have hown : v.ownsRow B 5 1 (.slice bo k co) k (rowN k (bAdd b (keyAt (kb W) r))) := by rw [← hv]; exact hown
      clear hlt hk hB0
      go_wp2_with fail
      refine region_seqS (fun w' => Below B w2 w') (by kernel_rfl) (by rw [hv]; exact hB1) ?_
      simp only [pairs, Nat.reduceAdd]
      change SeqS _ _ _ _ _ _ _ _ wr.drew
      rw [hv]
      clear hv hD
      repeat (first
        | (refine SeqS.take (v := ?_) (by first | assumption | trivial) (by kernel_rfl) (by decide +kernel) (by decide +kernel) (Or.inl ⟨by rfl, ?_⟩) ?_
           rotate_left
           focus
             intro w' hb'
             have d0 := BC.out w' hb' k hlt'.out
             have d1 := KC.out w' hb' k hlt'.out
             go_simp
             with_reducible rfl
           simp only [Act.put, List.setIfInBounds_toArray, List.set_cons_zero, List.set_cons_succ])
        | (refine SeqS.take1 (v := ?_) (by first | assumption | trivial) (by kernel_rfl) (by decide +kernel) (by decide +kernel) (Or.inl ⟨by rfl, ?_⟩) ?_
           rotate_left
           focus
             intro w' hb'
             have d0 := BC.out w' hb' k hlt'.out
             have d1 := KC.out w' hb' k hlt'.out
             go_simp
             with_reducible rfl
           simp only [Act.put, List.setIfInBounds_toArray, List.set_cons_zero, List.set_cons_succ]))
      obtain ⟨z, hz⟩ : ∃ z, bAdd b (keyAt (kb W) r) k = z := ⟨_, rfl⟩
      rw [hz]
      refine SeqS.alone (by decide +kernel) (by rfl) (fun K hK => ?_)
      go_simp
      have hBs : B ≤ v.heap.size := Nat.le_trans (by have := hB.out; omega) hB1.size
      have hone := one_at v .u8 5 (z : Int)
      have hB2' := hB1.alloc hBs (.cells #[.int .u8 (z : Int)] 5)
      have hown2 := hown.alloc (.cells #[.int .u8 (z : Int)] 5)
      obtain ⟨v2, hv2⟩ : ∃ v2, v.alloc (.cells #[.int .u8 (z : Int)] 5) = v2 := ⟨_, rfl⟩
      rw [hv2] at hone hB2' hown2 ⊢
      have hBs2 : B ≤ v2.heap.size := by rw [← hv2]; simp; omega
      clear hv2
      refine hK _ _ hB2' ?_
      clear hK K
      refine SeqS.alone (by decide +kernel) (by rfl) (fun K hK => ?_)
      refine wp_append_ints (.tmp 23) (.tmp 33) 29 rfl B 5 i0 (.int .u8 0) 1 Try.underlying29 hi hz0 hz1 hz2 rfl rfl hown2 rfl hone ?_ ?_ hBs2 ?_
      · have := hlt'.out; unfold maxLen; omega
      · have := hlt'.out; omega
      intro v3 w3 hown3 hg3
      have hB3 := hB2'.grown hg3 hBs2 (fun j hj => (hown2.lt j hj).1)
      have hown3 : w3.ownsRow B 5 1 v3 (k + 1) (rowN (k + 1) (bAdd b (keyAt (kb W) r))) := by rw [rowN_snoc, hz]; exact hown3
      refine hK _ _ hB3 ?_
      clear hK K hown hown2 hone hB1 hB2' hg3
      (refine SeqS.take (v := ?_) (by first | assumption | trivial) (by kernel_rfl) (by decide +kernel) (by decide +kernel) (Or.inl ⟨by rfl, ?_⟩) ?_
       rotate_left
       focus
         intro w' hb'
         go_simp
         with_reducible rfl
       simp only [Act.put, List.setIfInBounds_toArray, List.set_cons_zero, List.set_cons_succ])
      refine SeqS.done (by decide +kernel) ?_
      clear hxor
      go_wp2
      go_roundw
      case rel => exact ⟨k + 1, by have := hlt'.out; omega, by go_num, hown3, hB3⟩
      case measure => have := hlt'.out; simp [intOf]; omega
    · obtain rfl : k = 16 := by omega
      go_wp2
      go_ret
      obtain ⟨b', c', rfl, hr⟩ := Ints.of_owns (xs := bytesL 16 (bAdd b (keyAt (kb W) r))) (by rw [bytesL_row]; exact hown)
      exact ⟨b', c', rfl, hr, hB2.out.trans (hB0.mono (by have := hB.out; have := hB2.out.size; omega))⟩
end Go.Proofs.Ytohobknianhplaa

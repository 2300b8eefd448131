/-
  New makes a cipher of a key of 32 bytes: its round keys hold the bytes of the key's words, its box is one that was made; a key of another length makes none. New memory alone is written. Conditions: each byte of the key is a number from 0 to 255.
-/
import Derived.Test.YtclcnngpgbdjgaaCipherExp
import Derived.Test.YtclcnngpgbdjgaaCipherBuild
namespace Go.Proofs.Ytclcnngpgbdjgaa
open Go.RowKit

theorem size513 : (Try.prog.info? 46).map (·.size) = some 513 := by kernel_rfl
theorem rowBox' : IsRow Try.prog 46 513 := IsRow.struct Try.underlying46 size513

theorem over_row (n s m : Nat) (hs : s + m ≤ n) (F b c : Nat → Nat) (h : ∀ j, j < m → c j = F (s + j)) : overV (rowN n (upto s F b)) s (rowN m c) = rowN n (upto (s + m) F b) := by
  apply List.ext_getElem?
  intro j
  unfold overV
  by_cases hn : j < n
  · rw [rowN_at n _ j hn]
    have hlt : (List.take s (rowN n (upto s F b))).length = s := by rw [List.length_take, rowN_len]; omega
    by_cases h1 : j < s
    · rw [List.getElem?_append_left (by rw [hlt]; exact h1), List.getElem?_take_of_lt h1, rowN_at n _ j hn]
      simp only [upto, if_pos h1, if_pos (show j < s + m by omega)]
    · rw [List.getElem?_append_right (by rw [hlt]; omega), hlt]
      by_cases h2 : j - s < m
      · rw [List.getElem?_append_left (by rw [rowN_len]; exact h2), rowN_at m _ _ h2, h _ h2]
        simp only [upto, if_pos (show j < s + m by omega)]
        rw [show s + (j - s) = j by omega]
      · rw [List.getElem?_append_right (by rw [rowN_len]; omega), rowN_len, List.getElem?_drop, show s + m + (j - s - m) = j by omega, rowN_at n _ j hn]
        simp only [upto, if_neg h1, if_neg (show ¬ j < s + m by omega)]
  · rw [List.getElem?_eq_none (l := rowN n (upto (s + m) F b)) (by rw [rowN_len]; omega), List.getElem?_eq_none]
    simp only [List.length_append, List.length_take, List.length_drop, rowN_len]
    omega
theorem over_ci (k : Nat) (hk : k < 15) (F z f h : Nat → Nat) (bm m : Bool) (c : Nat → Nat) (hc : ∀ j, j < 16 → c j = F (16 * k + j)) :
    overV (ciCells (upto (16 * k) F z) f h bm m) (16 * k) (rowN 16 c) = ciCells (upto (16 * (k + 1)) F z) f h bm m := by
  have h1 := over_row 240 (16 * k) 16 (by omega) F z c hc
  unfold overV at h1 ⊢
  unfold ciCells
  rw [show 16 * (k + 1) = 16 * k + 16 by omega, ← h1, List.take_append_of_le_length (by rw [rowN_len]; omega), List.drop_append_of_le_length (by rw [rowN_len, rowN_len]; omega)]
  simp only [List.append_assoc]

set_option maxHeartbeats 400000 in
theorem cNew_no (a : Option Addr) (n cap : Nat) (w : World) (hn : n ≠ 32) :
    Calls Try.prog 16 #[.slice a n cap] w fun e w' => e = .returned (.tuple #[.pointer none, .int .i64 1]) ∧ w = w' := by
  have h : ((n : Int) != 32) = true := by simp; omega
  clear hn
  go_enter Try.func16, Try.ntmps16
  go_wp2
  go_ret2
  exact ⟨rfl, rfl⟩

set_option maxRecDepth 100000 in
set_option maxHeartbeats 1000000 in
theorem cNew_any (a : Option Addr) (cap : Nat) (bs : List Int) (w : World) (hI : Ints .u8 w a 32 cap bs) (hr : ∀ x ∈ bs, 0 ≤ x ∧ x < 256) :
    Calls Try.prog 16 #[.slice a 32 cap] w fun e w' => ∃ q, e = .returned (.tuple #[.pointer (some ⟨q, 0, none⟩), .int .i64 0]) ∧ w.heap.size ≤ q ∧ CiAt w' q (kb (kws (own bs) 52)) sb bk true true ∧ Below w.heap.size w w' := by
  go_enter Try.func16, Try.ntmps16
  go_wp2_with fail
  refine (bNew_any w).mono ?_
  rintro e w1 ⟨p, rfl, hp, hb, hB1⟩
  have hbx := Lib.hid (built_ci sb bk)
  have hI1 := hI.keep hB1
  have hb : Blk w1 p 46 (boxCells sb bk true) := hb
  clear hI
  go_wp2_with ((refine wpList_load_blk rfl 46 (.tmp 11) rfl ?_ hb rowBox' (boxCells_len _ _ _) ?_); rfl; refine RowKit.Hid.out ?_)
  refine Lib.hid ?_
  with_reducible refine wpList_buildTo rfl 48 _ rfl _ rfl (ciCells zf sb bk true true).toArray ?_ ?_
  · exact Eq.trans (congrArg (Program.built Try.prog 48) (by kernel_rfl)) hbx.out
  go_wp2_with ((with_reducible refine wpList_box_blk rfl 48 (.tmp 13) rfl (ciCells zf sb bk true true) ?_ ?_); rfl)
  obtain ⟨W2, hW2⟩ : ∃ W2, w1.alloc (.cells (ciCells zf sb bk true true).toArray 48) = W2 := ⟨_, rfl⟩
  obtain ⟨q, hq⟩ : ∃ q, w1.heap.size = q := ⟨_, rfl⟩
  have hC2 : CiAt W2 q zf sb bk true true := by rw [← hW2, ← hq]; exact Blk.new w1 _ _
  have hb2 : Below w1.heap.size w1 W2 := by rw [← hW2]; exact below1 w1 _
  have hI2 := hI1.keep hb2
  have hB2 := hB1.trans (hb2.mono hB1.size)
  have hqs : w.heap.size ≤ q := by rw [← hq]; exact hB1.size
  rw [hW2, hq]
  clear hW2 hb2 hq hb hbx hI1 hB1 hp
  refine (cExp_any q zf true true a cap bs W2 hC2 hI2 hr).mono ?_
  rintro e w3 ⟨rfl, h3⟩
  have hC3 : CiAt w3 q zf sb bk true true := Blk.keep hC2 h3 (Blk.lt hC2)
  have hB3 := hB2.trans (h3.mono hB2.size)
  have hwd := Lib.hid (kws_wd (own_wd bs hr) 52)
  obtain ⟨W, hW⟩ : ∃ W, kws (own bs) 52 = W := ⟨_, rfl⟩
  rw [hW] at hwd ⊢
  have hW := Lib.hid hW
  have hg5 := Blk.new w3 67 (rowU 60 zf)
  have HI := row60 W
  have HF := Lib.hid (fit60 zf W)
  have H1 := Lib.hid (rowU_one 60 W)
  clear hC2 hI2 hB2 h3 hr
  go_wp2_with (first
    | (with_reducible refine wpList_alloc_blk rfl 67 rfl zero60 ?_)
    | ((with_reducible refine wpList_store_part (cs := rowU 60 W) rfl 67 (.tmp 5) (.tmp 17) rfl ?_ ?_ hg5 HI HF.out H1.out ?_); rfl; rfl; intro w4 hX4 hg4; refine RowKit.Hid.out ?_))
  refine Lib.hid ?_
  rw [over60] at hX4
  have b4 : Below w3.heap.size w3 w4 := (below1 w3 _).trans (below_of_grown hg4 (Nat.le_refl _) (by rw [size1]; omega))
  have hql : q < w3.heap.size := Blk.lt hC3
  have hC4 : CiAt w4 q (upto (16 * 0) (kb W) zf) sb bk true true := by rw [upto_zero]; exact Blk.keep hC3 b4 hql
  have hB4 := hB3.trans (b4.mono hB3.size)
  obtain ⟨g, hg⟩ : ∃ g, w3.heap.size = g := ⟨_, rfl⟩
  rw [hg] at hX4 hql ⊢
  obtain ⟨z, hz⟩ : ∃ z, w.heap.size = z := ⟨_, rfl⟩
  rw [hz] at hB4 hqs
  have hz := Lib.hid hz
  have hql := Lib.hid hql
  have hqs := Lib.hid hqs
  clear hC3 hB3 hg5 HI HF H1 hg4 b4 hg
  go_wp2
  go_loopw [18] (fun i wr => ∃ k : Nat, k ≤ 15 ∧ i = .int .i64 k ∧ CiAt wr q (upto (16 * k) (kb W) zf) sb bk true true ∧ Blk wr g 67 (rowU 60 W) ∧ Below z w wr) (fun i _ => 15 - (intOf i).toNat)
  case atStart => exact ⟨0, by omega, rfl, hC4, hX4, hB4⟩
  case round =>
    clear hC4 hX4 hB4
    obtain ⟨k, hk, rfl, hC, hx, hB⟩ := hrel
    by_cases hlt : k < 15
    · obtain ⟨v, hv, hD⟩ := Draws.one wr
      have hx := hD.blk hx
      have hB := hB.trans (hD.below z)
      have hC : CiAt v q (upto (16 * k) (kb W) zf) sb bk true true := hD.blk hC
      have hki : (k : Int) < 15 := by omega
      obtain ⟨m, hm⟩ : ∃ m, 4 * k = m := ⟨_, rfl⟩
      have m1 : IntKind.i64.wrap (4 * (k : Int)) = (m : Int) := by rw [IntKind.wrap_i64]; omega
      have m2 : IntKind.i64.wrap ((k : Int) + 1) = (k : Int) + 1 := by rw [IntKind.wrap_i64]; omega
      obtain ⟨h, hh⟩ : ∃ h, m + 4 = h := ⟨_, rfl⟩
      have m3 : IntKind.i64.wrap (4 * ((k : Int) + 1)) = (h : Int) := by rw [IntKind.wrap_i64]; omega
      have m4 : (m : Int) ≤ (h : Int) := by omega
      have m5 : (h : Int) ≤ 60 := by omega
      have hne : ¬ 60 = m := by omega
      have hhm : h - m = 4 := by omega
      have hm4 : m + 4 ≤ 60 := by omega
      have hinv : ∀ i, i < 4 → (rowU 60 W)[m + i]? = some (.int .u32 ((wordsL 4 W (4 * k)).getD i 0)) := fun i hi => by
        rw [rowU_at 60 _ _ (by omega), wordsL_at 4 _ _ _ hi, hm]
      have hinv := Lib.hid hinv
      have hm4 := Lib.hid hm4
      have hlt' := Lib.hid hlt
      clear hm hh hk hlt
      go_wp2_with fail
      refine region_seqS (fun _ => True) (by kernel_rfl) trivial ?_
      simp only [pairs, Nat.reduceAdd]
      change SeqS _ _ _ _ _ _ _ _ wr.drew
      rw [hv]
      clear hv hD
      repeat (first
        | (refine SeqS.take (v := ?_) (by first | assumption | trivial) (by kernel_rfl) (by decide +kernel) (by decide +kernel) (Or.inl ⟨by rfl, ?_⟩) ?_
           rotate_left
           focus
             intro w' hb'
             go_simp
             with_reducible rfl
           simp only [Act.put, List.setIfInBounds_toArray, List.set_cons_zero, List.set_cons_succ]))
      refine SeqS.alone (by decide +kernel) (by rfl) (fun K hK => ?_)
      go_simp
      have hIn : Ints .u32 v (some ⟨g, m, none⟩) 4 (60 - m) (wordsL 4 W (4 * k)) := Ints.of_blk hx (wordsL_len 4 _ _) (by have := hm4.out; omega) hinv.out
      refine (bytes_any _ 4 _ (wordsL 4 W (4 * k)) v hIn (wordsL_range hwd.out 4 _) (by decide)).mono ?_
      rintro e v2 ⟨b, n, c, rfl, hOut, h1⟩
      obtain rfl : n = 16 := by rw [← hOut.len, bytesOf_length, wordsL_len]
      have hx := hx.keep h1 hx.lt
      have hC : CiAt v2 q (upto (16 * k) (kb W) zf) sb bk true true := Blk.keep hC h1 (Blk.lt hC)
      have hB := hB.trans (h1.mono (by have := hB.size; have := hz.out; omega))
      clear h1 hIn
      go_simp
      refine hK _ _ trivial ?_
      clear hK K
      refine SeqS.alone (by decide +kernel) (by rfl) (fun K hK => ?_)
      have CF : CopyFits v2 (some ⟨q, k * 16, none⟩) b 16 16 q (k * 16) (ciCells (upto (16 * k) (kb W) zf) sb bk true true).length (((bytesOf (wordsL 4 W (4 * k))).take 16).map (Value.int .u8)) :=
        hOut.copyFits rfl (fun _ => rfl) (by rw [ciCells_len]; have := hlt'.out; omega)
      refine wp_copy_blk (.tmp 26) (.tmp 33) 31 31 rfl 5 Try.underlying31 sizeU8' _ _ _ _ _ _ rfl rfl q (k * 16) _ _ hC _ CF.n CF.pos CF.fit CF.one ?_
      intro v3 hC3 hg3
      have hC3 : CiAt v3 q (upto (16 * (k + 1)) (kb W) zf) sb bk true true := by
        rw [List.take_of_length_le (by rw [bytesOf_length, wordsL_len]; exact Nat.le_refl 16), bytes_key W hwd.out k, Nat.mul_comm k 16] at hC3
        exact hC3.cast (over_ci k hlt'.out (kb W) zf sb bk true true _ (fun j _ => rfl))
      have hx3 := hx.grown hg3 (by intro e; injection e with e; have := hql.out; omega)
      have hB3 := hB.trans (below_of_grown hg3 hqs.out (Blk.lt hC))
      clear hx hB hC hg3 CF hOut
      refine hK _ _ trivial ?_
      clear hK K
      refine SeqS.done (by decide +kernel) ?_
      go_wp2
      go_roundw
      case rel => exact ⟨k + 1, by have := hlt'.out; omega, by go_num, hC3, hx3, hB3⟩
      case measure => have := hlt'.out; simp [intOf]; omega
    · obtain rfl : k = 15 := by omega
      have hC : CiAt wr q (kb W) sb bk true true := Blk.cast hC (by unfold ciCells; rw [rowN_congr (upto_all 240 (kb W) zf)])
      go_wp2
      go_ret2
      refine ⟨q, rfl, ?_, ?_, ?_⟩
      · rw [hz.out]; exact hqs.out
      · rw [hW.out]; exact hC
      · rw [hz.out]; exact hB
end Go.Proofs.Ytclcnngpgbdjgaa

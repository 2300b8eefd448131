/-
  The program's reading of a text as bytes (layer 12): Bytes. New memory alone is written. Conditions: at most three thousand signs.
-/
import Derived.Test.YtnfjmhppajdmaaaDoorHpDig
import Derived.Test.YtnfjmhppajdmaaaDoorHexRefB
import Derived.Test.YtnfjmhppajdmaaaDoorAppends
import Derived.Laws.MakeOwn
namespace Go.Proofs.YtnfjmhppajdmaaaDoor
open Go.RowKit

/-- What byte k holds behind i signs. -/
def hv (ss : List Int) (i k : Nat) : Int := if i ≤ 2 * k then 0 else if i = 2 * k + 1 then dig (ss.getD (2 * k) 0) else 16 * dig (ss.getD (2 * k) 0) + dig (ss.getD (2 * k + 1) 0)
def hrow (ss : List Int) (i M : Nat) : List Value := (List.range M).map fun k => .int .u8 (hv ss i k)
theorem hrow_len (ss : List Int) (i M : Nat) : (hrow ss i M).length = M := by simp [hrow]
theorem hrow_at (ss : List Int) (i M k : Nat) (h : k < M) : (hrow ss i M)[k]? = some (.int .u8 (hv ss i k)) := by simp [hrow, h]
theorem hv_next (ss : List Int) (i : Nat) : hv ss (i + 1) (i / 2) = 16 * hv ss i (i / 2) + dig (ss.getD i 0) := by
  unfold hv
  by_cases h : i % 2 = 0
  · have e : 2 * (i / 2) = i := by omega
    rw [if_neg (by omega), if_pos (by omega), if_pos (by omega), e]
    omega
  · have e : 2 * (i / 2) + 1 = i := by omega
    rw [if_neg (by omega), if_neg (by omega), if_neg (by omega), if_pos (by omega), e]
theorem hv_else (ss : List Int) (i k : Nat) (h : k ≠ i / 2) : hv ss (i + 1) k = hv ss i k := by
  unfold hv
  by_cases h1 : i ≤ 2 * k
  · rw [if_pos h1, if_pos (by omega)]
  · rw [if_neg h1, if_neg (by omega), if_neg (by omega), if_neg (by omega)]
theorem hrow_set (ss : List Int) (i M : Nat) (h : i / 2 < M) : (hrow ss i M).set (i / 2) (.int .u8 (16 * hv ss i (i / 2) + dig (ss.getD i 0))) = hrow ss (i + 1) M := by
  apply List.ext_getElem?
  intro j
  rw [List.getElem?_set]
  by_cases hj : j < M
  · rw [hrow_at ss (i + 1) M j hj]
    by_cases e : i / 2 = j
    · subst e
      rw [if_pos rfl, if_pos (by rw [hrow_len]; exact h), hv_next]
    · rw [if_neg e, hrow_at ss i M j hj, hv_else ss i j (fun h => e h.symm)]
  · rw [List.getElem?_eq_none (by rw [hrow_len]; omega), List.getElem?_eq_none (by rw [hrow_len]; omega)]
    split
    · omega
    · rfl
theorem hv_low (ss : List Int) (i : Nat) (h : ∀ k, k < i → 0 ≤ dig (ss.getD k 0)) : 0 ≤ hv ss i (i / 2) ∧ hv ss i (i / 2) < 16 := by
  unfold hv
  split
  · omega
  · rw [if_pos (by omega)]
    exact ⟨h _ (by omega), dig_lt _⟩
theorem hrow_zero (ss : List Int) (M : Nat) : List.replicate M (Value.int .u8 0) = hrow ss 0 M := by
  apply List.ext_getElem?
  intro k
  by_cases h : k < M
  · rw [hrow_at ss 0 M k h, List.getElem?_replicate, if_pos h]
    unfold hv
    rw [if_pos (Nat.zero_le _)]
  · rw [List.getElem?_replicate, if_neg h, List.getElem?_eq_none (by rw [hrow_len]; omega)]
theorem hv_full (ss : List Int) (N k : Nat) (h : 2 * k + 1 < N) : hv ss N k = 16 * dig (ss.getD (2 * k) 0) + dig (ss.getD (2 * k + 1) 0) := by
  unfold hv
  rw [if_neg (by omega), if_neg (by omega)]
/-- The bytes of j hxPairs of signs. -/
def hxPairs (ss : List Int) (j : Nat) : List Int := (List.range j).map fun k => 16 * dig (ss.getD (2 * k) 0) + dig (ss.getD (2 * k + 1) 0)
theorem mid_pairs (ss : List Int) : ∀ j : Nat, 2 * j ≤ ss.length → (∀ k, k < 2 * j → 0 ≤ dig (ss.getD k 0)) → Mid ss (2 * j) (hxPairs ss j)
  | 0, _, _ => Mid.start ss
  | j + 1, h, hd => by
    have h1 := (mid_pairs ss j (by omega) (fun k hk => hd k (by omega))).step (by omega) (by have := hd (2 * j) (by omega); have := hd (2 * j + 1) (by omega); omega)
    rw [show 2 * (j + 1) = 2 * j + 2 by omega]
    unfold hxPairs at h1 ⊢
    rw [List.range_succ, List.map_append]
    exact h1
theorem hxPairs_done (ss : List Int) (h : ss.length % 2 = 0) (hd : ∀ k, k < ss.length → 0 ≤ dig (ss.getD k 0)) : ofB ss = some (hxPairs ss (ss.length / 2)) :=
  (mid_pairs ss (ss.length / 2) (by omega) (fun k hk => hd k (by omega))).done (by omega)
theorem hxPairs_none (ss : List Int) (h : ss.length % 2 = 0) (i : Nat) (hi : i < ss.length) (hd : ∀ k, k < i → 0 ≤ dig (ss.getD k 0)) (hb : dig (ss.getD i 0) < 0) : ofB ss = none := by
  refine (mid_pairs ss (i / 2) (by omega) (fun k hk => hd k (by omega))).none (by omega) ?_
  by_cases e : i % 2 = 0
  · left; rw [show 2 * (i / 2) = i by omega]; exact hb
  · right; rw [show 2 * (i / 2) + 1 = i by omega]; exact hb
theorem hxPairs_getD (ss : List Int) (M k : Nat) (h : k < M) : (hxPairs ss M).getD k 0 = 16 * dig (ss.getD (2 * k) 0) + dig (ss.getD (2 * k + 1) 0) := by
  rw [List.getD_eq_getElem?_getD]
  simp [hxPairs, h]

theorem or_half16 : ∀ y d : Fin 16, bits BinOp.or IntKind.u8 (((y.1 : Nat) : Int) * 16) ((d.1 : Nat) : Int) = 16 * ((y.1 : Nat) : Int) + ((d.1 : Nat) : Int) := by decide +kernel
theorem or_half {Y D : Int} (hy : 0 ≤ Y ∧ Y < 16) (hd : 0 ≤ D ∧ D < 16) : bits BinOp.or IntKind.u8 (Y * 16) D = 16 * Y + D := by
  obtain ⟨y, rfl⟩ : ∃ y : Nat, Y = (y : Int) := ⟨Y.toNat, by omega⟩
  obtain ⟨d, rfl⟩ : ∃ d : Nat, D = (d : Int) := ⟨D.toNat, by omega⟩
  exact or_half16 ⟨y, by omega⟩ ⟨d, by omega⟩

set_option maxRecDepth 100000 in
set_option maxHeartbeats 1000000 in
theorem hBytes_any (s : ByteArray) (w : World) (hm : s.size ≤ 3000) :
    Calls Tryd.prog 8 #[.string s] w fun q w' => ∃ b c, q = .returned (.tuple #[.slice b (unText (numsOf s)).1.length c, .int .i64 (unText (numsOf s)).2]) ∧ Ints .u8 w' b (unText (numsOf s)).1.length c (unText (numsOf s)).1 ∧ (∀ x, b = some x → w.heap.size ≤ x.block) ∧ Below w.heap.size w w' := by
  obtain ⟨i0, hi, hz0, hz1, hz2⟩ := info_u8b
  have hl := numsOf_length s
  have heq := toList_nums s { data := #[45] }
  rw [show numsOf { data := #[45] } = [45] by decide +kernel, show ({ data := #[45] } : ByteArray).toList = [45] by decide +kernel] at heq
  have hsg := sign_at s
  have hrr := fun i => decode_le s i
  obtain ⟨ss, hss⟩ : ∃ ss, numsOf s = ss := ⟨_, rfl⟩
  rw [hss] at hl heq ⊢
  rw [hss] at hsg
  by_cases h1 : ss = [45]
  · rw [decide_eq_true h1] at heq
    rw [h1, unText_dash]
    clear hsg hrr
    go_enter Tryd.func8, Tryd.ntmps8
    go_wp2
    go_ret2
    exact ⟨none, 0, rfl, ⟨rfl, Nat.le_refl _, .inl rfl⟩, (fun x h => by cases h), Below.refl _ _⟩
  rw [decide_eq_false h1] at heq
  have heq0 := toList_nums s { data := #[] }
  rw [show numsOf { data := #[] } = [] by decide +kernel, show ({ data := #[] } : ByteArray).toList = [] by decide +kernel, hss] at heq0
  obtain ⟨N, hN⟩ : ∃ N, s.size = N := ⟨_, rfl⟩
  rw [hN] at hl hm
  by_cases h2 : ss = []
  · rw [h2, unText_nil]
    rw [decide_eq_true h2] at heq0
    clear hsg hrr
    go_enter Tryd.func8, Tryd.ntmps8
    go_wp2
    go_ret2
    exact ⟨none, 0, rfl, ⟨rfl, Nat.le_refl _, .inl rfl⟩, (fun x h => by cases h), Below.refl _ _⟩
  rw [decide_eq_false h2] at heq0
  have hNp : 0 < N := by rw [← hl]; exact List.length_pos_iff.2 h2
  by_cases h3 : N % 2 = 1
  · rw [unText_none h1 h2 (ofB_odd ss (by omega))]
    have hN1 : (N : Int) % 2 = 1 := by omega
    clear hsg hrr
    go_enter Tryd.func8, Tryd.ntmps8
    go_wp2
    go_ret2
    exact ⟨none, 0, rfl, ⟨rfl, Nat.le_refl _, .inl rfl⟩, (fun x h => by cases h), Below.refl _ _⟩
  have hN1 : (N : Int) % 2 = 0 := by omega
  obtain ⟨M, hM⟩ : ∃ M, N / 2 = M := ⟨_, rfl⟩
  have hM1 : (N : Int) / 2 = (M : Int) := by omega
  have hMI : (M : Int) ≤ 3000 := by omega
  have hsgH := Lib.hid hsg
  clear hsg hM hm h3
  go_enter Tryd.func8, Tryd.ntmps8
  go_wp2_with (at_make; refine wpList_make_two rfl _ _ 22 rfl w.heap.size 5 i0 (.int .u8 0) Tryd.underlying22 hi hz0 hz1 rfl (n := M) (C := M) rfl rfl rfl rfl (Nat.le_refl _) ?_ ?_ (Nat.le_refl _) ?_; (rw [hz2]; omega); (unfold maxLen; omega); intro w1 hown1 hk1 hg1; refine RowKit.Hid.out ?_)
  rw [hrow_zero ss M] at hk1
  have hB1 : Below w.heap.size w w1 := (Below.refl _ _).grown hg1 (Nat.le_refl _) (fun k hk => by cases hk)
  refine Lib.hid ?_
  clear hown1 hg1
  go_wp2_with fail
  obtain ⟨IT, hIT⟩ : ∃ IT, w1.heap.size = IT := ⟨_, rfl⟩
  have hGI : w.heap.size < IT := by rw [← hIT]; exact hk1.lt
  have hit0 : (w1.iter s 0).heap[IT]? = some (.stringIter s 0) := by rw [← hIT]; exact World.iter_heap w1 s 0
  have hk2 : Blk (w1.iter s 0) w.heap.size 5 (hrow ss 0 M) := hk1.alloc _
  have hB2 : Below w.heap.size w (w1.iter s 0) := hB1.alloc hB1.size _
  rw [hIT]
  clear hIT hk1 hB1
  go_loopw [] (fun wr => ∃ i : Nat, i ≤ N ∧ wr.heap[IT]? = some (.stringIter s i) ∧ Blk wr w.heap.size 5 (hrow ss i M) ∧ Below w.heap.size w wr ∧ (∀ k, k < i → 0 ≤ dig (ss.getD k 0))) (fun wr => N - wr.iterPos IT)
  case atStart => exact ⟨0, Nat.zero_le _, hit0, hk2, hB2, fun k h => absurd h (Nat.not_lt_zero k)⟩
  case round =>
    clear hit0 hk2 hB2
    obtain ⟨i, hiN, hit, hk, hB, hd⟩ := hrel
    by_cases hlt : i < N
    · have hnx : ∀ ty, (Instr.next (.pointer (some ⟨IT, 0, none⟩)) true ty).run Tryd.prog wr = _ := fun ty => Lib.run_next_any_at wr IT s i ty hit (by omega)
      have hit2 := Lib.iterAt_heap wr IT s i (i + (Utf8.decode s i).2) hit
      have hk2 : Blk (wr.iterAt IT s (i + (Utf8.decode s i).2)) w.heap.size 5 (hrow ss i M) := (Lib.iterAt_other wr IT w.heap.size s (i + (Utf8.decode s i).2) (by omega)).trans hk
      have hB2 := Lib.below_iterAt hB (k := IT) (by omega) s (i + (Utf8.decode s i).2)
      have c1 := hDigit_any ((Utf8.decode s i).1 : Int) (by omega) (by have := hrr i; omega)
      obtain ⟨V, hV⟩ : ∃ V, wr.iterAt IT s (i + (Utf8.decode s i).2) = V := ⟨_, rfl⟩
      rw [hV] at hnx hit2 hk2 hB2
      rcases hsgH.out i (by omega) with ⟨hg, hde, hdr⟩ | ⟨hg, hdr⟩
      · rw [hdr] at c1
        rw [hde] at hit2
        obtain ⟨R, hR⟩ : ∃ R : Int, ((Utf8.decode s i).1 : Int) = R := ⟨_, rfl⟩
        rw [hR] at c1 hnx
        have hlow := hv_low ss i hd
        have hset := hrow_set ss i M (by omega)
        have hc := (hk2.cell (i / 2)).trans (hrow_at ss i M (i / 2) (by omega))
        have hdl := dig_lt (ss.getD i 0)
        obtain ⟨D, hD⟩ : ∃ D, dig (ss.getD i 0) = D := ⟨_, rfl⟩
        obtain ⟨Y, hY⟩ : ∃ Y, hv ss i (i / 2) = Y := ⟨_, rfl⟩
        rw [hD] at c1 hset hg hdl
        rw [hY] at hset hc hlow
        have hf := hk2.frozen (i / 2)
        obtain ⟨Q, hQ⟩ : ∃ Q, i / 2 = Q := ⟨_, rfl⟩
        rw [hQ] at hset hc hf
        have hi2 : (i : Int) / 2 = (Q : Int) := by omega
        have hQM : (Q : Int) < (M : Int) := by omega
        have hD16 : (D == 16) = false := beq_false_of_ne (by omega)
        have hdH := Lib.hid hd
        have hltH := Lib.hid hlt
        have hDH := Lib.hid hD
        have hgH := Lib.hid hg
        have hitH := Lib.hid hit
        clear hdr hde hd hlt hiN hR hV hD hY hQ hit hk hB hM1 hN1 hl
        go_wp2_with fail
        refine (c1 V).mono ?_
        rintro q w2 ⟨rfl, rfl⟩
        go_wp2_with fail
        rw [or_half hlow ⟨hgH.out, hdl⟩]
        have hk3 := hk2.set Q (.int .u8 (16 * Y + D))
        rw [hset] at hk3
        have hit3 : (V.setCell ⟨w.heap.size, Q, none⟩ (.int .u8 (16 * Y + D))).heap[IT]? = some (.stringIter s (i + 1)) := (Below.heap_setCell V ⟨w.heap.size, Q, none⟩ (.int .u8 (16 * Y + D)) IT (show IT ≠ w.heap.size by omega)).trans hit2
        refine ⟨⟨i + 1, by have := hltH.out; omega, hit3, hk3, hB2.setCell (p := ⟨w.heap.size, Q, none⟩) (Nat.le_refl _) _, fun k hk => ?_⟩, ?_⟩
        · by_cases e : k = i
          · rw [e, hDH.out]; exact hgH.out
          · exact hdH.out k (by omega)
        · simp only [World.iterPos, hit3, hitH.out]
          have := hltH.out
          omega
      · rw [hdr] at c1
        have hU := Lib.hid (unText_none h1 h2 (hxPairs_none ss (by omega) i (by omega) hd hg))
        obtain ⟨R, hR⟩ : ∃ R : Int, ((Utf8.decode s i).1 : Int) = R := ⟨_, rfl⟩
        rw [hR] at c1 hnx
        clear hdr hd hlt hiN hR hV hit hk hB hM1 hN1 hl hit2
        go_wp2_with fail
        refine (c1 V).mono ?_
        rintro q w2 ⟨rfl, rfl⟩
        go_wp2
        go_ret2
        rw [hU.out]
        exact ⟨none, 0, rfl, ⟨rfl, Nat.le_refl _, .inl rfl⟩, (fun x h => by cases h), hB2⟩
    · obtain rfl : i = N := by omega
      have hnx : ∀ ty, (Instr.next (.pointer (some ⟨IT, 0, none⟩)) true ty).run Tryd.prog wr = _ := fun ty => Lib.run_next_end_at wr IT s i ty hit (by omega)
      have hU := Lib.hid (unText_some h1 h2 (hxPairs_done ss (by omega) (fun k hk => hd k (by omega))))
      have hMl : ss.length / 2 = M := by omega
      have hM2 := Lib.hid (show 2 * M ≤ i by omega)
      rw [hMl] at hU
      clear hlt hM1 hN1 hd hit hsgH
      go_wp2
      go_ret2
      rw [hU.out]
      have hpl : (hxPairs ss M).length = M := by simp [hxPairs]
      dsimp only
      rw [hpl]
      refine ⟨some ⟨w.heap.size, 0, none⟩, M, rfl, Ints.of_blk hk hpl (Nat.le_refl _) fun k hk => ?_, (fun x h => by cases h; exact Nat.le_refl _), hB⟩
      rw [Nat.zero_add, hrow_at ss i M k hk, hv_full ss i k (by have := hM2.out; omega), hxPairs_getD ss M k hk]
end Go.Proofs.YtnfjmhppajdmaaaDoor

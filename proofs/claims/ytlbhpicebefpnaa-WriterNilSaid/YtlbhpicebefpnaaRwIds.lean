/-
  The document's own writer (layer 10): Ids. New memory alone is written. Conditions: at most a million bytes.
-/
import Derived.Test.YtlbhpicebefpnaaRwNum
import Derived.Test.YtlbhpicebefpnaaRdIds
import Derived.Test.YtlbhpicebefpnaaSteps
namespace Go.Proofs.Ytlbhpicebefpnaa
open Go.RowKit

theorem ids_chunk {w : World} {b off n cap : Nat} {zs : List Int} (h : IdsAt w (some ⟨b, off, none⟩) n cap zs) (j : Nat) (hj : j < n) : Ints .u8 w (some ⟨b, off + j * 32, none⟩) 32 32 ((zs.drop (32 * j)).take 32) := by
  have hl := h.1
  refine ⟨by rw [List.length_take, List.length_drop, hl]; omega, Nat.le_refl _, .inr ⟨b, off + j * 32, rfl, fun i hi => ?_⟩⟩
  rcases h.2.2 with h0 | ⟨b', off', ha, hc⟩
  · omega
  · injection ha with ha
    injection ha with e1 e2 _
    subst e1; subst e2
    have h1 := hc (j * 32 + i) (by omega)
    rw [show off + j * 32 + i = off + (j * 32 + i) by omega, h1]
    congr 2
    rw [List.getD_eq_getElem?_getD, List.getD_eq_getElem?_getD, List.getElem?_take_of_lt hi, List.getElem?_drop, show 32 * j + i = j * 32 + i by omega]
theorem take_chunk (zs : List Int) (j : Nat) : (zs.take (32 * j)).map (Value.int .u8) ++ ((zs.drop (32 * j)).take 32).map (Value.int .u8) = (zs.take (32 * (j + 1))).map (Value.int .u8) := by
  rw [← List.map_append, ← List.take_add, show 32 * (j + 1) = 32 * j + 32 by omega]

set_option maxRecDepth 100000 in
set_option maxHeartbeats 1000000 in
theorem rwIds_any (r : Int) (a b : Option Addr) (n c m d : Nat) (e : Int) (xs zs : List Int) (w : World) (hI : Ints .u8 w a n c xs) (hJ : IdsAt w b m d zs) (hm : n + 32 * m ≤ 90000000) :
    Calls Try.prog 31 #[.agg #[.int .i64 r, .slice a n c, .int .i64 e], .slice b m d] w fun q w' => ∃ a' n' c', q = .returned (.agg #[.int .i64 r, .slice a' n' c', .int .i64 (wrStep r xs e zs).2]) ∧ Ints .u8 w' a' n' c' (wrStep r xs e zs).1 ∧ Stays w a a' n n' ∧ Below w.heap.size w w' := by
  have hmH := Lib.hid hm
  clear hm
  obtain ⟨i0, hi, hz0, hz1, hz2⟩ := info_u8b
  go_enter Try.func31, Try.ntmps31
  go_wp2_with fail
  obtain ⟨V, hV⟩ : ∃ V, (w.alloc (.cells #[.int .i64 r, .slice a n c, .int .i64 e] 30)).alloc (.cells #[.int .i64 0, .slice none 0 0, .int .i64 0] 30) = V := ⟨_, rfl⟩
  obtain ⟨G, hG⟩ : ∃ G, w.heap.size = G := ⟨_, rfl⟩
  have hx : Blk V G 30 (wrC r a n c e) := by rw [← hV, ← hG]; exact (Blk.new w _ (wrC r a n c e)).alloc _
  have hr : Blk V (G + 1) 30 (wrC 0 none 0 0 0) := by rw [← hV, ← hG]; exact Blk.new1 w _ _ (wrC 0 none 0 0 0)
  have hB : Below G w V := by rw [← hV, ← hG]; exact below2 w _ _
  have hs : G + 2 ≤ V.heap.size := by rw [← hV, ← hG, size2]; omega
  have hGH := Lib.hid hG
  have hIB := hI.isIn.2
  have hJl := Lib.hid hJ.1
  have IK := Lib.hid (fun w' (h : Below G w w') => (hI.keep (by rw [hG]; exact h) : Ints .u8 w' a n c xs))
  have JK := Lib.hid (fun w' (h : Below G w w') => (hJ.keep (by rw [hG]; exact h) : IdsAt w' b m d zs))
  rw [hV, hG]
  clear hV hG hI hJ
  go_loopw [5, 6] (fun v i wr => ∃ j : Nat, j ≤ m ∧ i = .int .i64 j ∧ wr.ownsRow (G + 2) 5 1 v (32 * j) ((zs.take (32 * j)).map (Value.int .u8)) ∧ Blk wr G 30 (wrC r a n c e) ∧ Blk wr (G + 1) 30 (wrC 0 none 0 0 0) ∧ Below G w wr ∧ G + 2 ≤ wr.heap.size) (fun _ i _ => m - (intOf i).toNat)
  case atStart => exact ⟨0, Nat.zero_le _, rfl, World.ownsRow_nil _ _ _ _, hx, hr, hB, hs⟩
  case round =>
    clear hx hr hB hs
    obtain ⟨j, hj, rfl, hown, hx, hr, hB, hs⟩ := hrel
    by_cases hlt : j < m
    · have hji : (j : Int) < (m : Int) := by omega
      have hJr := JK.out _ hB
      obtain ⟨lb, lo, rfl⟩ : ∃ lb lo, b = some ⟨lb, lo, none⟩ := by
        rcases hJr.2.2 with h0 | ⟨lb, lo, h, _⟩
        · omega
        · exact ⟨lb, lo, h⟩
      have hch := ids_chunk hJr j hlt
      have hltH := Lib.hid hlt
      have hmI : (m : Int) ≤ 90000000 := by have := hmH.out; omega
      clear hJr hlt hj
      go_wp2_with (first
        | (refine wpList_arr rfl 34 5 32 (.tmp 16) rfl Try.underlying34 sizeU8s rfl ?_)
        | (at_builtin
           refine wpList_append_ints rfl (.tmp 13) (.tmp 17) 27 rfl (G + 2) 5 i0 (.int .u8 0) 1 Try.underlying27 hi hz0 hz1 hz2 rfl rfl hown rfl hch ?_ ?_ hs ?_
           (have := hltH.out; have := hmH.out; unfold maxLen; omega)
           (have := hltH.out; have := hmH.out; omega)
           intro v5 w5 own5 g5
           refine RowKit.Hid.out ?_))
      refine Lib.hid ?_
      rw [take_chunk, show 32 * j + 32 = 32 * (j + 1) by omega] at own5
      have g5' : wr.grownBy w5 u5.ownBlock := g5
      have hx5 := hx.grown g5' (fun e => by have := (hown.lt G e.symm).1; omega)
      have hr5 := hr.grown g5' (fun e => by have := (hown.lt (G + 1) e.symm).1; omega)
      have hB5 : Below G w w5 := hB.grown g5' (by omega) (fun k hk => by have := (hown.lt k hk).1; omega)
      have hs5 := Nat.le_trans hs g5'.size
      clear g5 g5' hown hx hr hB hs hch
      go_wp2
      exact ⟨⟨j + 1, by have := hltH.out; omega, by congr 1, own5, hx5, hr5, hB5, hs5⟩, by simp only [intOf]; have := hltH.out; omega⟩
    · obtain rfl : j = m := by omega
      have hji : ¬ (j : Int) < (j : Int) := by omega
      rw [List.take_of_length_le (by rw [hJl.out]; exact Nat.le_refl _)] at hown
      have hu : ∃ a5 c5, u5 = .slice a5 (32 * j) c5 := own_slice hown
      obtain ⟨a5, c5, hu5⟩ := hu
      rw [hu5] at hown ⊢
      have hJr : Ints .u8 wr a5 (32 * j) c5 zs := by
        obtain ⟨a2, c2, hv, hi⟩ := Ints.of_owns hown
        injection hv with e1 _ e2
        subst e1; subst e2
        exact hi
      have hIr := IK.out _ hB
      clear hlt hj hown hu5
      go_wp2_with ((refine wpList_load_blk rfl 30 (.tmp 2) rfl ?_ hx rowWr rfl ?_); rfl)
      refine (rwBytes_any r a a5 n c (32 * j) c5 e xs zs wr hIr hJr (by have := hmH.out; omega)).mono ?_
      rintro q w3 ⟨a', n', c', rfl, hI3, hst, b3⟩
      have hr3 := hr.keep b3 hr.lt
      have hB3 := hB.trans (b3.mono (Nat.le_of_lt hx.lt))
      have hne : ∀ x, a' = some x → 0 < n' → x.block ≠ G + 1 := by
        intro x hx0 h0
        rcases hst with ⟨h1, h2⟩ | h
        · rw [h1] at hx0
          rw [h2] at h0
          have := hIB x hx0 h0
          have := hGH.out
          omega
        · have := h x hx0
          have := hr.lt
          omega
      have hst3 : Stays w a a' n n' := by
        rcases hst with h | h
        · exact .inl h
        · exact .inr fun x hx0 => by have h1 := h x hx0; have h2 := hx.lt; have h3 := hGH.out; omega
      obtain ⟨E, hE⟩ : ∃ E, (wrStep r xs e zs).2 = E := ⟨_, rfl⟩
      obtain ⟨X, hX⟩ : ∃ X, (wrStep r xs e zs).1 = X := ⟨_, rfl⟩
      rw [hX] at hI3
      rw [hE]
      have hEH := Lib.hid hE
      have hXH := Lib.hid hX
      clear hE hX hIr hJr b3 hx hr hB hs hst
      go_wp2_with (refine wpList_store_part (cur := wrC 0 none 0 0 0) (cs := wrC r a' n' c' E) rfl 30 (.tmp 4) (.tmp 21) rfl rfl rfl hr3 rowWr (by simp [wrC]) (by simp [wrC, Value.oneCell']) ?_; intro w9 hR9 hg9)
      have hR9 := hR9.cast (overV_all _ _ (by rfl))
      (try simp only [Exit.inBlock, Exit.then])
      refine bodyPost_ret (results_blk rfl rfl hR9 rowWr) rfl ?_
      refine ⟨a', n', c', by rw [hEH.out]; rfl, ?_, hst3, ?_⟩
      · rw [hXH.out]
        exact hI3.grown hg9 hne
      · rw [hGH.out]
        exact hB3.trans (below_of_grown hg9 (Nat.le_succ _) hr3.lt)
end Go.Proofs.Ytlbhpicebefpnaa

/-
  Texts of stages that were proved on their own, joined: BkHint, BkHinted, BkHas, BfBytes. Each begins with its own words.
-/
import Derived.Test.YtndodckcncejiaaJBkAll10
import Derived.Test.YtndodckcncejiaaJBkAll17
import Derived.Test.YtndodckcncejiaaBlocks2
import Derived.Test.YtndodckcncejiaaJBkAll16
import Derived.Great.BuildSlice
import Derived.Test.YtndodckcncejiaaAppends

/-
  What seal's HintOf, and the document's own Hint, come to: the first 16 bytes of an id. New memory alone is written. Conditions: an id has 32 bytes.
-/
namespace Go.Proofs.Ytndodckcncejiaa
open Go.RowKit

theorem id_head16 {w : World} {g : Nat} {t : TypeId} {X : List Int} (h : Blk w g t (X.map (Value.int .u8))) : w.rangeAt g 0 ((X.take 16).map (Value.int .u8)) := h.range 0 _ (fun j v hj => by
  rw [Nat.zero_add]
  have hl : j < 16 := by
    rcases Nat.lt_or_ge j 16 with h | h
    · exact h
    · rw [List.getElem?_eq_none (by rw [List.length_map, List.length_take]; omega)] at hj; cases hj
  rw [List.getElem?_map, List.getElem?_take_of_lt hl, ← List.getElem?_map] at hj
  exact hj)

set_option maxRecDepth 100000 in
set_option maxHeartbeats 1000000 in
theorem bkHint_any (X : List Int) (w : World) (hX : X.length = 32) :
    Calls Try.prog 37 #[.agg (X.map (Value.int .u8)).toArray] w fun e w' => e = .returned (.agg ((X.take 16).map (Value.int .u8)).toArray) ∧ Below w.heap.size w w' := by
  obtain ⟨Z, hZ⟩ : ∃ Z, List.replicate 16 (Value.int .u8 0) = Z := ⟨_, rfl⟩
  have hZl : Z.length = 16 := by rw [← hZ]; rfl
  have hZ0 : Zero Try.prog 38 Z := by rw [← hZ]; exact zeroHint9
  clear hZ
  have hx0 : Blk ((w.alloc (.cells (X.map (Value.int .u8)).toArray 23)).alloc (.cells Z.toArray 38)) w.heap.size 23 (X.map (Value.int .u8)) := (Blk.new w _ _).alloc _
  have hr : Blk ((w.alloc (.cells (X.map (Value.int .u8)).toArray 23)).alloc (.cells Z.toArray 38)) (w.heap.size + 1) 38 Z := Blk.new1 w _ _ _
  have hpart := id_head16 hx0
  have hlH : ((X.take 16).map (Value.int .u8)).length = 16 := by rw [List.length_map, List.length_take]; omega
  have hIr : IsRow Try.prog 38 ((X.take 16).map (Value.int .u8)).length := by rw [hlH]; exact rowHint9
  have HO1 := Lib.hid (u8_one (X.take 16))
  obtain ⟨Y, hY⟩ : ∃ Y, (X.take 16).map (Value.int .u8) = Y := ⟨_, rfl⟩
  rw [hY] at hpart hlH hIr HO1 ⊢
  obtain ⟨C, hC⟩ : ∃ Y, X.map (Value.int .u8) = Y := ⟨_, rfl⟩
  rw [hC] at hx0 hr hpart ⊢
  have hB := below2 w (.cells C.toArray 23) (.cells Z.toArray 38)
  have HOF := Lib.hid (show 0 + Y.length ≤ Z.length by rw [hlH, hZl]; decide)
  have hov := Lib.hid (overV_all Z Y (by rw [hlH, hZl]))
  obtain ⟨W1, hW1⟩ : ∃ W1, (w.alloc (.cells C.toArray 23)).alloc (.cells Z.toArray 38) = W1 := ⟨_, rfl⟩
  rw [hW1] at hr hpart hB
  obtain ⟨g, hg⟩ : ∃ g, w.heap.size = g := ⟨_, rfl⟩
  rw [hg] at hr hpart hB
  rw [hg]
  have hat := fun cap v => run_array_at9 (P := Try.prog) 38 5 16 Try.underlying38 (some ⟨g, 0, none⟩) 16 cap (by decide) v
  clear hx0 hY hC hlH hX
  go_enter Try.func37, Try.ntmps37
  go_wp2_with (first
    | ((with_reducible refine box_row rfl 23 (.tmp 0) rfl C ?_ ?_); rfl)
    | (with_reducible refine wpList_alloc_blk rfl 38 rfl hZ0 ?_; refine RowKit.Hid.out ?_))
  refine Lib.hid ?_
  try rw [hW1]
  try rw [hg]
  clear hW1 hg
  go_wp2_with (first
    | ((with_reducible refine wpList_load_part rfl 38 (.tmp 4) rfl ?_ Y hpart hIr ?_); rfl)
    | ((with_reducible refine wpList_store_part rfl 38 (.tmp 2) (.tmp 5) rfl ?_ ?_ hr hIr HOF.out HO1.out ?_); rfl; rfl; intro w9 hR9 hg9))
  rw [hov.out] at hR9
  (try simp only [Exit.inBlock, Exit.then])
  refine bodyPost_ret (results_blk rfl rfl hR9 hIr) rfl ?_
  exact ⟨rfl, hB.trans (below_of_grown hg9 (Nat.le_succ g) hr.lt)⟩

set_option maxRecDepth 100000 in
set_option maxHeartbeats 1000000 in
theorem rHint16_any (X : List Int) (w : World) (hX : X.length = 32) :
    Calls Try.prog 38 #[.agg (X.map (Value.int .u8)).toArray] w fun e w' => e = .returned (.agg ((X.take 16).map (Value.int .u8)).toArray) ∧ Below w.heap.size w w' := by
  have hXC : ∀ k, k < 16 → (X.map (Value.int .u8))[k]? = some (.int .u8 (X.getD k 0)) := fun k hk => by
    rw [List.getElem?_map, List.getD_eq_getElem?_getD, List.getElem?_eq_getElem (by omega)]; rfl
  have hYC : ∀ k, k < 16 → ((X.take 16).map (Value.int .u8))[k]? = some (.int .u8 (X.getD k 0)) := fun k hk => by
    rw [List.getElem?_map, List.getElem?_take_of_lt hk, List.getD_eq_getElem?_getD, List.getElem?_eq_getElem (by omega)]; rfl
  have hlH : ((X.take 16).map (Value.int .u8)).length = 16 := by rw [List.length_map, List.length_take]; omega
  have HO1 := Lib.hid (u8_one (X.take 16))
  obtain ⟨Y, hY⟩ : ∃ Y, (X.take 16).map (Value.int .u8) = Y := ⟨_, rfl⟩
  obtain ⟨C, hC⟩ : ∃ Y, X.map (Value.int .u8) = Y := ⟨_, rfl⟩
  rw [hY] at hYC hlH HO1
  rw [hC] at hXC
  rw [hY, hC]
  obtain ⟨Z, hZ⟩ : ∃ Z, List.replicate 16 (Value.int .u8 0) = Z := ⟨_, rfl⟩
  have hZl : Z.length = 16 := by rw [← hZ]; rfl
  have hZ0 : Zero Try.prog 38 Z := by rw [← hZ]; exact zeroHint9
  obtain ⟨g, hg⟩ : ∃ g, w.heap.size = g := ⟨_, rfl⟩
  obtain ⟨W0, hW0⟩ : ∃ W0, ((w.alloc (.cells C.toArray 23)).alloc (.cells Z.toArray 38)).alloc (.cells Z.toArray 38) = W0 := ⟨_, rfl⟩
  have hx0 : Blk W0 g 23 C := by rw [← hW0, ← hg]; exact ((Blk.new w _ _).alloc _).alloc _
  have hr0 : Blk W0 (g + 1) 38 Z := by rw [← hW0, ← hg]; exact (Blk.new1 w _ _ _).alloc _
  have hh0 : Blk W0 (g + 2) 38 (mixed Y Z 0) := by
    rw [mixed_zero, ← hW0, ← hg]
    have h := Blk.new ((w.alloc (.cells C.toArray 23)).alloc (.cells Z.toArray 38)) 38 Z
    rw [size2] at h
    exact h
  have hB0 : Below g w W0 := by rw [← hW0, ← hg]; exact below3 w _ _ _
  have hXH := Lib.hid hXC
  have hYH := Lib.hid hYC
  have hlYH := Lib.hid hlH
  have hrowY : IsRow Try.prog 38 16 := rowHint9
  clear hX hY hC hXC hYC hZ hlH
  go_enter Try.func38, Try.ntmps38
  go_wp2_with (first
    | ((with_reducible refine box_row rfl 23 (.tmp 0) rfl C ?_ ?_); rfl)
    | (with_reducible refine wpList_alloc_blk rfl 38 rfl hZ0 ?_))
  have hgH := Lib.hid hg
  clear hW0 hg
  go_loopw [4] (fun i wr => ∃ k : Nat, k ≤ 16 ∧ i = .int .i64 k ∧ Blk wr (g + 2) 38 (mixed Y Z k) ∧ Blk wr g 23 C ∧ Blk wr (g + 1) 38 Z ∧ Below g w wr) (fun i _ => 16 - (intOf i).toNat)
  case atStart => exact ⟨0, by omega, rfl, hh0, hx0, hr0, hB0⟩
  case round =>
    clear hh0 hx0 hr0 hB0
    obtain ⟨k, hk, rfl, hh, hx, hr, hB⟩ := hrel
    by_cases hlt : k < 16
    · have cx := hx.cell k
      rw [hXH.out k hlt] at cx
      have ch := hh.cell k
      rw [mixed_at Y Z k 16 hlYH.out hZl hlt] at ch
      obtain ⟨zv, hzv⟩ : ∃ zv, Z[k]? = some zv := ⟨Z[k]'(by omega), List.getElem?_eq_getElem (by omega)⟩
      rw [hzv] at ch
      have fh : wr.frozen? ⟨g + 2, k, none⟩ = false := Blk.frozen hh k
      have hset := hh.set k (.int .u8 (X.getD k 0))
      rw [mixed_set Y Z k 16 hlYH.out hZl hlt _ (hYH.out k hlt)] at hset
      obtain ⟨xv, hxv⟩ : ∃ xv, X.getD k 0 = xv := ⟨_, rfl⟩
      rw [hxv] at cx hset
      have hsetH := Lib.hid hset
      have hx2 := Lib.hid (hx.far (p := ⟨g + 2, k, none⟩) (by simp) (.int .u8 xv))
      have hr2 := Lib.hid (hr.far (p := ⟨g + 2, k, none⟩) (by simp) (.int .u8 xv))
      have hB2 := Lib.hid (hB.setCell (p := ⟨g + 2, k, none⟩) (by simp) (.int .u8 xv))
      have hki : (k : Int) < 16 := by omega
      have hki2 : (k : Int) < 32 := by omega
      have hltH := Lib.hid hlt
      clear hlt hk hset hh hx hr hB hzv hxv
      go_wp2
      go_roundw
      case rel => exact ⟨k + 1, by have := hltH.out; omega, by go_num, hsetH.out, hx2.out, hr2.out, hB2.out⟩
      case measure => have := hltH.out; simp [intOf]; omega
    · obtain rfl : k = 16 := by omega
      have hh : Blk wr (g + 2) 38 Y := hh.cast (mixed_all Y Z 16 hlYH.out hZl)
      have HOF := Lib.hid (show 0 + Y.length ≤ Z.length by rw [hlYH.out, hZl]; decide)
      have hIr : IsRow Try.prog 38 Y.length := by rw [hlYH.out]; exact rowHint9
      go_wp2_with (first
        | ((refine wpList_load_blk rfl 38 (.tmp 3) rfl ?_ hh hrowY hlYH.out ?_); rfl)
        | ((with_reducible refine wpList_store_part rfl 38 (.tmp 2) (.tmp 14) rfl ?_ ?_ hr hIr HOF.out HO1.out ?_); rfl; rfl; intro w9 hR9 hg9))
      rw [overV_all _ _ (by rw [hlYH.out, hZl])] at hR9
      (try simp only [Exit.inBlock, Exit.then])
      refine bodyPost_ret (results_blk rfl rfl hR9 hIr) rfl ?_
      refine ⟨rfl, ?_⟩
      rw [hgH.out]
      exact hB.trans (below_of_grown hg9 (Nat.le_succ g) hr.lt)
end Go.Proofs.Ytndodckcncejiaa

/-
  What block's Hinted, and the document's own, come to. New memory alone is written. Conditions: at most a hundred thousand ids; an id has 32 bytes, a hint 16.
-/
namespace Go.Proofs.Ytndodckcncejiaa
open Go.RowKit

theorem owns_blk16 {w : World} {B s n g : Nat} {e t : TypeId} {v : Value} {xs cs : List Value} (h : w.ownsRow B e s v n xs) (k : Blk w g t cs) (he : t ≠ e) : some g ≠ v.ownBlock := by
  rcases h.2 with ⟨rfl, _⟩ | ⟨q, cap, cur, rfl, _, hq, _⟩
  · intro hb; cases hb
  · intro hb
    have hb : some g = some q := hb
    injection hb with hb
    subst hb
    unfold Blk at k
    rw [k] at hq
    injection hq with hq
    injection hq with _ h2 _
    exact he h2

set_option maxRecDepth 100000 in
set_option maxHeartbeats 2000000 in
theorem bkHinted_any (H P : List Int) (a : Option Addr) (n c : Nat) (zs x : List Int) (w : World) (hH : H.length = 32) (hP : P.length = 32) (hT : IdsAt w a n c zs) (hn : n ≤ 100000) (hx : x.length = 16) :
    Calls Try.prog 18 #[.agg (bkC H P a n c).toArray, .agg (x.map (Value.int .u8)).toArray] w fun q w' => ∃ b d, q = .returned (.slice b (hintN zs x n) d) ∧ IdsAt w' b (hintN zs x n) d (hintL zs x n) ∧ (∀ x, b = some x → w.heap.size ≤ x.block) ∧ Below w.heap.size w w' := by
  obtain ⟨i0, hi, hz0, hz1, hz2⟩ := info_id9
  have hl := hT.1
  have hnm : (n : Int) ≤ 100000 := by omega
  have hps := Lib.hid (fun j (hj : j < n) => rowId_of (idP_len hl hj))
  have hlen := Lib.hid (fun j (hj : j < n) => idP_len hl hj)
  have heq := Lib.hid (fun j (hj : j < n) => eqHint16 ((idP zs j).take 16) x (by rw [List.length_take, idP_len hl hj]; rfl) hx)
  have HI := rowHint_of hx
  have e2 := Lib.hid (fun w' g (h : Blk w' g 26 (bkC H P a n c)) => bk2 h hH hP)
  have hb := below2 w (.cells (bkC H P a n c).toArray 26) (.cells (x.map (Value.int .u8)).toArray 38)
  have hid0 := Blk.new1 w (.cells (bkC H P a n c).toArray 26) 38 (x.map (Value.int .u8))
  have hk0 := (Blk.new w 26 (bkC H P a n c)).alloc (.cells (x.map (Value.int .u8)).toArray 38)
  obtain ⟨X, hX⟩ : ∃ X, x.map (Value.int .u8) = X := ⟨_, rfl⟩
  obtain ⟨C, hC⟩ : ∃ X, bkC H P a n c = X := ⟨_, rfl⟩
  rw [hX] at heq HI
  rw [hC] at e2
  rw [hX, hC] at hb hid0 hk0 ⊢
  obtain ⟨W, hW⟩ : ∃ W, (w.alloc (.cells C.toArray 26)).alloc (.cells X.toArray 38) = W := ⟨_, rfl⟩
  rw [hW] at hb hid0 hk0
  obtain ⟨G, hG⟩ : ∃ W, w.heap.size = W := ⟨_, rfl⟩
  rw [hG] at hid0 hk0
  have p2 := e2.out W G hk0
  have hTH := Lib.hid hT
  have hnH := Lib.hid hn
  obtain ⟨Zr, hZr⟩ : ∃ Z, List.replicate 32 (Value.int .u8 0) = Z := ⟨_, rfl⟩
  have hZl : Zr.length = 32 := by rw [← hZr]; rfl
  have hZ0 : Zero Try.prog 23 Zr := by rw [← hZr]; exact zeroId9
  have hcc := Lib.hid (fun j (hj : j < n) w' => bkHint_any (idP zs j) w' (idP_len hl hj))
  clear hT hC hX hl hZr hx
  go_enter Try.func18, Try.ntmps18
  go_wp2_with (first
    | ((with_reducible refine box_row rfl 26 (.tmp 0) rfl C ?_ ?_); rfl)
    | ((with_reducible refine box_row rfl 38 (.tmp 1) rfl X ?_ ?_); rfl))
  have gH := Lib.hid hG
  clear hW hG
  clear p2
  go_loopw [5, 11] (fun v i wr => ∃ j : Nat, j ≤ n ∧ i = .int .i64 j ∧ wr.ownsRow w.heap.size 23 32 v (hintN zs x j) ((hintL zs x j).map (Value.int .u8)) ∧ Blk wr G 26 C ∧ Blk wr (G + 1) 38 X ∧ Below w.heap.size w wr) (fun _ i _ => n - (intOf i).toNat)
  case atStart => exact ⟨0, Nat.zero_le _, rfl, World.ownsRow_nil _ _ _ _, hk0, hid0, hb⟩
  case round =>
    clear hk0 hid0 hb
    obtain ⟨j, hj, rfl, hown, hk, hid, hB⟩ := hrel
    by_cases hlt : j < n
    · have hc := fun w' => hcc.out j hlt w'
      have hji : (j : Int) < (n : Int) := by omega
      obtain ⟨b, off, rfl, hp⟩ := (hTH.out.keep hB).get hlt
      have hq := heq.out j hlt
      have HY := hps.out j hlt
      have hlY : ((idP zs j).map (Value.int .u8)).length = 32 := by rw [List.length_map]; exact hlen.out j hlt
      have hY1 := u8_one (idP zs j)
      have hyes := Lib.hid (fun e => hintL_yes (zs := zs) (h := x) (j := j) e)
      have hnot := Lib.hid (fun e => hintL_no (zs := zs) (h := x) (j := j) e)
      have hle := Lib.hid (hintN_le zs x j)
      obtain ⟨F, hF⟩ : ∃ F, ((idP zs j).take 16 == x) = F := ⟨_, rfl⟩
      rw [hF] at hq
      have hFH := Lib.hid hF
      obtain ⟨Y, hY⟩ : ∃ Y, (idP zs j).map (Value.int .u8) = Y := ⟨_, rfl⟩
      obtain ⟨Z, hZ⟩ : ∃ Y, ((idP zs j).take 16).map (Value.int .u8) = Y := ⟨_, rfl⟩
      rw [hY] at hp HY hlY hY1 hc
      rw [hZ] at hq hc
      have hYH := Lib.hid hY
      have hltH := Lib.hid hlt
      have hlYH := Lib.hid hlY
      have hY1H := Lib.hid hY1
      have hngh := noGuardHint16
      have hcH := Lib.hid hc
      have hKH := Lib.hid (And.intro hown (And.intro hk (And.intro hid hB)))
      clear hlt hj hF hY hZ hc hown hk hid hB
      go_wp2_with (first
        | ((with_reducible refine wpList_load_part rfl 23 (.tmp 13) rfl ?_ Y hp HY ?_); rfl)
        | ((with_reducible refine wpList_alloc_blk rfl 23 rfl hZ0 ?_); refine RowKit.Hid.out ?_))
      refine Lib.hid ?_
      try simp only [Act.put, List.setIfInBounds_toArray, List.set_cons_zero, List.set_cons_succ]
      have bA : Below wr.heap.size wr (wr.alloc (.cells Zr.toArray 23)) := below1 wr _
      have hnew := Blk.new wr 23 Zr
      obtain ⟨N, hN⟩ : ∃ N, wr.heap.size = N := ⟨_, rfl⟩
      rw [hN] at hnew ⊢
      obtain ⟨U, hU⟩ : ∃ U, wr.alloc (.cells Zr.toArray 23) = U := ⟨_, rfl⟩
      rw [hU] at hnew bA ⊢
      have hNH := Lib.hid hN
      clear hU hN hp
      refine store_row rfl 23 (.tmp 7) (.tmp 14) rfl rfl rfl hnew rowId9 hlY hZl hY1 ?_
      intro V hnV hgV
      have bV : Below wr.heap.size wr V := bA.grown hgV bA.size (fun q hq => by injection hq with hq; have := hNH.out; omega)
      have BN := Lib.hid (fun w' (h : Below V.heap.size V w') => hnV.keep h hnV.lt)
      have BX := Lib.hid (fun w' (h : Below V.heap.size V w') => (hKH.out.2.2.1.keep (bV.trans (h.mono bV.size)) hKH.out.2.2.1.lt))
      have BK := Lib.hid (fun w' (h : Below V.heap.size V w') => (hKH.out.2.1.keep (bV.trans (h.mono bV.size)) hKH.out.2.1.lt))
      have BO := Lib.hid (fun w' (h : Below V.heap.size V w') => own_stay9 hKH.out.1 (bV.trans (h.mono bV.size)))
      have BB := Lib.hid (fun w' (h : Below V.heap.size V w') => hKH.out.2.2.2.trans ((bV.trans (h.mono bV.size)).mono hKH.out.2.2.2.size))
      have b1 : Below V.heap.size V V.drew := (Below.refl _ _).drew
      have hHI := HI
      clear bA hnew hgV bV hnV hKH hlY hY1
      go_wp2_with fail
      refine region_seqS (fun w' => Below V.heap.size V w') (by kernel_rfl) b1 ?_
      simp only [pairs, Nat.reduceAdd]
      repeat (first
        | (refine SeqS.take (v := .agg (Y).toArray) (by first | assumption | trivial) (by kernel_rfl) (by decide +kernel) (by decide +kernel) (yields_blk (by rfl) 23 (.tmp 7) rfl rfl (fun w' h => BN.out w' h) (HY)) ?_
           simp only [Act.put, List.setIfInBounds_toArray, List.set_cons_zero, List.set_cons_succ])
        | (refine SeqS.take (v := .agg (X).toArray) (by first | assumption | trivial) (by kernel_rfl) (by decide +kernel) (by decide +kernel) (yields_blk (by rfl) 38 (.tmp 3) rfl rfl (fun w' h => BX.out w' h) (HI)) ?_
           simp only [Act.put, List.setIfInBounds_toArray, List.set_cons_zero, List.set_cons_succ])
        | (refine SeqS.take (v := ?_) (by first | assumption | trivial) (by kernel_rfl) (by decide +kernel) (by decide +kernel) (Or.inl ⟨by rfl, ?_⟩) ?_
           rotate_left
           focus
             intro w' hb'
             go_simp
             with_reducible rfl
           simp only [Act.put, List.setIfInBounds_toArray, List.set_cons_zero, List.set_cons_succ])
        | (refine SeqS.take (v := undef) (by first | assumption | trivial) (by kernel_rfl) (by decide +kernel) (by decide +kernel) (Or.inr ⟨by rfl, rfl⟩) ?_
           simp only [Act.put, List.setIfInBounds_toArray, List.set_cons_zero, List.set_cons_succ])
        | (refine SeqS.take1 (v := .agg (Y).toArray) (by first | assumption | trivial) (by kernel_rfl) (by decide +kernel) (by decide +kernel) (yields_blk (by rfl) 23 (.tmp 7) rfl rfl (fun w' h => BN.out w' h) (HY)) ?_
           simp only [Act.put, List.setIfInBounds_toArray, List.set_cons_zero, List.set_cons_succ])
        | (refine SeqS.take1 (v := .agg (X).toArray) (by first | assumption | trivial) (by kernel_rfl) (by decide +kernel) (by decide +kernel) (yields_blk (by rfl) 38 (.tmp 3) rfl rfl (fun w' h => BX.out w' h) (HI)) ?_
           simp only [Act.put, List.setIfInBounds_toArray, List.set_cons_zero, List.set_cons_succ])
        | (refine SeqS.take1 (v := ?_) (by first | assumption | trivial) (by kernel_rfl) (by decide +kernel) (by decide +kernel) (Or.inl ⟨by rfl, ?_⟩) ?_
           rotate_left
           focus
             intro w' hb'
             go_simp
             with_reducible rfl
           simp only [Act.put, List.setIfInBounds_toArray, List.set_cons_zero, List.set_cons_succ])
        | (refine SeqS.take1 (v := undef) (by first | assumption | trivial) (by kernel_rfl) (by decide +kernel) (by decide +kernel) (Or.inr ⟨by rfl, rfl⟩) ?_
           simp only [Act.put, List.setIfInBounds_toArray, List.set_cons_zero, List.set_cons_succ])
        | (refine SeqS.take2 (v := .agg (Y).toArray) (by first | assumption | trivial) (by kernel_rfl) (by decide +kernel) (by decide +kernel) (yields_blk (by rfl) 23 (.tmp 7) rfl rfl (fun w' h => BN.out w' h) (HY)) ?_
           simp only [Act.put, List.setIfInBounds_toArray, List.set_cons_zero, List.set_cons_succ])
        | (refine SeqS.take2 (v := .agg (X).toArray) (by first | assumption | trivial) (by kernel_rfl) (by decide +kernel) (by decide +kernel) (yields_blk (by rfl) 38 (.tmp 3) rfl rfl (fun w' h => BX.out w' h) (HI)) ?_
           simp only [Act.put, List.setIfInBounds_toArray, List.set_cons_zero, List.set_cons_succ])
        | (refine SeqS.take2 (v := ?_) (by first | assumption | trivial) (by kernel_rfl) (by decide +kernel) (by decide +kernel) (Or.inl ⟨by rfl, ?_⟩) ?_
           rotate_left
           focus
             intro w' hb'
             go_simp
             with_reducible rfl
           simp only [Act.put, List.setIfInBounds_toArray, List.set_cons_zero, List.set_cons_succ])
        | (refine SeqS.take2 (v := undef) (by first | assumption | trivial) (by kernel_rfl) (by decide +kernel) (by decide +kernel) (Or.inr ⟨by rfl, rfl⟩) ?_
           simp only [Act.put, List.setIfInBounds_toArray, List.set_cons_zero, List.set_cons_succ])
        | (refine SeqS.take3 (v := .agg (Y).toArray) (by first | assumption | trivial) (by kernel_rfl) (by decide +kernel) (by decide +kernel) (yields_blk (by rfl) 23 (.tmp 7) rfl rfl (fun w' h => BN.out w' h) (HY)) ?_
           simp only [Act.put, List.setIfInBounds_toArray, List.set_cons_zero, List.set_cons_succ])
        | (refine SeqS.take3 (v := .agg (X).toArray) (by first | assumption | trivial) (by kernel_rfl) (by decide +kernel) (by decide +kernel) (yields_blk (by rfl) 38 (.tmp 3) rfl rfl (fun w' h => BX.out w' h) (HI)) ?_
           simp only [Act.put, List.setIfInBounds_toArray, List.set_cons_zero, List.set_cons_succ])
        | (refine SeqS.take3 (v := ?_) (by first | assumption | trivial) (by kernel_rfl) (by decide +kernel) (by decide +kernel) (Or.inl ⟨by rfl, ?_⟩) ?_
           rotate_left
           focus
             intro w' hb'
             go_simp
             with_reducible rfl
           simp only [Act.put, List.setIfInBounds_toArray, List.set_cons_zero, List.set_cons_succ])
        | (refine SeqS.take3 (v := undef) (by first | assumption | trivial) (by kernel_rfl) (by decide +kernel) (by decide +kernel) (Or.inr ⟨by rfl, rfl⟩) ?_
           simp only [Act.put, List.setIfInBounds_toArray, List.set_cons_zero, List.set_cons_succ]))
      refine SeqS.alone (by decide +kernel) (by rfl) (fun K hK => ?_)
      go_simp
      go_at_call 37
      refine (hcH.out _).mono ?_
      rintro e w3 ⟨rfl, b3⟩
      go_simp
      have S3 : Below V.heap.size V w3 := b1.trans (b3.mono b1.size)
      refine hK _ _ S3 ?_
      clear hK K
      repeat (first
        | (refine SeqS.take (v := ?_) (by first | assumption | trivial) (by kernel_rfl) (by decide +kernel) (by decide +kernel) (Or.inl ⟨by rfl, ?_⟩) ?_
           rotate_left
           focus
             intro w' hb'
             go_simp
             with_reducible rfl
           simp only [Act.put, List.setIfInBounds_toArray, List.set_cons_zero, List.set_cons_succ])
        | (refine SeqS.take (v := ?_) (by first | assumption | trivial) (by kernel_rfl) (by decide +kernel) (by decide +kernel) (Or.inl ⟨by rfl, ?_⟩) ?_
           rotate_left
           focus
             intro w' hb'
             have d0 := hq w'
             go_simp
             with_reducible rfl
           simp only [Act.put, List.setIfInBounds_toArray, List.set_cons_zero, List.set_cons_succ])
        | (refine SeqS.take (v := undef) (by first | assumption | trivial) (by kernel_rfl) (by decide +kernel) (by decide +kernel) (Or.inr ⟨by rfl, rfl⟩) ?_
           simp only [Act.put, List.setIfInBounds_toArray, List.set_cons_zero, List.set_cons_succ])
        | (refine SeqS.take1 (v := ?_) (by first | assumption | trivial) (by kernel_rfl) (by decide +kernel) (by decide +kernel) (Or.inl ⟨by rfl, ?_⟩) ?_
           rotate_left
           focus
             intro w' hb'
             go_simp
             with_reducible rfl
           simp only [Act.put, List.setIfInBounds_toArray, List.set_cons_zero, List.set_cons_succ])
        | (refine SeqS.take1 (v := ?_) (by first | assumption | trivial) (by kernel_rfl) (by decide +kernel) (by decide +kernel) (Or.inl ⟨by rfl, ?_⟩) ?_
           rotate_left
           focus
             intro w' hb'
             have d0 := hq w'
             go_simp
             with_reducible rfl
           simp only [Act.put, List.setIfInBounds_toArray, List.set_cons_zero, List.set_cons_succ])
        | (refine SeqS.take1 (v := undef) (by first | assumption | trivial) (by kernel_rfl) (by decide +kernel) (by decide +kernel) (Or.inr ⟨by rfl, rfl⟩) ?_
           simp only [Act.put, List.setIfInBounds_toArray, List.set_cons_zero, List.set_cons_succ])
        | (refine SeqS.take2 (v := ?_) (by first | assumption | trivial) (by kernel_rfl) (by decide +kernel) (by decide +kernel) (Or.inl ⟨by rfl, ?_⟩) ?_
           rotate_left
           focus
             intro w' hb'
             go_simp
             with_reducible rfl
           simp only [Act.put, List.setIfInBounds_toArray, List.set_cons_zero, List.set_cons_succ])
        | (refine SeqS.take2 (v := ?_) (by first | assumption | trivial) (by kernel_rfl) (by decide +kernel) (by decide +kernel) (Or.inl ⟨by rfl, ?_⟩) ?_
           rotate_left
           focus
             intro w' hb'
             have d0 := hq w'
             go_simp
             with_reducible rfl
           simp only [Act.put, List.setIfInBounds_toArray, List.set_cons_zero, List.set_cons_succ])
        | (refine SeqS.take2 (v := undef) (by first | assumption | trivial) (by kernel_rfl) (by decide +kernel) (by decide +kernel) (Or.inr ⟨by rfl, rfl⟩) ?_
           simp only [Act.put, List.setIfInBounds_toArray, List.set_cons_zero, List.set_cons_succ]))
      refine SeqS.done (by decide +kernel) ?_
      have hN3 := BN.out _ S3
      have hid3 := BX.out _ S3
      have hk3 := BK.out _ S3
      have own3 := BO.out _ S3
      have B3 := BB.out _ S3
      clear BN BX BK BO BB b1 S3 b3 hcH
      cases F with
      | true =>
        have own4H := Lib.hid (own3.alloc (.cells Y.toArray 23))
        have hnewH := Lib.hid (Blk.new w3 23 Y)
        have hB4 := Lib.hid (B3.alloc B3.size (.cells Y.toArray 23))
        have hk4 := Lib.hid (hk3.alloc (.cells Y.toArray 23))
        have hid4 := Lib.hid (hid3.alloc (.cells Y.toArray 23))
        have hst := Lib.hid (hyes.out hFH.out)
        have hYl := hlYH.out
        clear own3 hid3 hk3 B3
        go_wp2_with (first
          | ((with_reducible refine wpList_load_blk rfl 23 (.tmp 7) rfl ?_ hN3 rowId9 hYl ?_); rfl)
          | (refine wpList_buildSlice rfl 24 23 1 #[(0, .tmp 20)] rfl Y.toArray i0 _ Try.underlying24 hi hz0 (by rw [hz1]; decide) (by rw [hz1]; decide) (fill_id i0 _ hz1 Y hlYH.out _ (by rw [Array.toList_map]; rfl)) ?_)
          | (at_builtin; refine wpList_append_own _ rfl _ _ 24 rfl w.heap.size 23 i0 _ 32 32 Try.underlying24 hi hz0 hz1 hz2 (by simp [Value.cells]) (by decide) _ _ _ rfl own4H.out ⟨w3.heap.size, 0, none⟩ 1 1 Y rfl hlYH.out ?c1 hY1H.out ?c3 ?c4 ?c5 ?_))
        case c1 =>
          intro t u ht
          rw [add_at9, hnewH.out.cell]
          exact ht
        case c3 => have := hltH.out; have := hnH.out; have := hle.out; unfold maxLen; omega
        case c4 => have := hltH.out; have := hnH.out; have := hle.out; omega
        case c5 => exact hB4.out.size
        intro v5 W5 hown5 hg5 _
        have own5 : W5.ownsRow w.heap.size 23 32 v5 (hintN zs x (j + 1)) ((hintL zs x (j + 1)).map (Value.int .u8)) := by
          rw [hst.out.1, hst.out.2, List.map_append, hYH.out]
          exact hown5
        have b5 : Below w.heap.size w W5 := hB4.out.grown hg5 hB4.out.size (fun q hq => (own4H.out.lt q hq).1)
        have hk5 := hk4.out.grown hg5 (owns_blk16 own4H.out hk4.out (by decide))
        have hid5 := hid4.out.grown hg5 (owns_blk16 own4H.out hid4.out (by decide))
        clear hown5 hg5
        go_wp2
        exact ⟨⟨j + 1, by have := hltH.out; omega, by congr 1, own5, hk5, hid5, b5⟩, by simp only [intOf]; have := hltH.out; omega⟩
      | false =>
        have hst := Lib.hid (hnot.out hFH.out)
        have own5 := own3
        rw [← hst.out.1, ← hst.out.2] at own5
        clear own3
        go_wp2
        exact ⟨⟨j + 1, by have := hltH.out; omega, by congr 1, own5, hk3, hid3, B3⟩, by simp only [intOf]; have := hltH.out; omega⟩
    · obtain rfl : n = j := by omega
      have hji : ¬ (n : Int) < (n : Int) := by omega
      clear hlt hj
      go_wp2
      go_ret
      obtain ⟨b, d, hv⟩ := own_slice32 hown
      subst hv
      exact ⟨b, d, rfl, IdsAt.of_owns hown, fun x hx => (hown.lt x.block (by rw [hx]; rfl)).1, hB⟩

set_option maxRecDepth 100000 in
set_option maxHeartbeats 2000000 in
theorem r16Hinted_any (H P : List Int) (a : Option Addr) (n c : Nat) (zs x : List Int) (w : World) (hH : H.length = 32) (hP : P.length = 32) (hT : IdsAt w a n c zs) (hn : n ≤ 100000) (hx : x.length = 16) :
    Calls Try.prog 19 #[.agg (bkC H P a n c).toArray, .agg (x.map (Value.int .u8)).toArray] w fun q w' => ∃ b d, q = .returned (.slice b (hintN zs x n) d) ∧ IdsAt w' b (hintN zs x n) d (hintL zs x n) ∧ (∀ x, b = some x → w.heap.size ≤ x.block) ∧ Below w.heap.size w w' := by
  obtain ⟨i0, hi, hz0, hz1, hz2⟩ := info_id9
  have hl := hT.1
  have hnm : (n : Int) ≤ 100000 := by omega
  have hps := Lib.hid (fun j (hj : j < n) => rowId_of (idP_len hl hj))
  have hlen := Lib.hid (fun j (hj : j < n) => idP_len hl hj)
  have heq := Lib.hid (fun j (hj : j < n) => eqHint16 ((idP zs j).take 16) x (by rw [List.length_take, idP_len hl hj]; rfl) hx)
  have HI := rowHint_of hx
  have e2 := Lib.hid (fun w' g (h : Blk w' g 26 (bkC H P a n c)) => bk2 h hH hP)
  have hb := below2 w (.cells (bkC H P a n c).toArray 26) (.cells (x.map (Value.int .u8)).toArray 38)
  have hid0 := Blk.new1 w (.cells (bkC H P a n c).toArray 26) 38 (x.map (Value.int .u8))
  have hk0 := (Blk.new w 26 (bkC H P a n c)).alloc (.cells (x.map (Value.int .u8)).toArray 38)
  obtain ⟨X, hX⟩ : ∃ X, x.map (Value.int .u8) = X := ⟨_, rfl⟩
  obtain ⟨C, hC⟩ : ∃ X, bkC H P a n c = X := ⟨_, rfl⟩
  rw [hX] at heq HI
  rw [hC] at e2
  rw [hX, hC] at hb hid0 hk0 ⊢
  obtain ⟨W, hW⟩ : ∃ W, (w.alloc (.cells C.toArray 26)).alloc (.cells X.toArray 38) = W := ⟨_, rfl⟩
  rw [hW] at hb hid0 hk0
  obtain ⟨G, hG⟩ : ∃ W, w.heap.size = W := ⟨_, rfl⟩
  rw [hG] at hid0 hk0
  have p2 := e2.out W G hk0
  have hTH := Lib.hid hT
  have hnH := Lib.hid hn
  have hcc := Lib.hid (fun j (hj : j < n) w' => rHint16_any (idP zs j) w' (idP_len hl hj))
  clear hT hC hX hl hx p2
  go_enter Try.func19, Try.ntmps19
  go_wp2_with (first
    | ((with_reducible refine box_row rfl 26 (.tmp 0) rfl C ?_ ?_); rfl)
    | ((with_reducible refine box_row rfl 38 (.tmp 1) rfl X ?_ ?_); rfl))
  have gH := Lib.hid hG
  clear hW hG
  go_loopw [5, 6] (fun v i wr => ∃ j : Nat, j ≤ n ∧ i = .int .i64 j ∧ wr.ownsRow w.heap.size 23 32 v (hintN zs x j) ((hintL zs x j).map (Value.int .u8)) ∧ Blk wr G 26 C ∧ Blk wr (G + 1) 38 X ∧ Below w.heap.size w wr) (fun _ i _ => n - (intOf i).toNat)
  case atStart => exact ⟨0, Nat.zero_le _, rfl, World.ownsRow_nil _ _ _ _, hk0, hid0, hb⟩
  case round =>
    clear hk0 hid0 hb
    obtain ⟨j, hj, rfl, hown, hk, hid, hB⟩ := hrel
    have p2 := e2.out wr G hk
    by_cases hlt : j < n
    · have hc := fun w' => hcc.out j hlt w'
      have hji : (j : Int) < (n : Int) := by omega
      obtain ⟨b, off, rfl, hp⟩ := (hTH.out.keep hB).get hlt
      have hq := heq.out j hlt
      have HY := hps.out j hlt
      have hlY : ((idP zs j).map (Value.int .u8)).length = 32 := by rw [List.length_map]; exact hlen.out j hlt
      have hY1 := u8_one (idP zs j)
      have hyes := Lib.hid (fun e => hintL_yes (zs := zs) (h := x) (j := j) e)
      have hnot := Lib.hid (fun e => hintL_no (zs := zs) (h := x) (j := j) e)
      have hle := Lib.hid (hintN_le zs x j)
      obtain ⟨F, hF⟩ : ∃ F, ((idP zs j).take 16 == x) = F := ⟨_, rfl⟩
      rw [hF] at hq
      have hFH := Lib.hid hF
      obtain ⟨Y, hY⟩ : ∃ Y, (idP zs j).map (Value.int .u8) = Y := ⟨_, rfl⟩
      obtain ⟨Z, hZ⟩ : ∃ Y, ((idP zs j).take 16).map (Value.int .u8) = Y := ⟨_, rfl⟩
      rw [hY] at hp HY hlY hY1 hc
      rw [hZ] at hq hc
      have hYH := Lib.hid hY
      have hltH := Lib.hid hlt
      have hlYH := Lib.hid hlY
      have hY1H := Lib.hid hY1
      have hngh := noGuardHint16
      have hcH := Lib.hid hc
      have hHI := HI
      have BX := Lib.hid (fun w' (h : Below wr.heap.size wr w') => hid.keep h hid.lt)
      have BK := Lib.hid (fun w' (h : Below wr.heap.size wr w') => hk.keep h hk.lt)
      have BO := Lib.hid (fun w' (h : Below wr.heap.size wr w') => own_stay9 hown h)
      have BB := Lib.hid (fun w' (h : Below wr.heap.size wr w') => hB.trans (h.mono hB.size))
      have BP := Lib.hid (fun w' (h : Below wr.heap.size wr w') => (fun q v hq => (h.cell (World.block_lt_of_cell? wr _ (hp q v hq))).trans (hp q v hq) : w'.rangeAt b (off + j * 32) Y))
      have b1 : Below wr.heap.size wr wr.drew := (Below.refl _ _).drew
      clear hlt hj hF hY hZ hc hown hid hB hp hlY hY1
      go_wp2_with fail
      clear p2 hk
      refine region_seqS (fun w' => Below wr.heap.size wr w') (by kernel_rfl) b1 ?_
      simp only [pairs, Nat.reduceAdd]
      repeat (first
        | (refine SeqS.take (v := .agg (X).toArray) (by first | assumption | trivial) (by kernel_rfl) (by decide +kernel) (by decide +kernel) (yields_blk (by rfl) 38 (.tmp 3) rfl rfl (fun w' h => BX.out w' h) (HI)) ?_
           simp only [Act.put, List.setIfInBounds_toArray, List.set_cons_zero, List.set_cons_succ])
        | (refine SeqS.take (v := .agg (Y).toArray) (by first | assumption | trivial) (by kernel_rfl) (by decide +kernel) (by decide +kernel) (yields_part (by rfl) 23 (.tmp 17) rfl rfl (fun w' h => BP.out w' h) (HY)) ?_
           simp only [Act.put, List.setIfInBounds_toArray, List.set_cons_zero, List.set_cons_succ])
        | (refine SeqS.take (v := ?_) (by first | assumption | trivial) (by kernel_rfl) (by decide +kernel) (by decide +kernel) (Or.inl ⟨by rfl, ?_⟩) ?_
           rotate_left
           focus
             intro w' hb'
             go_simp
             with_reducible rfl
           simp only [Act.put, List.setIfInBounds_toArray, List.set_cons_zero, List.set_cons_succ])
        | (refine SeqS.take (v := ?_) (by first | assumption | trivial) (by kernel_rfl) (by decide +kernel) (by decide +kernel) (Or.inl ⟨by rfl, ?_⟩) ?_
           rotate_left
           focus
             intro w' hb'
             have d0 : w'.cell? ⟨G, 64, none⟩ = some (.slice (some ⟨b, off, none⟩) n c) := e2.out w' G (BK.out w' hb')
             go_simp
             with_reducible rfl
           simp only [Act.put, List.setIfInBounds_toArray, List.set_cons_zero, List.set_cons_succ])
        | (refine SeqS.take (v := undef) (by first | assumption | trivial) (by kernel_rfl) (by decide +kernel) (by decide +kernel) (Or.inr ⟨by rfl, rfl⟩) ?_
           simp only [Act.put, List.setIfInBounds_toArray, List.set_cons_zero, List.set_cons_succ])
        | (refine SeqS.take1 (v := .agg (X).toArray) (by first | assumption | trivial) (by kernel_rfl) (by decide +kernel) (by decide +kernel) (yields_blk (by rfl) 38 (.tmp 3) rfl rfl (fun w' h => BX.out w' h) (HI)) ?_
           simp only [Act.put, List.setIfInBounds_toArray, List.set_cons_zero, List.set_cons_succ])
        | (refine SeqS.take1 (v := .agg (Y).toArray) (by first | assumption | trivial) (by kernel_rfl) (by decide +kernel) (by decide +kernel) (yields_part (by rfl) 23 (.tmp 17) rfl rfl (fun w' h => BP.out w' h) (HY)) ?_
           simp only [Act.put, List.setIfInBounds_toArray, List.set_cons_zero, List.set_cons_succ])
        | (refine SeqS.take1 (v := ?_) (by first | assumption | trivial) (by kernel_rfl) (by decide +kernel) (by decide +kernel) (Or.inl ⟨by rfl, ?_⟩) ?_
           rotate_left
           focus
             intro w' hb'
             go_simp
             with_reducible rfl
           simp only [Act.put, List.setIfInBounds_toArray, List.set_cons_zero, List.set_cons_succ])
        | (refine SeqS.take1 (v := ?_) (by first | assumption | trivial) (by kernel_rfl) (by decide +kernel) (by decide +kernel) (Or.inl ⟨by rfl, ?_⟩) ?_
           rotate_left
           focus
             intro w' hb'
             have d0 : w'.cell? ⟨G, 64, none⟩ = some (.slice (some ⟨b, off, none⟩) n c) := e2.out w' G (BK.out w' hb')
             go_simp
             with_reducible rfl
           simp only [Act.put, List.setIfInBounds_toArray, List.set_cons_zero, List.set_cons_succ])
        | (refine SeqS.take1 (v := undef) (by first | assumption | trivial) (by kernel_rfl) (by decide +kernel) (by decide +kernel) (Or.inr ⟨by rfl, rfl⟩) ?_
           simp only [Act.put, List.setIfInBounds_toArray, List.set_cons_zero, List.set_cons_succ])
        | (refine SeqS.take2 (v := .agg (X).toArray) (by first | assumption | trivial) (by kernel_rfl) (by decide +kernel) (by decide +kernel) (yields_blk (by rfl) 38 (.tmp 3) rfl rfl (fun w' h => BX.out w' h) (HI)) ?_
           simp only [Act.put, List.setIfInBounds_toArray, List.set_cons_zero, List.set_cons_succ])
        | (refine SeqS.take2 (v := .agg (Y).toArray) (by first | assumption | trivial) (by kernel_rfl) (by decide +kernel) (by decide +kernel) (yields_part (by rfl) 23 (.tmp 17) rfl rfl (fun w' h => BP.out w' h) (HY)) ?_
           simp only [Act.put, List.setIfInBounds_toArray, List.set_cons_zero, List.set_cons_succ])
        | (refine SeqS.take2 (v := ?_) (by first | assumption | trivial) (by kernel_rfl) (by decide +kernel) (by decide +kernel) (Or.inl ⟨by rfl, ?_⟩) ?_
           rotate_left
           focus
             intro w' hb'
             go_simp
             with_reducible rfl
           simp only [Act.put, List.setIfInBounds_toArray, List.set_cons_zero, List.set_cons_succ])
        | (refine SeqS.take2 (v := ?_) (by first | assumption | trivial) (by kernel_rfl) (by decide +kernel) (by decide +kernel) (Or.inl ⟨by rfl, ?_⟩) ?_
           rotate_left
           focus
             intro w' hb'
             have d0 : w'.cell? ⟨G, 64, none⟩ = some (.slice (some ⟨b, off, none⟩) n c) := e2.out w' G (BK.out w' hb')
             go_simp
             with_reducible rfl
           simp only [Act.put, List.setIfInBounds_toArray, List.set_cons_zero, List.set_cons_succ])
        | (refine SeqS.take2 (v := undef) (by first | assumption | trivial) (by kernel_rfl) (by decide +kernel) (by decide +kernel) (Or.inr ⟨by rfl, rfl⟩) ?_
           simp only [Act.put, List.setIfInBounds_toArray, List.set_cons_zero, List.set_cons_succ])
        | (refine SeqS.take3 (v := .agg (X).toArray) (by first | assumption | trivial) (by kernel_rfl) (by decide +kernel) (by decide +kernel) (yields_blk (by rfl) 38 (.tmp 3) rfl rfl (fun w' h => BX.out w' h) (HI)) ?_
           simp only [Act.put, List.setIfInBounds_toArray, List.set_cons_zero, List.set_cons_succ])
        | (refine SeqS.take3 (v := .agg (Y).toArray) (by first | assumption | trivial) (by kernel_rfl) (by decide +kernel) (by decide +kernel) (yields_part (by rfl) 23 (.tmp 17) rfl rfl (fun w' h => BP.out w' h) (HY)) ?_
           simp only [Act.put, List.setIfInBounds_toArray, List.set_cons_zero, List.set_cons_succ])
        | (refine SeqS.take3 (v := ?_) (by first | assumption | trivial) (by kernel_rfl) (by decide +kernel) (by decide +kernel) (Or.inl ⟨by rfl, ?_⟩) ?_
           rotate_left
           focus
             intro w' hb'
             go_simp
             with_reducible rfl
           simp only [Act.put, List.setIfInBounds_toArray, List.set_cons_zero, List.set_cons_succ])
        | (refine SeqS.take3 (v := ?_) (by first | assumption | trivial) (by kernel_rfl) (by decide +kernel) (by decide +kernel) (Or.inl ⟨by rfl, ?_⟩) ?_
           rotate_left
           focus
             intro w' hb'
             have d0 : w'.cell? ⟨G, 64, none⟩ = some (.slice (some ⟨b, off, none⟩) n c) := e2.out w' G (BK.out w' hb')
             go_simp
             with_reducible rfl
           simp only [Act.put, List.setIfInBounds_toArray, List.set_cons_zero, List.set_cons_succ])
        | (refine SeqS.take3 (v := undef) (by first | assumption | trivial) (by kernel_rfl) (by decide +kernel) (by decide +kernel) (Or.inr ⟨by rfl, rfl⟩) ?_
           simp only [Act.put, List.setIfInBounds_toArray, List.set_cons_zero, List.set_cons_succ]))
      refine SeqS.alone (by decide +kernel) (by rfl) (fun K hK => ?_)
      go_simp
      go_at_call 38
      refine (hcH.out _).mono ?_
      rintro e w3 ⟨rfl, b3⟩
      go_simp
      have S3 : Below wr.heap.size wr w3 := b1.trans (b3.mono b1.size)
      refine hK _ _ S3 ?_
      clear hK K
      repeat (first
        | (refine SeqS.take (v := ?_) (by first | assumption | trivial) (by kernel_rfl) (by decide +kernel) (by decide +kernel) (Or.inl ⟨by rfl, ?_⟩) ?_
           rotate_left
           focus
             intro w' hb'
             go_simp
             with_reducible rfl
           simp only [Act.put, List.setIfInBounds_toArray, List.set_cons_zero, List.set_cons_succ])
        | (refine SeqS.take (v := ?_) (by first | assumption | trivial) (by kernel_rfl) (by decide +kernel) (by decide +kernel) (Or.inl ⟨by rfl, ?_⟩) ?_
           rotate_left
           focus
             intro w' hb'
             have d0 := hq w'
             go_simp
             with_reducible rfl
           simp only [Act.put, List.setIfInBounds_toArray, List.set_cons_zero, List.set_cons_succ])
        | (refine SeqS.take (v := undef) (by first | assumption | trivial) (by kernel_rfl) (by decide +kernel) (by decide +kernel) (Or.inr ⟨by rfl, rfl⟩) ?_
           simp only [Act.put, List.setIfInBounds_toArray, List.set_cons_zero, List.set_cons_succ])
        | (refine SeqS.take1 (v := ?_) (by first | assumption | trivial) (by kernel_rfl) (by decide +kernel) (by decide +kernel) (Or.inl ⟨by rfl, ?_⟩) ?_
           rotate_left
           focus
             intro w' hb'
             go_simp
             with_reducible rfl
           simp only [Act.put, List.setIfInBounds_toArray, List.set_cons_zero, List.set_cons_succ])
        | (refine SeqS.take1 (v := ?_) (by first | assumption | trivial) (by kernel_rfl) (by decide +kernel) (by decide +kernel) (Or.inl ⟨by rfl, ?_⟩) ?_
           rotate_left
           focus
             intro w' hb'
             have d0 := hq w'
             go_simp
             with_reducible rfl
           simp only [Act.put, List.setIfInBounds_toArray, List.set_cons_zero, List.set_cons_succ])
        | (refine SeqS.take1 (v := undef) (by first | assumption | trivial) (by kernel_rfl) (by decide +kernel) (by decide +kernel) (Or.inr ⟨by rfl, rfl⟩) ?_
           simp only [Act.put, List.setIfInBounds_toArray, List.set_cons_zero, List.set_cons_succ])
        | (refine SeqS.take2 (v := ?_) (by first | assumption | trivial) (by kernel_rfl) (by decide +kernel) (by decide +kernel) (Or.inl ⟨by rfl, ?_⟩) ?_
           rotate_left
           focus
             intro w' hb'
             go_simp
             with_reducible rfl
           simp only [Act.put, List.setIfInBounds_toArray, List.set_cons_zero, List.set_cons_succ])
        | (refine SeqS.take2 (v := ?_) (by first | assumption | trivial) (by kernel_rfl) (by decide +kernel) (by decide +kernel) (Or.inl ⟨by rfl, ?_⟩) ?_
           rotate_left
           focus
             intro w' hb'
             have d0 := hq w'
             go_simp
             with_reducible rfl
           simp only [Act.put, List.setIfInBounds_toArray, List.set_cons_zero, List.set_cons_succ])
        | (refine SeqS.take2 (v := undef) (by first | assumption | trivial) (by kernel_rfl) (by decide +kernel) (by decide +kernel) (Or.inr ⟨by rfl, rfl⟩) ?_
           simp only [Act.put, List.setIfInBounds_toArray, List.set_cons_zero, List.set_cons_succ]))
      refine SeqS.done (by decide +kernel) ?_
      have hid3 := BX.out _ S3
      have hk3 := BK.out _ S3
      have own3 := BO.out _ S3
      have B3 := BB.out _ S3
      have hp3 := BP.out _ S3
      clear BX BK BO BB BP b1 S3 b3 hcH
      cases F with
      | true =>
        have own4H := Lib.hid (own3.alloc (.cells Y.toArray 23))
        have hnewH := Lib.hid (Blk.new w3 23 Y)
        have hB4 := Lib.hid (B3.alloc B3.size (.cells Y.toArray 23))
        have hk4 := Lib.hid (hk3.alloc (.cells Y.toArray 23))
        have hid4 := Lib.hid (hid3.alloc (.cells Y.toArray 23))
        have hst := Lib.hid (hyes.out hFH.out)
        have p2 := e2.out w3 G hk3
        clear own3 hid3 hk3 B3
        go_wp2_with (first
          | (refine wpList_load_part rfl 23 (.tmp 26) rfl ?_ Y hp3 HY ?_; rfl)
          | (refine wpList_buildSlice rfl 24 23 1 #[(0, .tmp 27)] rfl Y.toArray i0 _ Try.underlying24 hi hz0 (by rw [hz1]; decide) (by rw [hz1]; decide) (fill_id i0 _ hz1 Y hlYH.out _ (by rw [Array.toList_map]; rfl)) ?_)
          | (at_builtin; refine wpList_append_own _ rfl _ _ 24 rfl w.heap.size 23 i0 _ 32 32 Try.underlying24 hi hz0 hz1 hz2 (by simp [Value.cells]) (by decide) _ _ _ rfl own4H.out ⟨w3.heap.size, 0, none⟩ 1 1 Y rfl hlYH.out ?c1 hY1H.out ?c3 ?c4 ?c5 ?_))
        case c1 =>
          intro t u ht
          rw [add_at9, hnewH.out.cell]
          exact ht
        case c3 => have := hltH.out; have := hnH.out; have := hle.out; unfold maxLen; omega
        case c4 => have := hltH.out; have := hnH.out; have := hle.out; omega
        case c5 => exact hB4.out.size
        intro v5 W5 hown5 hg5 _
        have own5 : W5.ownsRow w.heap.size 23 32 v5 (hintN zs x (j + 1)) ((hintL zs x (j + 1)).map (Value.int .u8)) := by
          rw [hst.out.1, hst.out.2, List.map_append, hYH.out]
          exact hown5
        have b5 : Below w.heap.size w W5 := hB4.out.grown hg5 hB4.out.size (fun q hq => (own4H.out.lt q hq).1)
        have hk5 := hk4.out.grown hg5 (owns_blk16 own4H.out hk4.out (by decide))
        have hid5 := hid4.out.grown hg5 (owns_blk16 own4H.out hid4.out (by decide))
        clear hown5 hg5
        go_wp2
        exact ⟨⟨j + 1, by have := hltH.out; omega, by congr 1, own5, hk5, hid5, b5⟩, by simp only [intOf]; have := hltH.out; omega⟩
      | false =>
        have hst := Lib.hid (hnot.out hFH.out)
        have own5 := own3
        rw [← hst.out.1, ← hst.out.2] at own5
        clear own3
        go_wp2
        exact ⟨⟨j + 1, by have := hltH.out; omega, by congr 1, own5, hk3, hid3, B3⟩, by simp only [intOf]; have := hltH.out; omega⟩
    · obtain rfl : n = j := by omega
      have hji : ¬ (n : Int) < (n : Int) := by omega
      clear hlt hj
      go_wp2
      go_ret
      obtain ⟨b, d, hv⟩ := own_slice32 hown
      subst hv
      exact ⟨b, d, rfl, IdsAt.of_owns hown, fun x hx => (hown.lt x.block (by rw [hx]; rfl)).1, hB⟩
end Go.Proofs.Ytndodckcncejiaa

/-
  Whether an id stands among ids: slices.Index, slices.Contains, block's Has and the document's own. New memory alone is written. Conditions: at most a hundred thousand ids; an id has 32 bytes.
-/
namespace Go.Proofs.Ytndodckcncejiaa
open Go.RowKit

theorem beq_comm16 (x y : List Int) : (x == y) = (y == x) := by
  rw [Bool.eq_iff_iff, beq_iff_eq, beq_iff_eq]; exact eq_comm
set_option maxRecDepth 100000 in
set_option maxHeartbeats 2000000 in
theorem bkIndex_any (a : Option Addr) (n c : Nat) (zs x : List Int) (w : World) (hT : IdsAt w a n c zs) (hn : n ≤ 100000) (hx : x.length = 32) :
    Calls Try.prog 51 #[.slice a n c, .agg (x.map (Value.int .u8)).toArray] w fun q w' => ∃ r : Int, q = .returned (.int .i64 r) ∧ decide (0 ≤ r) = hasL zs x n ∧ Below w.heap.size w w' := by
  have hl := hT.1
  have hnm : (n : Int) ≤ 100000 := by omega
  have heq := Lib.hid (fun j (hj : j < n) => eqId16 x (idP zs j) hx (idP_len hl hj))
  have hps := Lib.hid (fun j (hj : j < n) => rowId_of (idP_len hl hj))
  have HI := rowId_of hx
  obtain ⟨X, hX⟩ : ∃ X, x.map (Value.int .u8) = X := ⟨_, rfl⟩
  rw [hX] at heq HI ⊢
  have hb := below1 w (.cells X.toArray 23)
  have hid0 := Blk.new w 23 X
  obtain ⟨W, hW⟩ : ∃ W, w.alloc (.cells X.toArray 23) = W := ⟨_, rfl⟩
  rw [hW] at hb hid0
  obtain ⟨I, hI⟩ : ∃ I, w.heap.size = I := ⟨_, rfl⟩
  rw [hI] at hid0
  have hTH := Lib.hid hT
  clear hX hx hT
  go_enter Try.func51, Try.ntmps51
  go_wp2_with ((with_reducible refine box_row rfl 23 (.tmp 1) rfl X ?_ ?_); rfl)
  have hIH := Lib.hid hI
  clear hW hI
  go_loopw [8] (fun i wr => ∃ j : Nat, j ≤ n ∧ i = .int .i64 j ∧ hasL zs x j = false ∧ Blk wr I 23 X ∧ Below w.heap.size w wr) (fun i _ => n - (intOf i).toNat)
  case atStart => exact ⟨0, Nat.zero_le _, rfl, rfl, hid0, hb⟩
  case round =>
    clear hid0 hb
    obtain ⟨j, hj, rfl, hno, hid, hB⟩ := hrel
    by_cases hlt : j < n
    · have hji : (j : Int) < (n : Int) := by omega
      obtain ⟨b, off, rfl, hp⟩ := (hTH.out.keep hB).get hlt
      have hq := heq.out j hlt
      have HY := hps.out j hlt
      have hyes := Lib.hid (fun h => hasL_true (zs := zs) (x := x) hlt h)
      have hstep := Lib.hid (show hasL zs x (j + 1) = (idP zs j == x) by rw [hasL, hno, Bool.false_or])
      obtain ⟨F, hF⟩ : ∃ F, (x == idP zs j) = F := ⟨_, rfl⟩
      rw [hF] at hq
      have hFH := Lib.hid hF
      obtain ⟨Y, hY⟩ : ∃ Y, (idP zs j).map (Value.int .u8) = Y := ⟨_, rfl⟩
      rw [hY] at hq hp HY
      have hltH := Lib.hid hlt
      have hng := noGuardIds
      clear hlt hj hno hF hY
      go_wp2_with fail
      refine region_seqS (fun w' => w' = wr.drew) (by kernel_rfl) rfl ?_
      simp only [pairs, Nat.reduceAdd]
      repeat (first
        | (refine SeqS.take (v := .agg (X).toArray) (by first | assumption | trivial) (by kernel_rfl) (by decide +kernel) (by decide +kernel) (yields_blk (by rfl) 23 (.tmp 3) rfl rfl (fun w' h => by subst h; exact hid) (HI)) ?_
           simp only [Act.put, List.setIfInBounds_toArray, List.set_cons_zero, List.set_cons_succ])
        | (refine SeqS.take (v := .agg (Y).toArray) (by first | assumption | trivial) (by kernel_rfl) (by decide +kernel) (by decide +kernel) (yields_part (by rfl) 23 (.tmp 14) rfl rfl (fun w' h => by subst h; exact hp) (HY)) ?_
           simp only [Act.put, List.setIfInBounds_toArray, List.set_cons_zero, List.set_cons_succ])
        | (refine SeqS.take (v := ?_) (by first | assumption | trivial) (by kernel_rfl) (by decide +kernel) (by decide +kernel) (Or.inl ⟨by rfl, ?_⟩) ?_
           rotate_left
           focus
             intro w' hb'
             go_simp
             with_reducible rfl
           simp only [Act.put, List.setIfInBounds_toArray, List.set_cons_zero, List.set_cons_succ])
        | (refine SeqS.take (v := ?_) (by first | assumption | trivial) (by kernel_rfl) (by decide +kernel) (by decide +kernel) (Or.inl ⟨by rfl, ?_⟩) ?_
           rotate_left
           focus
             intro w' hb'
             have d0 := hq w'
             go_simp
             with_reducible rfl
           simp only [Act.put, List.setIfInBounds_toArray, List.set_cons_zero, List.set_cons_succ])
        | (refine SeqS.take (v := undef) (by first | assumption | trivial) (by kernel_rfl) (by decide +kernel) (by decide +kernel) (Or.inr ⟨by rfl, rfl⟩) ?_
           simp only [Act.put, List.setIfInBounds_toArray, List.set_cons_zero, List.set_cons_succ])
        | (refine SeqS.take1 (v := .agg (X).toArray) (by first | assumption | trivial) (by kernel_rfl) (by decide +kernel) (by decide +kernel) (yields_blk (by rfl) 23 (.tmp 3) rfl rfl (fun w' h => by subst h; exact hid) (HI)) ?_
           simp only [Act.put, List.setIfInBounds_toArray, List.set_cons_zero, List.set_cons_succ])
        | (refine SeqS.take1 (v := .agg (Y).toArray) (by first | assumption | trivial) (by kernel_rfl) (by decide +kernel) (by decide +kernel) (yields_part (by rfl) 23 (.tmp 14) rfl rfl (fun w' h => by subst h; exact hp) (HY)) ?_
           simp only [Act.put, List.setIfInBounds_toArray, List.set_cons_zero, List.set_cons_succ])
        | (refine SeqS.take1 (v := ?_) (by first | assumption | trivial) (by kernel_rfl) (by decide +kernel) (by decide +kernel) (Or.inl ⟨by rfl, ?_⟩) ?_
           rotate_left
           focus
             intro w' hb'
             go_simp
             with_reducible rfl
           simp only [Act.put, List.setIfInBounds_toArray, List.set_cons_zero, List.set_cons_succ])
        | (refine SeqS.take1 (v := ?_) (by first | assumption | trivial) (by kernel_rfl) (by decide +kernel) (by decide +kernel) (Or.inl ⟨by rfl, ?_⟩) ?_
           rotate_left
           focus
             intro w' hb'
             have d0 := hq w'
             go_simp
             with_reducible rfl
           simp only [Act.put, List.setIfInBounds_toArray, List.set_cons_zero, List.set_cons_succ])
        | (refine SeqS.take1 (v := undef) (by first | assumption | trivial) (by kernel_rfl) (by decide +kernel) (by decide +kernel) (Or.inr ⟨by rfl, rfl⟩) ?_
           simp only [Act.put, List.setIfInBounds_toArray, List.set_cons_zero, List.set_cons_succ])
        | (refine SeqS.take2 (v := .agg (X).toArray) (by first | assumption | trivial) (by kernel_rfl) (by decide +kernel) (by decide +kernel) (yields_blk (by rfl) 23 (.tmp 3) rfl rfl (fun w' h => by subst h; exact hid) (HI)) ?_
           simp only [Act.put, List.setIfInBounds_toArray, List.set_cons_zero, List.set_cons_succ])
        | (refine SeqS.take2 (v := .agg (Y).toArray) (by first | assumption | trivial) (by kernel_rfl) (by decide +kernel) (by decide +kernel) (yields_part (by rfl) 23 (.tmp 14) rfl rfl (fun w' h => by subst h; exact hp) (HY)) ?_
           simp only [Act.put, List.setIfInBounds_toArray, List.set_cons_zero, List.set_cons_succ])
        | (refine SeqS.take2 (v := ?_) (by first | assumption | trivial) (by kernel_rfl) (by decide +kernel) (by decide +kernel) (Or.inl ⟨by rfl, ?_⟩) ?_
           rotate_left
           focus
             intro w' hb'
             go_simp
             with_reducible rfl
           simp only [Act.put, List.setIfInBounds_toArray, List.set_cons_zero, List.set_cons_succ])
        | (refine SeqS.take2 (v := ?_) (by first | assumption | trivial) (by kernel_rfl) (by decide +kernel) (by decide +kernel) (Or.inl ⟨by rfl, ?_⟩) ?_
           rotate_left
           focus
             intro w' hb'
             have d0 := hq w'
             go_simp
             with_reducible rfl
           simp only [Act.put, List.setIfInBounds_toArray, List.set_cons_zero, List.set_cons_succ])
        | (refine SeqS.take2 (v := undef) (by first | assumption | trivial) (by kernel_rfl) (by decide +kernel) (by decide +kernel) (Or.inr ⟨by rfl, rfl⟩) ?_
           simp only [Act.put, List.setIfInBounds_toArray, List.set_cons_zero, List.set_cons_succ])
        | (refine SeqS.take3 (v := .agg (X).toArray) (by first | assumption | trivial) (by kernel_rfl) (by decide +kernel) (by decide +kernel) (yields_blk (by rfl) 23 (.tmp 3) rfl rfl (fun w' h => by subst h; exact hid) (HI)) ?_
           simp only [Act.put, List.setIfInBounds_toArray, List.set_cons_zero, List.set_cons_succ])
        | (refine SeqS.take3 (v := .agg (Y).toArray) (by first | assumption | trivial) (by kernel_rfl) (by decide +kernel) (by decide +kernel) (yields_part (by rfl) 23 (.tmp 14) rfl rfl (fun w' h => by subst h; exact hp) (HY)) ?_
           simp only [Act.put, List.setIfInBounds_toArray, List.set_cons_zero, List.set_cons_succ])
        | (refine SeqS.take3 (v := ?_) (by first | assumption | trivial) (by kernel_rfl) (by decide +kernel) (by decide +kernel) (Or.inl ⟨by rfl, ?_⟩) ?_
           rotate_left
           focus
             intro w' hb'
             go_simp
             with_reducible rfl
           simp only [Act.put, List.setIfInBounds_toArray, List.set_cons_zero, List.set_cons_succ])
        | (refine SeqS.take3 (v := ?_) (by first | assumption | trivial) (by kernel_rfl) (by decide +kernel) (by decide +kernel) (Or.inl ⟨by rfl, ?_⟩) ?_
           rotate_left
           focus
             intro w' hb'
             have d0 := hq w'
             go_simp
             with_reducible rfl
           simp only [Act.put, List.setIfInBounds_toArray, List.set_cons_zero, List.set_cons_succ])
        | (refine SeqS.take3 (v := undef) (by first | assumption | trivial) (by kernel_rfl) (by decide +kernel) (by decide +kernel) (Or.inr ⟨by rfl, rfl⟩) ?_
           simp only [Act.put, List.setIfInBounds_toArray, List.set_cons_zero, List.set_cons_succ]))
      refine SeqS.done (by decide +kernel) ?_
      cases F with
      | true =>
        have hR := hyes.out (eq_of_beq hFH.out).symm
        go_wp2
        go_ret
        exact ⟨j, rfl, by rw [hR]; exact decide_eq_true (by omega), Below.drew hB⟩
      | false =>
        have hgo : hasL zs x (j + 1) = false := by rw [hstep.out, beq_comm16, hFH.out]
        have hgoH := Lib.hid hgo
        clear hgo hq hng HY hp
        have hid2 : Blk wr.drew I 23 X := hid
        have hB2 : Below w.heap.size w wr.drew := Below.drew hB
        go_wp2
        exact ⟨⟨j + 1, by have := hltH.out; omega, by congr 1, hgoH.out, hid2, hB2⟩, by simp only [intOf]; have := hltH.out; omega⟩
    · obtain rfl : n = j := by omega
      have hji : ¬ (n : Int) < (n : Int) := by omega
      clear hlt hj
      go_wp2
      go_ret
      exact ⟨-1, rfl, by first | decide | (rw [hno]; rfl) | simp [hno], hB⟩

set_option maxRecDepth 100000 in
set_option maxHeartbeats 2000000 in
theorem bkContains_any (a : Option Addr) (n c : Nat) (zs x : List Int) (w : World) (hT : IdsAt w a n c zs) (hn : n ≤ 100000) (hx : x.length = 32) :
    Calls Try.prog 36 #[.slice a n c, .agg (x.map (Value.int .u8)).toArray] w fun q w' => q = .returned (.bool (hasL zs x n)) ∧ Below w.heap.size w w' := by
  have HI := rowId9
  have hXl : (x.map (Value.int .u8)).length = 32 := by rw [List.length_map, hx]
  have hb := below1 w (.cells (x.map (Value.int .u8)).toArray 23)
  have hc := Lib.hid (bkIndex_any a n c zs x _ (hT.keep hb) hn hx)
  have hid0 := Blk.new w 23 (x.map (Value.int .u8))
  obtain ⟨X, hX⟩ : ∃ X, x.map (Value.int .u8) = X := ⟨_, rfl⟩
  rw [hX] at hc hXl hb hid0 ⊢
  obtain ⟨W, hW⟩ : ∃ W, w.alloc (.cells X.toArray 23) = W := ⟨_, rfl⟩
  rw [hW] at hb hid0 hc
  obtain ⟨B, hB⟩ : ∃ B, hasL zs x n = B := ⟨_, rfl⟩
  rw [hB] at hc ⊢
  have hbH := Lib.hid hb
  clear hX hx hT hn hB hb
  go_enter Try.func36, Try.ntmps36
  go_wp2_with (first
    | ((with_reducible refine box_row rfl 23 (.tmp 1) rfl X ?_ ?_); rfl; refine RowKit.Hid.out ?_))
  refine Lib.hid ?_
  clear hW
  go_wp2_with ((with_reducible refine wpList_load_blk rfl 23 (.tmp 3) rfl ?_ hid0 HI hXl ?_); rfl)
  refine hc.out.mono ?_
  rintro q w1 ⟨r, rfl, hr, b1⟩
  have hS := hbH.out.trans (b1.mono hbH.out.size)
  clear hc hid0
  cases B with
  | true =>
    have hr0 : 0 ≤ r := of_decide_eq_true hr
    have hr1 : (0 : Int) ≤ r := hr0
    clear hr
    go_wp2
    go_ret
    exact ⟨by first | rfl | simp [hr0], hS⟩
  | false =>
    have hr0 : ¬ 0 ≤ r := of_decide_eq_false hr
    clear hr
    go_wp2
    go_ret
    exact ⟨by first | rfl | simp [hr0] | (simp; omega), hS⟩

set_option maxRecDepth 100000 in
set_option maxHeartbeats 2000000 in
theorem bkHas_any (H P : List Int) (a : Option Addr) (n c : Nat) (zs x : List Int) (w : World) (hH : H.length = 32) (hP : P.length = 32) (hT : IdsAt w a n c zs) (hn : n ≤ 100000) (hx : x.length = 32) :
    Calls Try.prog 15 #[.agg (bkC H P a n c).toArray, .agg (x.map (Value.int .u8)).toArray] w fun q w' => q = .returned (.bool (hasL zs x n)) ∧ Below w.heap.size w w' := by
  have HI := rowId9
  have hXl : (x.map (Value.int .u8)).length = 32 := by rw [List.length_map, hx]
  have hb := below2 w (.cells (bkC H P a n c).toArray 26) (.cells (x.map (Value.int .u8)).toArray 23)
  have hc := Lib.hid (bkContains_any a n c zs x _ (hT.keep hb) hn hx)
  have hid0 := Blk.new1 w (.cells (bkC H P a n c).toArray 26) 23 (x.map (Value.int .u8))
  have hk0 := (Blk.new w 26 (bkC H P a n c)).alloc (.cells (x.map (Value.int .u8)).toArray 23)
  have c2 := bk2 hk0 hH hP
  obtain ⟨X, hX⟩ : ∃ X, x.map (Value.int .u8) = X := ⟨_, rfl⟩
  obtain ⟨C, hC⟩ : ∃ X, bkC H P a n c = X := ⟨_, rfl⟩
  rw [hX, hC] at hc hb hid0 c2 ⊢
  rw [hX] at hXl
  obtain ⟨W, hW⟩ : ∃ W, (w.alloc (.cells C.toArray 26)).alloc (.cells X.toArray 23) = W := ⟨_, rfl⟩
  rw [hW] at hb hid0 hc c2
  obtain ⟨G, hG⟩ : ∃ W, w.heap.size = W := ⟨_, rfl⟩
  rw [hG] at hid0 c2
  have hbH := Lib.hid hb
  clear hX hx hT hn hb hk0 hC
  go_enter Try.func15, Try.ntmps15
  go_wp2_with (first
    | ((with_reducible refine box_row rfl 26 (.tmp 0) rfl C ?_ ?_); rfl)
    | ((with_reducible refine box_row rfl 23 (.tmp 1) rfl X ?_ ?_); rfl; refine RowKit.Hid.out ?_))
  refine Lib.hid ?_
  clear hW hG
  go_wp2_with ((with_reducible refine wpList_load_blk rfl 23 (.tmp 3) rfl ?_ hid0 HI hXl ?_); rfl)
  refine hc.out.mono ?_
  rintro q w1 ⟨rfl, b1⟩
  go_wp2
  go_ret
  exact ⟨rfl, hbH.out.trans (b1.mono hbH.out.size)⟩

set_option maxRecDepth 100000 in
set_option maxHeartbeats 2000000 in
theorem r16Has_any (H P : List Int) (a : Option Addr) (n c : Nat) (zs x : List Int) (w : World) (hH : H.length = 32) (hP : P.length = 32) (hT : IdsAt w a n c zs) (hn : n ≤ 100000) (hx : x.length = 32) :
    Calls Try.prog 16 #[.agg (bkC H P a n c).toArray, .agg (x.map (Value.int .u8)).toArray] w fun q w' => q = .returned (.bool (hasL zs x n)) ∧ Below w.heap.size w w' := by
  have hl := hT.1
  have hnm : (n : Int) ≤ 100000 := by omega
  have heq := Lib.hid (fun j (hj : j < n) => eqId16 (idP zs j) x (idP_len hl hj) hx)
  have hps := Lib.hid (fun j (hj : j < n) => rowId_of (idP_len hl hj))
  have HI := rowId_of hx
  have hb := below2 w (.cells (bkC H P a n c).toArray 26) (.cells (x.map (Value.int .u8)).toArray 23)
  have hid0 := Blk.new1 w (.cells (bkC H P a n c).toArray 26) 23 (x.map (Value.int .u8))
  have hk0 := (Blk.new w 26 (bkC H P a n c)).alloc (.cells (x.map (Value.int .u8)).toArray 23)
  have e2 := Lib.hid (fun w' (h : Blk w' w.heap.size 26 (bkC H P a n c)) => bk2 h hH hP)
  obtain ⟨X, hX⟩ : ∃ X, x.map (Value.int .u8) = X := ⟨_, rfl⟩
  obtain ⟨C, hC⟩ : ∃ X, bkC H P a n c = X := ⟨_, rfl⟩
  rw [hX] at heq HI
  rw [hC] at e2
  rw [hX, hC] at hb hid0 hk0 ⊢
  obtain ⟨W, hW⟩ : ∃ W, (w.alloc (.cells C.toArray 26)).alloc (.cells X.toArray 23) = W := ⟨_, rfl⟩
  rw [hW] at hb hid0 hk0
  obtain ⟨G, hG⟩ : ∃ W, w.heap.size = W := ⟨_, rfl⟩
  rw [hG] at hid0 hk0 e2
  have hTH := Lib.hid hT
  clear hX hx hT hC
  go_enter Try.func16, Try.ntmps16
  go_wp2_with (first
    | ((with_reducible refine box_row rfl 26 (.tmp 0) rfl C ?_ ?_); rfl)
    | ((with_reducible refine box_row rfl 23 (.tmp 1) rfl X ?_ ?_); rfl))
  clear hW hG
  go_loopw [5] (fun i wr => ∃ j : Nat, j ≤ n ∧ i = .int .i64 j ∧ hasL zs x j = false ∧ Blk wr G 26 C ∧ Blk wr (G + 1) 23 X ∧ Below w.heap.size w wr) (fun i _ => n - (intOf i).toNat)
  case atStart => exact ⟨0, Nat.zero_le _, rfl, rfl, hk0, hid0, hb⟩
  case round =>
    clear hid0 hb hk0
    obtain ⟨j, hj, rfl, hno, hk, hid, hB⟩ := hrel
    have c2 := e2.out wr hk
    by_cases hlt : j < n
    · have hji : (j : Int) < (n : Int) := by omega
      obtain ⟨b, off, rfl, hp⟩ := (hTH.out.keep hB).get hlt
      have hq := heq.out j hlt
      have HY := hps.out j hlt
      have hyes := Lib.hid (fun h => hasL_true (zs := zs) (x := x) hlt h)
      have hstep := Lib.hid (show hasL zs x (j + 1) = (idP zs j == x) by rw [hasL, hno, Bool.false_or])
      obtain ⟨F, hF⟩ : ∃ F, (idP zs j == x) = F := ⟨_, rfl⟩
      rw [hF] at hq
      have hFH := Lib.hid hF
      obtain ⟨Y, hY⟩ : ∃ Y, (idP zs j).map (Value.int .u8) = Y := ⟨_, rfl⟩
      rw [hY] at hq hp HY
      have hltH := Lib.hid hlt
      have hng := noGuardIds
      clear hlt hj hno hF hY
      go_wp2_with fail
      refine region_seqS (fun w' => w' = wr.drew) (by kernel_rfl) rfl ?_
      simp only [pairs, Nat.reduceAdd]
      repeat (first
        | (refine SeqS.take (v := .agg (X).toArray) (by first | assumption | trivial) (by kernel_rfl) (by decide +kernel) (by decide +kernel) (yields_blk (by rfl) 23 (.tmp 3) rfl rfl (fun w' h => by subst h; exact hid) (HI)) ?_
           simp only [Act.put, List.setIfInBounds_toArray, List.set_cons_zero, List.set_cons_succ])
        | (refine SeqS.take (v := .agg (Y).toArray) (by first | assumption | trivial) (by kernel_rfl) (by decide +kernel) (by decide +kernel) (yields_part (by rfl) 23 (.tmp 16) rfl rfl (fun w' h => by subst h; exact hp) (HY)) ?_
           simp only [Act.put, List.setIfInBounds_toArray, List.set_cons_zero, List.set_cons_succ])
        | (refine SeqS.take (v := ?_) (by first | assumption | trivial) (by kernel_rfl) (by decide +kernel) (by decide +kernel) (Or.inl ⟨by rfl, ?_⟩) ?_
           rotate_left
           focus
             intro w' hb'
             go_simp
             with_reducible rfl
           simp only [Act.put, List.setIfInBounds_toArray, List.set_cons_zero, List.set_cons_succ])
        | (refine SeqS.take (v := ?_) (by first | assumption | trivial) (by kernel_rfl) (by decide +kernel) (by decide +kernel) (Or.inl ⟨by rfl, ?_⟩) ?_
           rotate_left
           focus
             intro w' hb'
             have d0 := hq w'
             go_simp
             with_reducible rfl
           simp only [Act.put, List.setIfInBounds_toArray, List.set_cons_zero, List.set_cons_succ])
        | (refine SeqS.take (v := ?_) (by first | assumption | trivial) (by kernel_rfl) (by decide +kernel) (by decide +kernel) (Or.inl ⟨by rfl, ?_⟩) ?_
           rotate_left
           focus
             intro w' hb'
             have d0 : w'.cell? ⟨G, 64, none⟩ = some (.slice (some ⟨b, off, none⟩) n c) := by subst hb'; exact c2
             go_simp
             with_reducible rfl
           simp only [Act.put, List.setIfInBounds_toArray, List.set_cons_zero, List.set_cons_succ])
        | (refine SeqS.take (v := undef) (by first | assumption | trivial) (by kernel_rfl) (by decide +kernel) (by decide +kernel) (Or.inr ⟨by rfl, rfl⟩) ?_
           simp only [Act.put, List.setIfInBounds_toArray, List.set_cons_zero, List.set_cons_succ])
        | (refine SeqS.take1 (v := .agg (X).toArray) (by first | assumption | trivial) (by kernel_rfl) (by decide +kernel) (by decide +kernel) (yields_blk (by rfl) 23 (.tmp 3) rfl rfl (fun w' h => by subst h; exact hid) (HI)) ?_
           simp only [Act.put, List.setIfInBounds_toArray, List.set_cons_zero, List.set_cons_succ])
        | (refine SeqS.take1 (v := .agg (Y).toArray) (by first | assumption | trivial) (by kernel_rfl) (by decide +kernel) (by decide +kernel) (yields_part (by rfl) 23 (.tmp 16) rfl rfl (fun w' h => by subst h; exact hp) (HY)) ?_
           simp only [Act.put, List.setIfInBounds_toArray, List.set_cons_zero, List.set_cons_succ])
        | (refine SeqS.take1 (v := ?_) (by first | assumption | trivial) (by kernel_rfl) (by decide +kernel) (by decide +kernel) (Or.inl ⟨by rfl, ?_⟩) ?_
           rotate_left
           focus
             intro w' hb'
             go_simp
             with_reducible rfl
           simp only [Act.put, List.setIfInBounds_toArray, List.set_cons_zero, List.set_cons_succ])
        | (refine SeqS.take1 (v := ?_) (by first | assumption | trivial) (by kernel_rfl) (by decide +kernel) (by decide +kernel) (Or.inl ⟨by rfl, ?_⟩) ?_
           rotate_left
           focus
             intro w' hb'
             have d0 := hq w'
             go_simp
             with_reducible rfl
           simp only [Act.put, List.setIfInBounds_toArray, List.set_cons_zero, List.set_cons_succ])
        | (refine SeqS.take1 (v := ?_) (by first | assumption | trivial) (by kernel_rfl) (by decide +kernel) (by decide +kernel) (Or.inl ⟨by rfl, ?_⟩) ?_
           rotate_left
           focus
             intro w' hb'
             have d0 : w'.cell? ⟨G, 64, none⟩ = some (.slice (some ⟨b, off, none⟩) n c) := by subst hb'; exact c2
             go_simp
             with_reducible rfl
           simp only [Act.put, List.setIfInBounds_toArray, List.set_cons_zero, List.set_cons_succ])
        | (refine SeqS.take1 (v := undef) (by first | assumption | trivial) (by kernel_rfl) (by decide +kernel) (by decide +kernel) (Or.inr ⟨by rfl, rfl⟩) ?_
           simp only [Act.put, List.setIfInBounds_toArray, List.set_cons_zero, List.set_cons_succ])
        | (refine SeqS.take2 (v := .agg (X).toArray) (by first | assumption | trivial) (by kernel_rfl) (by decide +kernel) (by decide +kernel) (yields_blk (by rfl) 23 (.tmp 3) rfl rfl (fun w' h => by subst h; exact hid) (HI)) ?_
           simp only [Act.put, List.setIfInBounds_toArray, List.set_cons_zero, List.set_cons_succ])
        | (refine SeqS.take2 (v := .agg (Y).toArray) (by first | assumption | trivial) (by kernel_rfl) (by decide +kernel) (by decide +kernel) (yields_part (by rfl) 23 (.tmp 16) rfl rfl (fun w' h => by subst h; exact hp) (HY)) ?_
           simp only [Act.put, List.setIfInBounds_toArray, List.set_cons_zero, List.set_cons_succ])
        | (refine SeqS.take2 (v := ?_) (by first | assumption | trivial) (by kernel_rfl) (by decide +kernel) (by decide +kernel) (Or.inl ⟨by rfl, ?_⟩) ?_
           rotate_left
           focus
             intro w' hb'
             go_simp
             with_reducible rfl
           simp only [Act.put, List.setIfInBounds_toArray, List.set_cons_zero, List.set_cons_succ])
        | (refine SeqS.take2 (v := ?_) (by first | assumption | trivial) (by kernel_rfl) (by decide +kernel) (by decide +kernel) (Or.inl ⟨by rfl, ?_⟩) ?_
           rotate_left
           focus
             intro w' hb'
             have d0 := hq w'
             go_simp
             with_reducible rfl
           simp only [Act.put, List.setIfInBounds_toArray, List.set_cons_zero, List.set_cons_succ])
        | (refine SeqS.take2 (v := ?_) (by first | assumption | trivial) (by kernel_rfl) (by decide +kernel) (by decide +kernel) (Or.inl ⟨by rfl, ?_⟩) ?_
           rotate_left
           focus
             intro w' hb'
             have d0 : w'.cell? ⟨G, 64, none⟩ = some (.slice (some ⟨b, off, none⟩) n c) := by subst hb'; exact c2
             go_simp
             with_reducible rfl
           simp only [Act.put, List.setIfInBounds_toArray, List.set_cons_zero, List.set_cons_succ])
        | (refine SeqS.take2 (v := undef) (by first | assumption | trivial) (by kernel_rfl) (by decide +kernel) (by decide +kernel) (Or.inr ⟨by rfl, rfl⟩) ?_
           simp only [Act.put, List.setIfInBounds_toArray, List.set_cons_zero, List.set_cons_succ])
        | (refine SeqS.take3 (v := .agg (X).toArray) (by first | assumption | trivial) (by kernel_rfl) (by decide +kernel) (by decide +kernel) (yields_blk (by rfl) 23 (.tmp 3) rfl rfl (fun w' h => by subst h; exact hid) (HI)) ?_
           simp only [Act.put, List.setIfInBounds_toArray, List.set_cons_zero, List.set_cons_succ])
        | (refine SeqS.take3 (v := .agg (Y).toArray) (by first | assumption | trivial) (by kernel_rfl) (by decide +kernel) (by decide +kernel) (yields_part (by rfl) 23 (.tmp 16) rfl rfl (fun w' h => by subst h; exact hp) (HY)) ?_
           simp only [Act.put, List.setIfInBounds_toArray, List.set_cons_zero, List.set_cons_succ])
        | (refine SeqS.take3 (v := ?_) (by first | assumption | trivial) (by kernel_rfl) (by decide +kernel) (by decide +kernel) (Or.inl ⟨by rfl, ?_⟩) ?_
           rotate_left
           focus
             intro w' hb'
             go_simp
             with_reducible rfl
           simp only [Act.put, List.setIfInBounds_toArray, List.set_cons_zero, List.set_cons_succ])
        | (refine SeqS.take3 (v := ?_) (by first | assumption | trivial) (by kernel_rfl) (by decide +kernel) (by decide +kernel) (Or.inl ⟨by rfl, ?_⟩) ?_
           rotate_left
           focus
             intro w' hb'
             have d0 := hq w'
             go_simp
             with_reducible rfl
           simp only [Act.put, List.setIfInBounds_toArray, List.set_cons_zero, List.set_cons_succ])
        | (refine SeqS.take3 (v := ?_) (by first | assumption | trivial) (by kernel_rfl) (by decide +kernel) (by decide +kernel) (Or.inl ⟨by rfl, ?_⟩) ?_
           rotate_left
           focus
             intro w' hb'
             have d0 : w'.cell? ⟨G, 64, none⟩ = some (.slice (some ⟨b, off, none⟩) n c) := by subst hb'; exact c2
             go_simp
             with_reducible rfl
           simp only [Act.put, List.setIfInBounds_toArray, List.set_cons_zero, List.set_cons_succ])
        | (refine SeqS.take3 (v := undef) (by first | assumption | trivial) (by kernel_rfl) (by decide +kernel) (by decide +kernel) (Or.inr ⟨by rfl, rfl⟩) ?_
           simp only [Act.put, List.setIfInBounds_toArray, List.set_cons_zero, List.set_cons_succ]))
      refine SeqS.done (by decide +kernel) ?_
      cases F with
      | true =>
        have hR := hyes.out (eq_of_beq hFH.out)
        go_wp2
        go_ret
        exact ⟨by simp [hR], Below.drew hB⟩
      | false =>
        have hgo : hasL zs x (j + 1) = false := by rw [hstep.out, hFH.out]
        have hgoH := Lib.hid hgo
        clear hgo hq hng HY hp c2
        have hid2 : Blk wr.drew (G + 1) 23 X := hid
        have hk2 : Blk wr.drew G 26 C := hk
        have hB2 : Below w.heap.size w wr.drew := Below.drew hB
        go_wp2
        exact ⟨⟨j + 1, by have := hltH.out; omega, by congr 1, hgoH.out, hk2, hid2, hB2⟩, by simp only [intOf]; have := hltH.out; omega⟩
    · obtain rfl : n = j := by omega
      have hji : ¬ (n : Int) < (n : Int) := by omega
      clear hlt hj
      go_wp2
      go_ret
      exact ⟨by simp, hB⟩
end Go.Proofs.Ytndodckcncejiaa

/-
  The document's own Bytes and Encode of a block. New memory alone is written. Conditions: the fields' ranges, at most a hundred thousand ids.
-/
namespace Go.Proofs.Ytndodckcncejiaa
open Go.RowKit

theorem slice_all16 {P : Program} {t e : TypeId} {n g off : Nat} (hu : P.underlying t = some (.array n e)) (hs : (P.info? e).map (·.size) = some 1) (w : World) :
    (Instr.sliceAt t (.pointer (some ⟨g, off, none⟩)) none none none).run P w = .ok (.slice (some ⟨g, off, none⟩) n n) w := by
  have hn : P.arrayLen t = n := by simp [Program.arrayLen, hu]
  have he : P.elem t = e := by simp [Program.elem, hu]
  have hrun := run_sliceAt_array_all w t ⟨g, off, none⟩ (by rw [hn, he]; exact hu)
  have hsz : (sizeOf e).run P w = .ok 1 w := by
    cases hq : P.info? e with
    | none => simp [hq] at hs
    | some i => simp [sizeOf, typeInfo, hq, (by simpa [hq] using hs : i.size = 1)]
  rw [hn, he, hsz] at hrun
  rw [hrun]
  unfold slicedAt
  have : (⟨g, off, none⟩ : Addr).add (0 * 1) = ⟨g, off, none⟩ := by simp [Addr.add_mid]
  simp [this]
theorem ints_range16 {w : World} {g off m : Nat} {X : List Int} (h : w.rangeAt g off (X.map (Value.int .u8))) (hl : X.length = m) : Ints .u8 w (some ⟨g, off, none⟩) m m X :=
  ⟨hl, Nat.le_refl _, .inr ⟨g, off, rfl, fun i hi => by
    have := h i (.int .u8 (X.getD i 0)) (by rw [List.getElem?_map, List.getD_eq_getElem?_getD, List.getElem?_eq_getElem (by omega)]; rfl)
    exact this⟩⟩

set_option maxRecDepth 100000 in
set_option maxHeartbeats 4000000 in
theorem r16Bytes_any (H P : List Int) (a : Option Addr) (n c : Nat) (zs : List Int) (w : World) (hH : H.length = 32) (hP : P.length = 32) (hT : IdsAt w a n c zs) (hn : n ≤ 100000) :
    Calls Try.prog 28 #[.agg (bkC H P a n c).toArray] w fun q w' => ∃ b d, q = .returned (.slice b (blkB ⟨H, P, n, zs⟩).length d) ∧ w'.ownsRow w.heap.size 5 1 (.slice b (blkB ⟨H, P, n, zs⟩).length d) (blkB ⟨H, P, n, zs⟩).length ((blkB ⟨H, P, n, zs⟩).map (Value.int .u8)) ∧ Below w.heap.size w w' := by
  have hl := hT.1
  obtain ⟨i0, hi, hz0, hz1, hz2⟩ := info_u8b
  have tp : 26 ≠ 5 := by decide
  have e0 := Lib.hid (fun w' g (h : Blk w' g 26 (bkC H P a n c)) => ints_range16 (bk0 h) hH)
  have e1 := Lib.hid (fun w' g (h : Blk w' g 26 (bkC H P a n c)) => ints_range16 (bk1 h hH) hP)
  have e2 := Lib.hid (fun w' g (h : Blk w' g 26 (bkC H P a n c)) => bk2 h hH hP)
  obtain ⟨C, hC⟩ : ∃ C, bkC H P a n c = C := ⟨_, rfl⟩
  rw [hC] at e0 e1 e2
  rw [hC]
  have hb := below1 w (.cells C.toArray 26)
  have hk : Blk (w.alloc (.cells C.toArray 26)) w.heap.size 26 C := Blk.new w _ C
  obtain ⟨W, hW⟩ : ∃ V, w.alloc (.cells C.toArray 26) = V := ⟨_, rfl⟩
  rw [hW] at hb hk
  obtain ⟨G, g9⟩ : ∃ G, w.heap.size = G := ⟨_, rfl⟩
  rw [g9] at hk
  have gH := Lib.hid g9
  have hTH := Lib.hid hT
  have hnH := Lib.hid hn
  have hnm : (n : Int) ≤ 100000 := by omega
  have hps := Lib.hid (fun j (hj : j < n) => idP_len hl hj)
  have hsA := fun w' => slice_all16 (P := Try.prog) (g := G) (off := 0) Try.underlying23 sizeU8s w'
  have hsB := fun w' => slice_all16 (P := Try.prog) (g := G) (off := 32) Try.underlying23 sizeU8s w'
  obtain ⟨bs, hbs⟩ : ∃ bs, H ++ (P ++ [(n : Int) % 256]) = bs := ⟨_, rfl⟩
  have hbl : bs.length = 65 := by rw [← hbs, List.length_append, List.length_append, hH, hP]; rfl
  have hM : blkB ⟨H, P, n, zs⟩ = bs ++ zs.take (32 * n) := by
    rw [take_ids hl, ← hbs]
    unfold blkB
    simp
  obtain ⟨M, hMM⟩ : ∃ M, blkB ⟨H, P, n, zs⟩ = M := ⟨_, rfl⟩
  rw [hMM] at hM
  rw [hMM]
  have hMl : M.length = 65 + 32 * n := by rw [hM, take_ids hl, List.length_append, hbl, hl]
  have hMH := Lib.hid (And.intro hM hMl)
  have hbsH := Lib.hid hbs
  have hstep := Lib.hid (take_step zs)
  clear hC hT hn hM hMM hMl hbs hl
  go_enter Try.func28, Try.ntmps28
  go_wp2_with ((with_reducible refine box_row rfl 26 (.tmp 0) rfl C ?_ ?_); rfl; refine RowKit.Hid.out ?_)
  refine Lib.hid ?_
  clear hW
  have q1 : Below w.heap.size w (W.alloc (.cells #[] 5)) := hb.alloc hb.size _
  have hk1 := hk.alloc (.cells #[] 5)
  have hO1 : (W.alloc (.cells #[] 5)).ownsRow w.heap.size 5 1 (.slice (some ⟨W.heap.size, 0, none⟩) 0 0) 0 [] := World.ownsRow_made W #[] 0 hb.size (Nat.zero_le _) rfl
  have I1 := e0.out _ G hk1
  clear hk hb
  go_wp2_with (at_builtin
               refine wpList_append_ints rfl (.tmp 5) (.tmp 7) 29 rfl w.heap.size 5 i0 (.int .u8 0) 1 Try.underlying29 hi hz0 hz1 hz2 rfl rfl hO1 rfl I1 ?_ ?_ q1.size ?_
               (skip; unfold maxLen; omega)
               (skip; omega)
               intro v2 w2 hO2 hg2
               refine RowKit.Hid.out ?_)
  refine Lib.hid ?_
  have hk2 := hk1.grown hg2 (owns_blk16 hO1 hk1 tp)
  have hB2 := q1.grown hg2 q1.size (fun q hq => (hO1.lt q hq).1)
  have I2 := e1.out _ G hk2
  clear hk1 q1 hO1 hg2 I1
  rw [List.nil_append, Nat.zero_add] at hO2
  go_wp2_with (at_builtin
               refine wpList_append_ints rfl (.tmp 9) (.tmp 11) 29 rfl w.heap.size 5 i0 (.int .u8 0) 1 Try.underlying29 hi hz0 hz1 hz2 rfl rfl hO2 rfl I2 ?_ ?_ hB2.size ?_
               (skip; unfold maxLen; omega)
               (skip; omega)
               intro v3 w3 hO3 hg3
               refine RowKit.Hid.out ?_)
  refine Lib.hid ?_
  have hk3 := hk2.grown hg3 (owns_blk16 hO2 hk2 tp)
  have hB3 := hB2.grown hg3 hB2.size (fun q hq => (hO2.lt q hq).1)
  have c2 := e2.out _ G hk3
  rw [← List.map_append] at hO3
  clear hk2 hB2 hO2 hg3 I2
  obtain ⟨k8, hk8⟩ : ∃ k : Int, (n : Int) % 256 = k := ⟨_, rfl⟩
  have hkn := Blk.new w3 5 [.int .u8 k8]
  have hk4 := hk3.alloc (.cells #[.int .u8 k8] 5)
  have hB4 := hB3.alloc hB3.size (.cells #[.int .u8 k8] 5)
  have hO4 := hO3.alloc (.cells #[.int .u8 k8] 5)
  have I4 : Ints .u8 (w3.alloc (.cells #[.int .u8 k8] 5)) (some ⟨w3.heap.size, 0, none⟩) 1 1 [k8] := ints_range16 (X := [k8]) (hkn.range 0 _ (fun j v hj => by rw [Nat.zero_add]; exact hj)) rfl
  clear hk3 hB3 hO3 hkn
  go_wp2_with (at_builtin
               refine wpList_append_ints rfl (.tmp 13) (.tmp 18) 29 rfl w.heap.size 5 i0 (.int .u8 0) 1 Try.underlying29 hi hz0 hz1 hz2 rfl rfl hO4 rfl I4 ?_ ?_ hB4.size ?_
               (skip; unfold maxLen; omega)
               (skip; omega)
               intro v5 w5 hO5 hg5
               refine RowKit.Hid.out ?_)
  refine Lib.hid ?_
  have hk5 := hk4.grown hg5 (owns_blk16 hO4 hk4 tp)
  have hB5 := hB4.grown hg5 hB4.size (fun q hq => (hO4.lt q hq).1)
  rw [← List.map_append] at hO5
  have hO5 : w5.ownsRow w.heap.size 5 1 v5 (65 + 32 * 0) ((bs ++ zs.take (32 * 0)).map (Value.int .u8)) := by
    rw [Nat.mul_zero, List.take_zero, List.append_nil, ← hbsH.out, hk8, ← List.append_assoc]
    exact hO5
  clear hk4 hB4 hO4 hg5 I4 c2 hk8
  go_wp2
  go_loopw [3, 4] (fun v i wr => ∃ j : Nat, j ≤ n ∧ i = .int .i64 j ∧ wr.ownsRow w.heap.size 5 1 v (65 + 32 * j) ((bs ++ zs.take (32 * j)).map (Value.int .u8)) ∧ Blk wr G 26 C ∧ Below w.heap.size w wr) (fun _ i _ => n - (intOf i).toNat)
  case atStart => exact ⟨0, Nat.zero_le _, rfl, hO5, hk5, hB5⟩
  case round =>
    clear hO5 hk5 hB5
    obtain ⟨j, hj, rfl, hO, hk, hB⟩ := hrel
    have c2 := e2.out wr G hk
    by_cases hlt : j < n
    · have hji : (j : Int) < (n : Int) := by omega
      obtain ⟨b, off, rfl, hp⟩ := (hTH.out.keep hB).get hlt
      have hJ := ints_range16 hp (hps.out j hlt)
      have hsC := fun w' => slice_all16 (P := Try.prog) (g := b) (off := off + j * 32) Try.underlying23 sizeU8s w'
      have hst := Lib.hid (hstep.out j)
      have hltH := Lib.hid hlt
      clear hlt hj hp
      go_wp2_with (at_builtin
                   refine wpList_append_ints rfl (.tmp 27) (.tmp 32) 29 rfl w.heap.size 5 i0 (.int .u8 0) 1 Try.underlying29 hi hz0 hz1 hz2 rfl rfl hO rfl hJ ?_ ?_ hB.size ?_
                   (have := hltH.out; have := hnH.out; unfold maxLen; omega)
                   (have := hltH.out; have := hnH.out; omega)
                   intro v6 w6 hO6 hg6
                   refine RowKit.Hid.out ?_)
      refine Lib.hid ?_
      have hk6 := hk.grown hg6 (owns_blk16 hO hk tp)
      have hB6 := hB.grown hg6 hB.size (fun q hq => (hO.lt q hq).1)
      rw [← List.map_append, List.append_assoc, ← hst.out] at hO6
      have hO7 : w6.ownsRow w.heap.size 5 1 v6 (65 + 32 * (j + 1)) ((bs ++ zs.take (32 * (j + 1))).map (Value.int .u8)) := hO6
      clear hO hk hB hJ hO6 hg6 c2
      go_wp2
      exact ⟨⟨j + 1, by have := hltH.out; omega, by congr 1, hO7, hk6, hB6⟩, by simp only [intOf]; have := hltH.out; omega⟩
    · obtain rfl : n = j := by omega
      have hji : ¬ (n : Int) < (n : Int) := by omega
      rw [← hMH.out.1, ← hMH.out.2] at hO
      clear hlt hj
      go_wp2
      go_ret
      obtain ⟨b, d, hv⟩ := own_slice32 hO
      subst hv
      rw [gH.out] at hO hB
      exact ⟨b, d, rfl, hO, hB⟩

set_option maxRecDepth 100000 in
set_option maxHeartbeats 1000000 in
theorem r16Encode_any (H P : List Int) (a : Option Addr) (n c : Nat) (zs : List Int) (w : World) (hH : H.length = 32) (hP : P.length = 32) (hT : IdsAt w a n c zs) (hn : n ≤ 100000) :
    Calls Try.prog 9 #[.agg (bkC H P a n c).toArray] w fun q w' => ∃ b d, q = .returned (.tuple #[.slice b (encK ⟨H, P, n, zs⟩).1.length d, .int .i64 (encK ⟨H, P, n, zs⟩).2]) ∧ Ints .u8 w' b (encK ⟨H, P, n, zs⟩).1.length d (encK ⟨H, P, n, zs⟩).1 ∧ Below w.heap.size w w' := by
  have hR := Lib.hid (fun w' (h : Below w.heap.size w w') => r16Right_any H P a n c zs w' hH hP (hT.keep h) hn)
  have hBy := Lib.hid (fun w' (h : Below w.heap.size w w') => r16Bytes_any H P a n c zs w' hH hP (hT.keep h) hn)
  have hCl := bkC_len (a := a) (n := n) (c := c) hH hP
  obtain ⟨C, hC⟩ : ∃ C, bkC H P a n c = C := ⟨_, rfl⟩
  rw [hC] at hR hBy hCl
  rw [hC]
  have hb := below1 w (.cells C.toArray 26)
  have hk : Blk (w.alloc (.cells C.toArray 26)) w.heap.size 26 C := Blk.new w _ C
  obtain ⟨W, hW⟩ : ∃ V, w.alloc (.cells C.toArray 26) = V := ⟨_, rfl⟩
  rw [hW] at hb hk
  obtain ⟨G, g9⟩ : ∃ G, w.heap.size = G := ⟨_, rfl⟩
  rw [g9] at hk
  have gH := Lib.hid g9
  unfold encK
  obtain ⟨K, hK⟩ : ∃ K, rightK ⟨H, P, n, zs⟩ = K := ⟨_, rfl⟩
  rw [hK] at hR ⊢
  obtain ⟨M, hM⟩ : ∃ K, blkB ⟨H, P, n, zs⟩ = K := ⟨_, rfl⟩
  rw [hM] at hBy ⊢
  clear hC hT hK hM
  cases K with
  | false =>
    rw [if_neg (by decide)]
    go_enter Try.func9, Try.ntmps9
    go_wp2_with ((with_reducible refine box_row rfl 26 (.tmp 0) rfl C ?_ ?_); rfl; refine RowKit.Hid.out ?_)
    refine Lib.hid ?_
    clear hW
    go_wp2_with ((with_reducible refine wpList_load_blk rfl 26 (.tmp 1) rfl ?_ hk rowBk hCl ?_); rfl)
    refine (hR.out W hb).mono ?_
    rintro q w1 ⟨rfl, b1⟩
    go_wp2
    go_ret2
    exact ⟨none, 0, rfl, ⟨rfl, Nat.le_refl _, .inl rfl⟩, hb.trans (b1.mono hb.size)⟩
  | true =>
    rw [if_pos rfl]
    dsimp only
    go_enter Try.func9, Try.ntmps9
    go_wp2_with ((with_reducible refine box_row rfl 26 (.tmp 0) rfl C ?_ ?_); rfl; refine RowKit.Hid.out ?_)
    refine Lib.hid ?_
    clear hW
    go_wp2_with ((with_reducible refine wpList_load_blk rfl 26 (.tmp 1) rfl ?_ hk rowBk hCl ?_); rfl)
    refine (hR.out W hb).mono ?_
    rintro q w1 ⟨rfl, b1⟩
    have hk1 := hk.keep b1 hk.lt
    have hS1 := hb.trans (b1.mono hb.size)
    clear hk hb b1 hR
    go_wp2_with ((with_reducible refine wpList_load_blk rfl 26 (.tmp 1) rfl ?_ hk1 rowBk hCl ?_); rfl)
    refine (hBy.out w1 hS1).mono ?_
    rintro q w2 ⟨b, d, rfl, ho, b2⟩
    obtain ⟨b', d', hv, hJ⟩ := Ints.of_owns ho
    injection hv with e1 _ e2
    subst e1; subst e2
    go_wp2
    go_ret2
    exact ⟨b, d, rfl, hJ, hS1.trans (b2.mono hS1.size)⟩
end Go.Proofs.Ytndodckcncejiaa

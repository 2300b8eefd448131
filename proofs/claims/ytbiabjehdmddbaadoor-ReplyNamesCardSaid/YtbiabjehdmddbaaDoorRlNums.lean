/-
  What reply's numbersOf and replyOf (layer 15) come to. New memory alone is written. No conditions.
-/
import Derived.Test.YtbiabjehdmddbaaDoorRlRight
namespace Go.Proofs.YtbiabjehdmddbaaDoor
open Go.RowKit

def arV (r : RplV) : List Value := arC r.ses r.seq r.quo r.usd r.exp

set_option maxRecDepth 100000 in
set_option maxHeartbeats 1000000 in
theorem rlNums_any (r : RplV) (w : World) : Calls Tryd.prog 23 #[.agg (rpV r).toArray] w fun q w' => q = .returned (.agg (arV r).toArray) ∧ Below w.heap.size w w' := by
  obtain ⟨K, E, S, Q, O, U, X⟩ := r
  unfold rpV arV
  dsimp only
  have hbt := built_ar5 S Q O U X
  have hD1 := arC_one S Q O U X
  have hDl : (arC S Q O U X).length = 5 := rfl
  have hb := below2 w (.cells (rpC K E S Q O U X).toArray 27) (.cells (arC 0 0 0 0 0).toArray 45)
  have hk : Blk ((w.alloc (.cells (rpC K E S Q O U X).toArray 27)).alloc (.cells (arC 0 0 0 0 0).toArray 45)) w.heap.size 27 (rpC K E S Q O U X) := (Blk.new w _ _).alloc _
  have hz : Blk ((w.alloc (.cells (rpC K E S Q O U X).toArray 27)).alloc (.cells (arC 0 0 0 0 0).toArray 45)) (w.heap.size + 1) 45 (arC 0 0 0 0 0) := Blk.new1 w _ _ _
  obtain ⟨V, hV⟩ : ∃ V, (w.alloc (.cells (rpC K E S Q O U X).toArray 27)).alloc (.cells (arC 0 0 0 0 0).toArray 45) = V := ⟨_, rfl⟩
  rw [hV] at hb hk hz
  have c2 := rp2 hk
  have c3 := rp3 hk
  have c4 := rp4 hk
  have c5 := rp5 hk
  have c6 := rp6 hk
  obtain ⟨G, hG⟩ : ∃ G, w.heap.size = G := ⟨_, rfl⟩
  rw [hG] at hb c2 c3 c4 c5 c6 hz
  obtain ⟨C, hC⟩ : ∃ C, rpC K E S Q O U X = C := ⟨_, rfl⟩
  obtain ⟨D, hD⟩ : ∃ D, arC S Q O U X = D := ⟨_, rfl⟩
  rw [hC] at hV ⊢
  rw [hD] at hbt hD1 hDl
  rw [hD, hG]
  clear hk hC hD
  go_enter Tryd.func23, Tryd.ntmps23
  go_wp2_with (first
    | ((with_reducible refine box_row rfl 27 (.tmp 0) rfl C ?_ ?_); rfl)
    | ((with_reducible refine wpList_alloc_blk rfl 45 rfl zeroAr ?_); refine RowKit.Hid.out ?_))
  refine Lib.hid ?_
  try simp only [size1]
  try rw [hV, hG]
  clear hV hG
  go_wp2_with ((with_reducible refine build_row rfl 45 #[(0, .tmp 4), (1, .tmp 6), (2, .tmp 8), (3, .tmp 10), (4, .tmp 12)] rfl (cells := D.toArray) ?_ ?_); (refine Eq.trans (congrArg _ ?_) hbt; kernel_rfl); refine RowKit.Hid.out ?_)
  refine Lib.hid ?_
  try simp only [Act.put, List.setIfInBounds_toArray, List.set_cons_zero, List.set_cons_succ]
  refine store_row rfl 45 (.tmp 2) (.tmp 13) rfl rfl rfl hz rowAr hDl rfl hD1 ?_
  intro w2 hb2 hg2
  have hr : IsRow Tryd.prog 45 D.length := by rw [hDl]; exact rowAr
  go_wp2_with fail
  refine bodyPost_ret (results_blk rfl rfl hb2 hr) rfl ?_
  exact ⟨rfl, hb.grown hg2 (Nat.le_of_lt (by have := hz.lt; omega)) (fun q hq => by injection hq with hq; omega)⟩

set_option maxRecDepth 100000 in
set_option maxHeartbeats 1000000 in
theorem rlOf_any (r : RplV) (w : World) : Calls Tryd.prog 19 #[.int .i64 r.kind, .int .i64 r.err, .agg (arV r).toArray] w fun q w' => q = .returned (.agg (rpV r).toArray) ∧ Below w.heap.size w w' := by
  obtain ⟨K, E, S, Q, O, U, X⟩ := r
  unfold rpV arV
  dsimp only
  have hbt := built_rp7 K E S Q O U X
  have hD1 := rpC_one K E S Q O U X
  have hDl : (rpC K E S Q O U X).length = 7 := rfl
  have hb := below2 w (.cells (arC S Q O U X).toArray 45) (.cells (rpC 0 0 0 0 0 0 0).toArray 27)
  have hk : Blk ((w.alloc (.cells (arC S Q O U X).toArray 45)).alloc (.cells (rpC 0 0 0 0 0 0 0).toArray 27)) w.heap.size 45 (arC S Q O U X) := (Blk.new w _ _).alloc _
  have hz : Blk ((w.alloc (.cells (arC S Q O U X).toArray 45)).alloc (.cells (rpC 0 0 0 0 0 0 0).toArray 27)) (w.heap.size + 1) 27 (rpC 0 0 0 0 0 0 0) := Blk.new1 w _ _ _
  obtain ⟨V, hV⟩ : ∃ V, (w.alloc (.cells (arC S Q O U X).toArray 45)).alloc (.cells (rpC 0 0 0 0 0 0 0).toArray 27) = V := ⟨_, rfl⟩
  rw [hV] at hb hk hz
  have c0 := ar0 hk
  have c1 := ar1 hk
  have c2 := ar2 hk
  have c3 := ar3 hk
  have c4 := ar4 hk
  obtain ⟨G, hG⟩ : ∃ G, w.heap.size = G := ⟨_, rfl⟩
  rw [hG] at hb c0 c1 c2 c3 c4 hz
  obtain ⟨C, hC⟩ : ∃ C, arC S Q O U X = C := ⟨_, rfl⟩
  obtain ⟨D, hD⟩ : ∃ D, rpC K E S Q O U X = D := ⟨_, rfl⟩
  rw [hC] at hV ⊢
  rw [hD] at hbt hD1 hDl
  rw [hD, hG]
  clear hk hC hD
  go_enter Tryd.func19, Tryd.ntmps19
  go_wp2_with (first
    | ((with_reducible refine box_row rfl 45 (.tmp 2) rfl C ?_ ?_); rfl)
    | ((with_reducible refine wpList_alloc_blk rfl 27 rfl zeroRp ?_); refine RowKit.Hid.out ?_))
  refine Lib.hid ?_
  try simp only [size1]
  try rw [hV, hG]
  clear hV hG
  go_wp2_with ((with_reducible refine build_row rfl 27 #[(0, .tmp 7), (1, .tmp 8), (2, .tmp 10), (3, .tmp 12), (4, .tmp 14), (5, .tmp 16), (6, .tmp 18)] rfl (cells := D.toArray) ?_ ?_); (refine Eq.trans (congrArg _ ?_) hbt; kernel_rfl); refine RowKit.Hid.out ?_)
  refine Lib.hid ?_
  try simp only [Act.put, List.setIfInBounds_toArray, List.set_cons_zero, List.set_cons_succ]
  refine store_row rfl 27 (.tmp 6) (.tmp 19) rfl rfl rfl hz rowRp hDl rfl hD1 ?_
  intro w2 hb2 hg2
  have hr : IsRow Tryd.prog 27 D.length := by rw [hDl]; exact rowRp
  go_wp2_with fail
  refine bodyPost_ret (results_blk rfl rfl hb2 hr) rfl ?_
  exact ⟨rfl, hb.grown hg2 (Nat.le_of_lt (by have := hz.lt; omega)) (fun q hq => by injection hq with hq; omega)⟩
end Go.Proofs.YtbiabjehdmddbaaDoor

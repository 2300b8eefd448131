/-
  The document's own counts of layer 9. New memory alone is written. Conditions: bytes below 256, at most a million; the place is within them.
-/
import Derived.Test.YtpobplkijfienaaRdModel
namespace Go.Proofs.Ytpobplkijfienaa
open Go.RowKit

set_option maxRecDepth 100000 in
set_option maxHeartbeats 1000000 in
theorem rCount_bad (a : Option Addr) (n c : Nat) (p e A M p' e' v : Int) (w : World) (he : e' ≠ 0)
    (CN : ∀ w', Below w.heap.size w w' → Calls Try.prog 24 #[.agg #[.slice a n c, .int .i64 p, .int .i64 e], .int .i64 A] w' fun r w'' => r = .returned (.tuple #[.agg #[.slice a n c, .int .i64 p', .int .i64 e'], .int .u64 v]) ∧ Below w'.heap.size w' w'') :
    Calls Try.prog 26 #[.agg #[.slice a n c, .int .i64 p, .int .i64 e], .int .i64 A, .int .i64 M] w fun r w' => r = .returned (.tuple #[.agg #[.slice a n c, .int .i64 p', .int .i64 e'], .int .i64 0]) ∧ Below w.heap.size w w' := by
  have CH := Lib.hid CN
  clear CN
  go_enter Try.func26, Try.ntmps26
  go_wp2_with fail
  obtain ⟨V, hV⟩ : ∃ V, (w.alloc (.cells #[.slice a n c, .int .i64 p, .int .i64 e] 31)).alloc (.cells #[.slice none 0 0, .int .i64 0, .int .i64 0] 31) = V := ⟨_, rfl⟩
  have hx : Blk V w.heap.size 31 (rdC a n c p e) := by rw [← hV]; exact (Blk.new w _ (rdC a n c p e)).alloc _
  have hr : Blk V (w.heap.size + 1) 31 (rdC none 0 0 0 0) := by rw [← hV]; exact Blk.new1 w _ _ (rdC none 0 0 0 0)
  have hB : Below w.heap.size w V := by rw [← hV]; exact below2 w _ _
  rw [hV]
  clear hV
  refine (CH.out V hB).mono ?_
  rintro r w2 ⟨rfl, b2⟩
  have hx2 := hx.keep b2 hx.lt
  have hr2 := hr.keep b2 hr.lt
  have hB2 := hB.trans (b2.mono (Nat.le_of_lt hx.lt))
  go_wp2_with (refine wpList_store_part (cur := rdC a n c p e) (cs := rdC a n c p' e') rfl 31 (.tmp 3) (.tmp 13) rfl rfl rfl hx2 rowRd (by simp [rdC]) (by simp [rdC, Value.oneCell']) ?_; intro w3 hx3 hg3; refine RowKit.Hid.out ?_)
  refine Lib.hid ?_
  have hx3 := hx3.cast (overV_all _ _ (by rfl))
  have hr3 := hr2.grown hg3 (by simp)
  have hB3 := hB2.trans (below_of_grown hg3 (Nat.le_refl _) hx2.lt)
  have c3 : w3.cell? ⟨w.heap.size, 2, none⟩ = some (.int .i64 e') := hx3.cell 2
  clear hx hr hB b2 hx2 hr2 hB2 hg3 CH
  go_wp2_with (first
    | ((refine wpList_load_blk rfl 31 (.tmp 3) rfl ?_ hx3 rowRd rfl ?_); rfl)
    | (refine wpList_store_part (cur := rdC none 0 0 0 0) (cs := rdC a n c p' e') rfl 31 (.tmp 6) (.tmp 18) rfl rfl rfl hr3 rowRd (by simp [rdC]) (by simp [rdC, Value.oneCell']) ?_; intro w9 hR9 hg9))
  have hR9 := hR9.cast (overV_all _ _ (by rfl))
  (try simp only [Exit.inBlock, Exit.then])
  refine bodyPost_ret (results_blk_tmp rfl rfl hR9 rowRd) rfl ?_
  exact ⟨rfl, hB3.trans (below_of_grown hg9 (Nat.le_succ _) hr3.lt)⟩

set_option maxRecDepth 100000 in
set_option maxHeartbeats 1000000 in
theorem rCount_ok (a : Option Addr) (n c : Nat) (p e A M p' v : Int) (w : World) (hM : 0 ≤ M) (hM2 : M < 9223372036854775808) (hv : 0 ≤ v) (hvM : v ≤ M)
    (CN : ∀ w', Below w.heap.size w w' → Calls Try.prog 24 #[.agg #[.slice a n c, .int .i64 p, .int .i64 e], .int .i64 A] w' fun r w'' => r = .returned (.tuple #[.agg #[.slice a n c, .int .i64 p', .int .i64 0], .int .u64 v]) ∧ Below w'.heap.size w' w'') :
    Calls Try.prog 26 #[.agg #[.slice a n c, .int .i64 p, .int .i64 e], .int .i64 A, .int .i64 M] w fun r w' => r = .returned (.tuple #[.agg #[.slice a n c, .int .i64 p', .int .i64 0], .int .i64 v]) ∧ Below w.heap.size w w' := by
  have hw1 : IntKind.u64.wrap M = M := by rw [IntKind.wrap_u64]; omega
  have hw2 : wrap64 v = v := by unfold wrap64; omega
  have hvm : ¬ M < v := by omega
  have hm0 : ¬ M < 0 := by omega
  clear hM hM2 hv hvM
  have CH := Lib.hid CN
  clear CN
  go_enter Try.func26, Try.ntmps26
  go_wp2_with fail
  obtain ⟨V, hV⟩ : ∃ V, (w.alloc (.cells #[.slice a n c, .int .i64 p, .int .i64 e] 31)).alloc (.cells #[.slice none 0 0, .int .i64 0, .int .i64 0] 31) = V := ⟨_, rfl⟩
  have hx : Blk V w.heap.size 31 (rdC a n c p e) := by rw [← hV]; exact (Blk.new w _ (rdC a n c p e)).alloc _
  have hr : Blk V (w.heap.size + 1) 31 (rdC none 0 0 0 0) := by rw [← hV]; exact Blk.new1 w _ _ (rdC none 0 0 0 0)
  have hB : Below w.heap.size w V := by rw [← hV]; exact below2 w _ _
  rw [hV]
  clear hV
  refine (CH.out V hB).mono ?_
  rintro r w2 ⟨rfl, b2⟩
  have hx2 := hx.keep b2 hx.lt
  have hr2 := hr.keep b2 hr.lt
  have hB2 := hB.trans (b2.mono (Nat.le_of_lt hx.lt))
  go_wp2_with (refine wpList_store_part (cur := rdC a n c p e) (cs := rdC a n c p' 0) rfl 31 (.tmp 3) (.tmp 13) rfl rfl rfl hx2 rowRd (by simp [rdC]) (by simp [rdC, Value.oneCell']) ?_; intro w3 hx3 hg3; refine RowKit.Hid.out ?_)
  refine Lib.hid ?_
  have hx3 := hx3.cast (overV_all _ _ (by rfl))
  have hr3 := hr2.grown hg3 (by simp)
  have hB3 := hB2.trans (below_of_grown hg3 (Nat.le_refl _) hx2.lt)
  have c3 : w3.cell? ⟨w.heap.size, 2, none⟩ = some (.int .i64 0) := hx3.cell 2
  clear hx hr hB b2 hx2 hr2 hB2 hg3 CH
  go_wp2_with (first
    | ((refine wpList_load_blk rfl 31 (.tmp 3) rfl ?_ hx3 rowRd rfl ?_); rfl)
    | (refine wpList_store_part (cur := rdC none 0 0 0 0) (cs := rdC a n c p' 0) rfl 31 (.tmp 6) (.tmp 29) rfl rfl rfl hr3 rowRd (by simp [rdC]) (by simp [rdC, Value.oneCell']) ?_; intro w9 hR9 hg9))
  have hR9 := hR9.cast (overV_all _ _ (by rfl))
  (try simp only [Exit.inBlock, Exit.then])
  refine bodyPost_ret (results_blk_tmp rfl rfl hR9 rowRd) rfl ?_
  exact ⟨rfl, hB3.trans (below_of_grown hg9 (Nat.le_succ _) hr3.lt)⟩

set_option maxRecDepth 100000 in
set_option maxHeartbeats 1000000 in
theorem rCount_form (a : Option Addr) (n c : Nat) (p e A M p' v : Int) (w : World) (hM2 : M < 9223372036854775808) (hvM : M < 0 ∨ M < v)
    (CN : ∀ w', Below w.heap.size w w' → Calls Try.prog 24 #[.agg #[.slice a n c, .int .i64 p, .int .i64 e], .int .i64 A] w' fun r w'' => r = .returned (.tuple #[.agg #[.slice a n c, .int .i64 p', .int .i64 0], .int .u64 v]) ∧ Below w'.heap.size w' w'') :
    Calls Try.prog 26 #[.agg #[.slice a n c, .int .i64 p, .int .i64 e], .int .i64 A, .int .i64 M] w fun r w' => r = .returned (.tuple #[.agg #[.slice a n c, .int .i64 p', .int .i64 4], .int .i64 0]) ∧ Below w.heap.size w w' := by
  by_cases hm0 : M < 0
  · clear hM2 hvM
    have CH := Lib.hid CN
    clear CN
    go_enter Try.func26, Try.ntmps26
    go_wp2_with fail
    obtain ⟨V, hV⟩ : ∃ V, (w.alloc (.cells #[.slice a n c, .int .i64 p, .int .i64 e] 31)).alloc (.cells #[.slice none 0 0, .int .i64 0, .int .i64 0] 31) = V := ⟨_, rfl⟩
    have hx : Blk V w.heap.size 31 (rdC a n c p e) := by rw [← hV]; exact (Blk.new w _ (rdC a n c p e)).alloc _
    have hr : Blk V (w.heap.size + 1) 31 (rdC none 0 0 0 0) := by rw [← hV]; exact Blk.new1 w _ _ (rdC none 0 0 0 0)
    have hB : Below w.heap.size w V := by rw [← hV]; exact below2 w _ _
    rw [hV]
    clear hV
    refine (CH.out V hB).mono ?_
    rintro r w2 ⟨rfl, b2⟩
    have hx2 := hx.keep b2 hx.lt
    have hr2 := hr.keep b2 hr.lt
    have hB2 := hB.trans (b2.mono (Nat.le_of_lt hx.lt))
    go_wp2_with (refine wpList_store_part (cur := rdC a n c p e) (cs := rdC a n c p' 0) rfl 31 (.tmp 3) (.tmp 13) rfl rfl rfl hx2 rowRd (by simp [rdC]) (by simp [rdC, Value.oneCell']) ?_; intro w3 hx3 hg3; refine RowKit.Hid.out ?_)
    refine Lib.hid ?_
    have hx3 := hx3.cast (overV_all _ _ (by rfl))
    have hr3 := hr2.grown hg3 (by simp)
    have hB3 := hB2.trans (below_of_grown hg3 (Nat.le_refl _) hx2.lt)
    have c3 : w3.cell? ⟨w.heap.size, 2, none⟩ = some (.int .i64 0) := hx3.cell 2
    clear hx hr hB b2 hx2 hr2 hB2 hg3 CH
    go_wp2_with ((refine wpList_load_blk rfl 31 (.tmp 3) rfl ?_ hx3 rowRd rfl ?_); rfl)
    refine (rfail_any a n c p' 0 4 w3).mono ?_
    rintro r w4 ⟨rfl, b4⟩
    have hr4 := hr3.keep b4 hr3.lt
    have hB4 := hB3.trans (b4.mono (Nat.le_of_lt hx3.lt))
    rw [show badOf 0 4 = 4 from rfl]
    go_wp2_with (refine wpList_store_part (cur := rdC none 0 0 0 0) (cs := rdC a n c p' 4) rfl 31 (.tmp 6) (.tmp 28) rfl rfl rfl hr4 rowRd (by simp [rdC]) (by simp [rdC, Value.oneCell']) ?_; intro w9 hR9 hg9)
    have hR9 := hR9.cast (overV_all _ _ (by rfl))
    (try simp only [Exit.inBlock, Exit.then])
    refine bodyPost_ret (results_blk_tmp rfl rfl hR9 rowRd) rfl ?_
    exact ⟨rfl, hB4.trans (below_of_grown hg9 (Nat.le_succ _) hr4.lt)⟩
  · have hvm : M < v := by omega
    have hw1 : IntKind.u64.wrap M = M := by rw [IntKind.wrap_u64]; omega
    clear hM2 hvM
    have CH := Lib.hid CN
    clear CN
    go_enter Try.func26, Try.ntmps26
    go_wp2_with fail
    obtain ⟨V, hV⟩ : ∃ V, (w.alloc (.cells #[.slice a n c, .int .i64 p, .int .i64 e] 31)).alloc (.cells #[.slice none 0 0, .int .i64 0, .int .i64 0] 31) = V := ⟨_, rfl⟩
    have hx : Blk V w.heap.size 31 (rdC a n c p e) := by rw [← hV]; exact (Blk.new w _ (rdC a n c p e)).alloc _
    have hr : Blk V (w.heap.size + 1) 31 (rdC none 0 0 0 0) := by rw [← hV]; exact Blk.new1 w _ _ (rdC none 0 0 0 0)
    have hB : Below w.heap.size w V := by rw [← hV]; exact below2 w _ _
    rw [hV]
    clear hV
    refine (CH.out V hB).mono ?_
    rintro r w2 ⟨rfl, b2⟩
    have hx2 := hx.keep b2 hx.lt
    have hr2 := hr.keep b2 hr.lt
    have hB2 := hB.trans (b2.mono (Nat.le_of_lt hx.lt))
    go_wp2_with (refine wpList_store_part (cur := rdC a n c p e) (cs := rdC a n c p' 0) rfl 31 (.tmp 3) (.tmp 13) rfl rfl rfl hx2 rowRd (by simp [rdC]) (by simp [rdC, Value.oneCell']) ?_; intro w3 hx3 hg3; refine RowKit.Hid.out ?_)
    refine Lib.hid ?_
    have hx3 := hx3.cast (overV_all _ _ (by rfl))
    have hr3 := hr2.grown hg3 (by simp)
    have hB3 := hB2.trans (below_of_grown hg3 (Nat.le_refl _) hx2.lt)
    have c3 : w3.cell? ⟨w.heap.size, 2, none⟩ = some (.int .i64 0) := hx3.cell 2
    clear hx hr hB b2 hx2 hr2 hB2 hg3 CH
    go_wp2_with ((refine wpList_load_blk rfl 31 (.tmp 3) rfl ?_ hx3 rowRd rfl ?_); rfl)
    refine (rfail_any a n c p' 0 4 w3).mono ?_
    rintro r w4 ⟨rfl, b4⟩
    have hr4 := hr3.keep b4 hr3.lt
    have hB4 := hB3.trans (b4.mono (Nat.le_of_lt hx3.lt))
    rw [show badOf 0 4 = 4 from rfl]
    go_wp2_with (refine wpList_store_part (cur := rdC none 0 0 0 0) (cs := rdC a n c p' 4) rfl 31 (.tmp 6) (.tmp 28) rfl rfl rfl hr4 rowRd (by simp [rdC]) (by simp [rdC, Value.oneCell']) ?_; intro w9 hR9 hg9)
    have hR9 := hR9.cast (overV_all _ _ (by rfl))
    (try simp only [Exit.inBlock, Exit.then])
    refine bodyPost_ret (results_blk_tmp rfl rfl hR9 rowRd) rfl ?_
    exact ⟨rfl, hB4.trans (below_of_grown hg9 (Nat.le_succ _) hr4.lt)⟩

theorem rCount_any (a : Option Addr) (c p : Nat) (e A M : Int) (xs : List Int) (n : Nat) (w : World) (hI : Ints .u8 w a n c xs) (hy : ∀ x ∈ xs, 0 ≤ x ∧ x < 256) (hp : p ≤ n) (hm : n ≤ 1000000) (hM : M < 9223372036854775808) :
    Calls Try.prog 26 #[.agg #[.slice a n c, .int .i64 (p : Int), .int .i64 e], .int .i64 A, .int .i64 M] w fun r w' =>
      r = .returned (.tuple #[.agg #[.slice a n c, .int .i64 (((rdCount xs p e A M).1 : Nat) : Int), .int .i64 (rdCount xs p e A M).2.1], .int .i64 (rdCount xs p e A M).2.2]) ∧ Below w.heap.size w w' := by
  have CN := fun (w' : World) (hb : Below w.heap.size w w') => rNum_any a c p e A xs n w' (hI.keep hb) hy hp hm
  have hv := rdNum_val hy e A (show p ≤ xs.length by rw [hI.len]; exact hp)
  unfold rdCount
  generalize rdNum xs p e A = s at *
  obtain ⟨p', e', v⟩ := s
  simp only at *
  by_cases he : e' ≠ 0
  · rw [if_pos he]
    exact rCount_bad a n c p e A M p' e' v w he CN
  · obtain rfl : e' = 0 := by omega
    rw [if_neg he]
    by_cases hx : M < 0 ∨ M < v
    · rw [if_pos hx]
      exact rCount_form a n c p e A M p' v w hM hx CN
    · rw [if_neg hx]
      exact rCount_ok a n c p e A M p' v w (by omega) hM hv.1 (by omega) CN
end Go.Proofs.Ytpobplkijfienaa

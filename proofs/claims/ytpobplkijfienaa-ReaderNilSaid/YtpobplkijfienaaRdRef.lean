/-
  The document's own words of layer 9: a fault noted, bytes, a number, a count, whether bytes are left. New memory alone is written. Conditions: the place is within the bytes.
-/
import Derived.Test.YtpobplkijfienaaBlocks2
import Derived.Test.YtpobplkijfienaaSteps
import Derived.Test.YtpobplkijfienaaSeqS
import Derived.Test.YtpobplkijfienaaProg
namespace Go.Proofs.Ytpobplkijfienaa
open Go.RowKit

/-- Two results: the first lies in a block of its own, the second in a slot. -/
theorem results_blk_tmp {P : Program} {fn : Func} {p u : Tmp} {ty : TypeId} (h : fn.results = #[.cell p ty, .tmp u]) {tmps : Array Value} {w : World} {g : Nat} {t : TypeId} {cs : List Value}
    (hp : tmps.getD p undef = .pointer (some ⟨g, 0, none⟩)) (hg : Blk w g t cs) (hr : IsRow P ty cs.length) : (results fn tmps).run P w = .ok (.tuple #[.agg cs.toArray, tmps.getD u undef]) w := by
  obtain ⟨⟨d, hu, hd⟩, hi⟩ := hr
  have := run_loadVar_mid (P := P) w g 0 ty cs d (hg.range 0 cs (fun j v hj => by simpa using hj)) hu hd hi
  have hp' : tmps[p]?.getD undef = .pointer (some ⟨g, 0, none⟩) := by simpa using hp
  simp [results, h, hp', asAddr, this]
/-- The fault behind a call that could not be answered. -/
def badOf (e x : Int) : Int := if e = 0 then x else e

theorem sizeRd : (Try.prog.info? 31).map (·.size) = some 3 := by kernel_rfl
theorem rowRd : IsRow Try.prog 31 3 := IsRow.struct Try.underlying31 sizeRd
/-- The reader as the document's words have it. -/
def rdC (a : Option Addr) (n c : Nat) (p e : Int) : List Value := [.slice a n c, .int .i64 p, .int .i64 e]
theorem rd_new1 (w : World) (o : Obj) (a : Option Addr) (n c : Nat) (p e : Int) : Blk ((w.alloc o).alloc (.cells #[.slice a n c, .int .i64 p, .int .i64 e] 31)) (w.heap.size + 1) 31 (rdC a n c p e) := Blk.new1 w o _ _

set_option maxRecDepth 100000 in
set_option maxHeartbeats 1000000 in
theorem rfail_any (a : Option Addr) (n c : Nat) (p e x : Int) (w : World) :
    Calls Try.prog 35 #[.agg #[.slice a n c, .int .i64 p, .int .i64 e], .int .i64 x] w fun r w' => r = .returned (.agg #[.slice a n c, .int .i64 p, .int .i64 (badOf e x)]) ∧ Below w.heap.size w w' := by
  unfold badOf
  by_cases h : e = 0
  · subst h
    rw [if_pos rfl]
    go_enter Try.func35, Try.ntmps35
    go_wp2
    refine bodyPost_ret (results_blk rfl rfl (rd_new1 _ _ _ _ _ _ _) rowRd) rfl ?_
    exact ⟨rfl, below2 w _ _⟩
  · rw [if_neg h]
    go_enter Try.func35, Try.ntmps35
    go_wp2
    refine bodyPost_ret (results_blk rfl rfl (rd_new1 _ _ _ _ _ _ _) rowRd) rfl ?_
    exact ⟨rfl, below2 w _ _⟩

set_option maxRecDepth 100000 in
set_option maxHeartbeats 1000000 in
theorem rFail_any (a : Option Addr) (n c : Nat) (p e x : Int) (w : World) :
    Calls Try.prog 29 #[.agg #[.slice a n c, .int .i64 p, .int .i64 e], .int .i64 x] w fun r w' => r = .returned (.agg #[.slice a n c, .int .i64 p, .int .i64 (badOf e x)]) ∧ Below w.heap.size w w' := by
  go_enter Try.func29, Try.ntmps29
  go_wp2_with fail
  obtain ⟨V, hV⟩ : ∃ V, (w.alloc (.cells #[.slice a n c, .int .i64 p, .int .i64 e] 31)).alloc (.cells #[.slice none 0 0, .int .i64 0, .int .i64 0] 31) = V := ⟨_, rfl⟩
  have hx : Blk V w.heap.size 31 (rdC a n c p e) := by rw [← hV]; exact (Blk.new w _ (rdC a n c p e)).alloc _
  have hr : Blk V (w.heap.size + 1) 31 (rdC none 0 0 0 0) := by rw [← hV]; exact Blk.new1 w _ _ (rdC none 0 0 0 0)
  have hB : Below w.heap.size w V := by rw [← hV]; exact below2 w _ _
  rw [hV]
  clear hV
  refine (rfail_any a n c p e x V).mono ?_
  rintro r w2 ⟨rfl, b2⟩
  have hr2 := hr.keep b2 hr.lt
  have hB2 := hB.trans (b2.mono (Nat.le_of_lt hx.lt))
  go_wp2_with (refine wpList_store_part (cur := rdC none 0 0 0 0) (cs := rdC a n c p (badOf e x)) rfl 31 (.tmp 4) (.tmp 7) rfl rfl rfl hr2 rowRd (by simp [rdC]) (by simp [rdC, Value.oneCell']) ?_; intro w9 hR9 hg9)
  have hR9 := hR9.cast (overV_all _ _ (by rfl))
  (try simp only [Exit.inBlock, Exit.then])
  refine bodyPost_ret (results_blk rfl rfl hR9 rowRd) rfl ?_
  exact ⟨rfl, hB2.trans (below_of_grown hg9 (Nat.le_succ _) hr2.lt)⟩

/-- What Done answers. -/
def doneOf (n : Nat) (p e : Int) : Int := if e = 0 then (if p < (n : Int) then 3 else 0) else e

set_option maxRecDepth 100000 in
set_option maxHeartbeats 1000000 in
theorem rDone_any (a : Option Addr) (n c : Nat) (p e : Int) (w : World) :
    Calls Try.prog 14 #[.agg #[.slice a n c, .int .i64 p, .int .i64 e]] w fun r w' => r = .returned (.int .i64 (doneOf n p e)) ∧ Below w.heap.size w w' := by
  unfold doneOf
  by_cases h : e = 0
  · subst h
    rw [if_pos rfl]
    by_cases hp : p < (n : Int)
    · rw [if_pos hp]
      go_enter Try.func14, Try.ntmps14
      go_wp2
      go_ret
      exact ⟨rfl, below1 w _⟩
    · rw [if_neg hp]
      go_enter Try.func14, Try.ntmps14
      go_wp2
      go_ret
      exact ⟨rfl, below1 w _⟩
  · rw [if_neg h]
    go_enter Try.func14, Try.ntmps14
    go_wp2
    go_ret
    exact ⟨rfl, below1 w _⟩

set_option maxRecDepth 100000 in
set_option maxHeartbeats 1000000 in
theorem rBytes_bad (a : Option Addr) (n c : Nat) (p e A : Int) (w : World) (h : e ≠ 0) :
    Calls Try.prog 25 #[.agg #[.slice a n c, .int .i64 p, .int .i64 e], .int .i64 A] w fun r w' => r = .returned (.tuple #[.agg #[.slice a n c, .int .i64 p, .int .i64 e], .slice none 0 0]) ∧ Below w.heap.size w w' := by
  go_enter Try.func25, Try.ntmps25
  go_wp2
  refine bodyPost_ret (results_blk_tmp rfl rfl (rd_new1 _ _ _ _ _ _ _) rowRd) rfl ?_
  exact ⟨rfl, below2 w _ _⟩

set_option maxRecDepth 100000 in
set_option maxHeartbeats 1000000 in
theorem rBytes_neg (a : Option Addr) (n c : Nat) (p A : Int) (w : World) (h : A < 0) :
    Calls Try.prog 25 #[.agg #[.slice a n c, .int .i64 p, .int .i64 0], .int .i64 A] w fun r w' => r = .returned (.tuple #[.agg #[.slice a n c, .int .i64 p, .int .i64 1], .slice none 0 0]) ∧ Below w.heap.size w w' := by
  obtain ⟨X, hX⟩ : ∃ X : Int, X = 1 := ⟨1, rfl⟩
  go_enter Try.func25, Try.ntmps25
  go_wp2_with fail
  rw [← hX]
  obtain ⟨V, hV⟩ : ∃ V, (w.alloc (.cells #[.slice a n c, .int .i64 p, .int .i64 0] 31)).alloc (.cells #[.slice none 0 0, .int .i64 0, .int .i64 0] 31) = V := ⟨_, rfl⟩
  have hx : Blk V w.heap.size 31 (rdC a n c p 0) := by rw [← hV]; exact (Blk.new w _ (rdC a n c p 0)).alloc _
  have hr : Blk V (w.heap.size + 1) 31 (rdC none 0 0 0 0) := by rw [← hV]; exact Blk.new1 w _ _ (rdC none 0 0 0 0)
  have hB : Below w.heap.size w V := by rw [← hV]; exact below2 w _ _
  rw [hV]
  clear hV
  refine (rfail_any a n c p 0 X V).mono ?_
  rintro r w2 ⟨rfl, b2⟩
  have hr2 := hr.keep b2 hr.lt
  have hB2 := hB.trans (b2.mono (Nat.le_of_lt hx.lt))
  rw [show badOf 0 X = X from rfl]
  subst hX
  go_wp2_with (refine wpList_store_part (cur := rdC none 0 0 0 0) (cs := rdC a n c p 1) rfl 31 (.tmp 4) (.tmp 14) rfl rfl rfl hr2 rowRd (by simp [rdC]) (by simp [rdC, Value.oneCell']) ?_; intro w9 hR9 hg9)
  have hR9 := hR9.cast (overV_all _ _ (by rfl))
  (try simp only [Exit.inBlock, Exit.then])
  refine bodyPost_ret (results_blk_tmp rfl rfl hR9 rowRd) rfl ?_
  exact ⟨rfl, hB2.trans (below_of_grown hg9 (Nat.le_succ _) hr2.lt)⟩

set_option maxRecDepth 100000 in
set_option maxHeartbeats 1000000 in
theorem rBytes_short (a : Option Addr) (n c : Nat) (p A : Int) (w : World) (h : ¬ A < 0) (h1 : wrap64 ((n : Int) - p) < A) :
    Calls Try.prog 25 #[.agg #[.slice a n c, .int .i64 p, .int .i64 0], .int .i64 A] w fun r w' => r = .returned (.tuple #[.agg #[.slice a n c, .int .i64 p, .int .i64 2], .slice none 0 0]) ∧ Below w.heap.size w w' := by
  obtain ⟨X, hX⟩ : ∃ X : Int, X = 2 := ⟨2, rfl⟩
  go_enter Try.func25, Try.ntmps25
  go_wp2_with fail
  rw [← hX]
  obtain ⟨V, hV⟩ : ∃ V, (w.alloc (.cells #[.slice a n c, .int .i64 p, .int .i64 0] 31)).alloc (.cells #[.slice none 0 0, .int .i64 0, .int .i64 0] 31) = V := ⟨_, rfl⟩
  have hx : Blk V w.heap.size 31 (rdC a n c p 0) := by rw [← hV]; exact (Blk.new w _ (rdC a n c p 0)).alloc _
  have hr : Blk V (w.heap.size + 1) 31 (rdC none 0 0 0 0) := by rw [← hV]; exact Blk.new1 w _ _ (rdC none 0 0 0 0)
  have hB : Below w.heap.size w V := by rw [← hV]; exact below2 w _ _
  rw [hV]
  clear hV
  refine (rfail_any a n c p 0 X V).mono ?_
  rintro r w2 ⟨rfl, b2⟩
  have hr2 := hr.keep b2 hr.lt
  have hB2 := hB.trans (b2.mono (Nat.le_of_lt hx.lt))
  rw [show badOf 0 X = X from rfl]
  subst hX
  go_wp2_with (refine wpList_store_part (cur := rdC none 0 0 0 0) (cs := rdC a n c p 2) rfl 31 (.tmp 4) (.tmp 24) rfl rfl rfl hr2 rowRd (by simp [rdC]) (by simp [rdC, Value.oneCell']) ?_; intro w9 hR9 hg9)
  have hR9 := hR9.cast (overV_all _ _ (by rfl))
  (try simp only [Exit.inBlock, Exit.then])
  refine bodyPost_ret (results_blk_tmp rfl rfl hR9 rowRd) rfl ?_
  exact ⟨rfl, hB2.trans (below_of_grown hg9 (Nat.le_succ _) hr2.lt)⟩

set_option maxRecDepth 100000 in
set_option maxHeartbeats 1000000 in
theorem rBytes_ok (a : Option Addr) (n c : Nat) (p A : Nat) (w : World) (hp : p + A ≤ n) (hc : n ≤ c) (hn : n ≤ 1000000) :
    Calls Try.prog 25 #[.agg #[.slice a n c, .int .i64 (p : Int), .int .i64 0], .int .i64 (A : Int)] w fun r w' => r = .returned (.tuple #[.agg #[.slice a n c, .int .i64 ((p + A : Nat) : Int), .int .i64 0], .slice (cutAddr a c p) A (c - p)]) ∧ Below w.heap.size w w' := by
  have h1 : ¬ (A : Int) < 0 := by omega
  have h2 : ¬ (n : Int) - (p : Int) < (A : Int) := by omega
  have h3 : (p : Int) + (A : Int) ≤ (c : Int) := by omega
  go_enter Try.func25, Try.ntmps25
  go_wp2
  · refine bodyPost_ret (results_blk_tmp rfl rfl (rd_new1 _ _ _ _ _ _ _) rowRd) rfl ?_
    refine ⟨?_, below2 w _ _⟩
    unfold cutAddr
    simp [rdC]
  · refine bodyPost_ret (results_blk_tmp rfl rfl (rd_new1 _ _ _ _ _ _ _) rowRd) rfl ?_
    refine ⟨?_, below2 w _ _⟩
    unfold cutAddr
    rw [if_neg (by assumption)]
    simp [rdC]

/-! ### Numbers -/
def be (l : List Int) : Int := l.foldl (fun n x => 256 * n + x) 0
theorem be_snoc (l : List Int) (x : Int) : be (l ++ [x]) = 256 * be l + x := by unfold be; rw [List.foldl_append]; rfl
theorem be_fold : ∀ (l : List Int) (z : Int), (∀ x ∈ l, 0 ≤ x ∧ x < 256) → 0 ≤ z → 0 ≤ l.foldl (fun n x => 256 * n + x) z ∧ l.foldl (fun n x => 256 * n + x) z < (z + 1) * 256 ^ l.length
  | [], z, _, hz => by simp; omega
  | x :: l, z, h, hz => by
    have hx := h x (by simp)
    have ih := be_fold l (256 * z + x) (fun y hy => h y (by simp [hy])) (by omega)
    simp only [List.foldl_cons, List.length_cons]
    refine ⟨ih.1, Int.lt_of_lt_of_le ih.2 ?_⟩
    rw [Int.pow_succ, ← Int.mul_assoc, Int.mul_right_comm]
    exact Int.mul_le_mul_of_nonneg_right (by omega) (Int.le_of_lt (Int.pow_pos (by decide)))
theorem be_take (l : List Int) (k : Nat) (h : k < l.length) : be (l.take (k + 1)) = 256 * be (l.take k) + l.getD k 0 := by
  rw [List.take_succ_eq_append_getElem h, be_snoc]; simp [List.getD_eq_getElem?_getD, List.getElem?_eq_getElem h]
theorem be_lt (l : List Int) (h : ∀ x ∈ l, 0 ≤ x ∧ x < 256) (hl : l.length ≤ 8) : 0 ≤ be l ∧ be l < 18446744073709551616 := by
  obtain ⟨h0, h1⟩ := be_fold l 0 h (Int.le_refl 0)
  have hp : ∀ k, k ≤ 8 → (256 : Int) ^ k ≤ 18446744073709551616 := by decide
  have h2 := hp _ hl
  unfold be
  omega
end Go.Proofs.Ytpobplkijfienaa

/-
  The document's own writer (layer 10): what Bytes comes to in every case, and Num. New memory alone is written. Conditions: at most a million bytes.
-/
import Derived.Test.YtlbhpicebefpnaaRwRef
import Derived.Test.YtlbhpicebefpnaaRdNumber
import Derived.Test.YtlbhpicebefpnaaSeqS
namespace Go.Proofs.Ytlbhpicebefpnaa
open Go.RowKit

/-- Bytes and fault behind Bytes(ys). -/
def wrStep (r : Int) (xs : List Int) (e : Int) (ys : List Int) : List Int × Int :=
  if e ≠ 0 then (xs, e) else if r < ((xs.length : Int) + ys.length) then (xs, 3) else (xs ++ ys, 0)
/-- Where the bytes lie: where they lay, or in new memory. -/
def Stays (w : World) (a a' : Option Addr) (n n' : Nat) : Prop := (a' = a ∧ n' = n) ∨ ∀ x, a' = some x → w.heap.size ≤ x.block

theorem rwBytes_any (r : Int) (a b : Option Addr) (n c m d : Nat) (e : Int) (xs ys : List Int) (w : World) (hI : Ints .u8 w a n c xs) (hJ : Ints .u8 w b m d ys) (hm : n + m ≤ 100000000) :
    Calls Try.prog 29 #[.agg #[.int .i64 r, .slice a n c, .int .i64 e], .slice b m d] w fun q w' => ∃ a' n' c', q = .returned (.agg #[.int .i64 r, .slice a' n' c', .int .i64 (wrStep r xs e ys).2]) ∧ Ints .u8 w' a' n' c' (wrStep r xs e ys).1 ∧ Stays w a a' n n' ∧ Below w.heap.size w w' := by
  have hl := hI.len
  have hk := hJ.len
  unfold wrStep
  by_cases he : e ≠ 0
  · rw [if_pos he]
    refine (rwBytes_bad r a b n c m d e w he).mono ?_
    rintro q w' ⟨rfl, hb⟩
    exact ⟨a, n, c, rfl, hI.keep hb, .inl ⟨rfl, rfl⟩, hb⟩
  · rw [if_neg he]
    obtain rfl : e = 0 := by omega
    by_cases h : r < ((xs.length : Int) + ys.length)
    · rw [if_pos h]
      refine (rwBytes_long r a b n c m d w hm (by rw [← hl, ← hk]; exact h)).mono ?_
      rintro q w' ⟨rfl, hb⟩
      exact ⟨a, n, c, rfl, hI.keep hb, .inl ⟨rfl, rfl⟩, hb⟩
    · rw [if_neg h]
      refine (rwBytes_ok r a b n c m d xs ys w hI hJ hm (by rw [← hl, ← hk]; exact h)).mono ?_
      rintro q w' ⟨a', c', rfl, ho, hb⟩
      obtain ⟨a2, c2, hv, hi⟩ := Ints.of_owns ho
      injection hv with e1 _ e2
      subst e1; subst e2
      exact ⟨a', n + m, c', rfl, hi, .inr fun x hx => (ho.lt x.block (by rw [hx]; rfl)).1, hb⟩

/-- Does a number fit so many bytes? -/
def fits (N A : Int) : Prop := 1 ≤ A ∧ A ≤ 8 ∧ N < 256 ^ A.toNat
instance (N A : Int) : Decidable (fits N A) := by unfold fits; exact inferInstance
/-- Bytes and fault behind Num(N, A). -/
def wrNum (r : Int) (xs : List Int) (e N A : Int) : List Int × Int := if fits N A then wrStep r xs e (beL N A.toNat) else (xs, badOf e 1)

set_option maxRecDepth 100000 in
set_option maxHeartbeats 1000000 in
theorem rwNum_width (r : Int) (a : Option Addr) (n c : Nat) (e N A : Int) (w : World) (hA : A < 1 ∨ 8 < A) :
    Calls Try.prog 28 #[.agg #[.int .i64 r, .slice a n c, .int .i64 e], .int .u64 N, .int .i64 A] w fun q w' => q = .returned (.agg #[.int .i64 r, .slice a n c, .int .i64 (badOf e 1)]) ∧ Below w.heap.size w w' := by
  by_cases h1 : A < 1
  · clear hA
    go_enter Try.func28, Try.ntmps28
    go_wp2_with fail
    obtain ⟨V, hV⟩ : ∃ V, (w.alloc (.cells #[.int .i64 r, .slice a n c, .int .i64 e] 30)).alloc (.cells #[.int .i64 0, .slice none 0 0, .int .i64 0] 30) = V := ⟨_, rfl⟩
    have hx : Blk V w.heap.size 30 (wrC r a n c e) := by rw [← hV]; exact (Blk.new w _ (wrC r a n c e)).alloc _
    have hr : Blk V (w.heap.size + 1) 30 (wrC 0 none 0 0 0) := by rw [← hV]; exact Blk.new1 w _ _ (wrC 0 none 0 0 0)
    have hB : Below w.heap.size w V := by rw [← hV]; exact below2 w _ _
    rw [hV]
    clear hV
    go_wp2_with ((refine wpList_load_blk rfl 30 (.tmp 3) rfl ?_ hx rowWr rfl ?_); rfl)
    refine (rwFail_any r a n c e 1 V).mono ?_
    rintro q w2 ⟨rfl, b2⟩
    have hr2 := hr.keep b2 hr.lt
    have hB2 := hB.trans (b2.mono (Nat.le_of_lt hx.lt))
    go_wp2_with (refine wpList_store_part (cur := wrC 0 none 0 0 0) (cs := wrC r a n c (badOf e 1)) rfl 30 (.tmp 6) (.tmp 25) rfl rfl rfl hr2 rowWr (by simp [wrC]) (by simp [wrC, Value.oneCell']) ?_; intro w9 hR9 hg9)
    have hR9 := hR9.cast (overV_all _ _ (by rfl))
    (try simp only [Exit.inBlock, Exit.then])
    refine bodyPost_ret (results_blk rfl rfl hR9 rowWr) rfl ?_
    exact ⟨rfl, hB2.trans (below_of_grown hg9 (Nat.le_succ _) hr2.lt)⟩
  · have h8 : 8 < A := by omega
    clear hA
    go_enter Try.func28, Try.ntmps28
    go_wp2_with fail
    obtain ⟨V, hV⟩ : ∃ V, (w.alloc (.cells #[.int .i64 r, .slice a n c, .int .i64 e] 30)).alloc (.cells #[.int .i64 0, .slice none 0 0, .int .i64 0] 30) = V := ⟨_, rfl⟩
    have hx : Blk V w.heap.size 30 (wrC r a n c e) := by rw [← hV]; exact (Blk.new w _ (wrC r a n c e)).alloc _
    have hr : Blk V (w.heap.size + 1) 30 (wrC 0 none 0 0 0) := by rw [← hV]; exact Blk.new1 w _ _ (wrC 0 none 0 0 0)
    have hB : Below w.heap.size w V := by rw [← hV]; exact below2 w _ _
    rw [hV]
    clear hV
    go_wp2_with ((refine wpList_load_blk rfl 30 (.tmp 3) rfl ?_ hx rowWr rfl ?_); rfl)
    refine (rwFail_any r a n c e 1 V).mono ?_
    rintro q w2 ⟨rfl, b2⟩
    have hr2 := hr.keep b2 hr.lt
    have hB2 := hB.trans (b2.mono (Nat.le_of_lt hx.lt))
    go_wp2_with (refine wpList_store_part (cur := wrC 0 none 0 0 0) (cs := wrC r a n c (badOf e 1)) rfl 30 (.tmp 6) (.tmp 25) rfl rfl rfl hr2 rowWr (by simp [wrC]) (by simp [wrC, Value.oneCell']) ?_; intro w9 hR9 hg9)
    have hR9 := hR9.cast (overV_all _ _ (by rfl))
    (try simp only [Exit.inBlock, Exit.then])
    refine bodyPost_ret (results_blk rfl rfl hR9 rowWr) rfl ?_
    exact ⟨rfl, hB2.trans (below_of_grown hg9 (Nat.le_succ _) hr2.lt)⟩

set_option maxRecDepth 100000 in
set_option maxHeartbeats 1000000 in
theorem rwNum_great1 (r : Int) (a : Option Addr) (n c : Nat) (e N : Int) (w : World) (hN : 256 ≤ N) :
    Calls Try.prog 28 #[.agg #[.int .i64 r, .slice a n c, .int .i64 e], .int .u64 N, .int .i64 1] w fun q w' => q = .returned (.agg #[.int .i64 r, .slice a n c, .int .i64 (badOf e 1)]) ∧ Below w.heap.size w w' := by
  go_enter Try.func28, Try.ntmps28
  go_wp2_with fail
  obtain ⟨V, hV⟩ : ∃ V, (w.alloc (.cells #[.int .i64 r, .slice a n c, .int .i64 e] 30)).alloc (.cells #[.int .i64 0, .slice none 0 0, .int .i64 0] 30) = V := ⟨_, rfl⟩
  have hx : Blk V w.heap.size 30 (wrC r a n c e) := by rw [← hV]; exact (Blk.new w _ (wrC r a n c e)).alloc _
  have hr : Blk V (w.heap.size + 1) 30 (wrC 0 none 0 0 0) := by rw [← hV]; exact Blk.new1 w _ _ (wrC 0 none 0 0 0)
  have hB : Below w.heap.size w V := by rw [← hV]; exact below2 w _ _
  rw [hV]
  clear hV
  go_wp2_with ((refine wpList_load_blk rfl 30 (.tmp 3) rfl ?_ hx rowWr rfl ?_); rfl)
  refine (rwFail_any r a n c e 1 V).mono ?_
  rintro q w2 ⟨rfl, b2⟩
  have hr2 := hr.keep b2 hr.lt
  have hB2 := hB.trans (b2.mono (Nat.le_of_lt hx.lt))
  go_wp2_with (refine wpList_store_part (cur := wrC 0 none 0 0 0) (cs := wrC r a n c (badOf e 1)) rfl 30 (.tmp 6) (.tmp 25) rfl rfl rfl hr2 rowWr (by simp [wrC]) (by simp [wrC, Value.oneCell']) ?_; intro w9 hR9 hg9)
  have hR9 := hR9.cast (overV_all _ _ (by rfl))
  (try simp only [Exit.inBlock, Exit.then])
  refine bodyPost_ret (results_blk rfl rfl hR9 rowWr) rfl ?_
  exact ⟨rfl, hB2.trans (below_of_grown hg9 (Nat.le_succ _) hr2.lt)⟩

set_option maxRecDepth 100000 in
set_option maxHeartbeats 1000000 in
theorem rwNum_great2 (r : Int) (a : Option Addr) (n c : Nat) (e N : Int) (w : World) (hN : 65536 ≤ N) :
    Calls Try.prog 28 #[.agg #[.int .i64 r, .slice a n c, .int .i64 e], .int .u64 N, .int .i64 2] w fun q w' => q = .returned (.agg #[.int .i64 r, .slice a n c, .int .i64 (badOf e 1)]) ∧ Below w.heap.size w w' := by
  go_enter Try.func28, Try.ntmps28
  go_wp2_with fail
  obtain ⟨V, hV⟩ : ∃ V, (w.alloc (.cells #[.int .i64 r, .slice a n c, .int .i64 e] 30)).alloc (.cells #[.int .i64 0, .slice none 0 0, .int .i64 0] 30) = V := ⟨_, rfl⟩
  have hx : Blk V w.heap.size 30 (wrC r a n c e) := by rw [← hV]; exact (Blk.new w _ (wrC r a n c e)).alloc _
  have hr : Blk V (w.heap.size + 1) 30 (wrC 0 none 0 0 0) := by rw [← hV]; exact Blk.new1 w _ _ (wrC 0 none 0 0 0)
  have hB : Below w.heap.size w V := by rw [← hV]; exact below2 w _ _
  rw [hV]
  clear hV
  go_wp2_with ((refine wpList_load_blk rfl 30 (.tmp 3) rfl ?_ hx rowWr rfl ?_); rfl)
  refine (rwFail_any r a n c e 1 V).mono ?_
  rintro q w2 ⟨rfl, b2⟩
  have hr2 := hr.keep b2 hr.lt
  have hB2 := hB.trans (b2.mono (Nat.le_of_lt hx.lt))
  go_wp2_with (refine wpList_store_part (cur := wrC 0 none 0 0 0) (cs := wrC r a n c (badOf e 1)) rfl 30 (.tmp 6) (.tmp 25) rfl rfl rfl hr2 rowWr (by simp [wrC]) (by simp [wrC, Value.oneCell']) ?_; intro w9 hR9 hg9)
  have hR9 := hR9.cast (overV_all _ _ (by rfl))
  (try simp only [Exit.inBlock, Exit.then])
  refine bodyPost_ret (results_blk rfl rfl hR9 rowWr) rfl ?_
  exact ⟨rfl, hB2.trans (below_of_grown hg9 (Nat.le_succ _) hr2.lt)⟩

set_option maxRecDepth 100000 in
set_option maxHeartbeats 1000000 in
theorem rwNum_great3 (r : Int) (a : Option Addr) (n c : Nat) (e N : Int) (w : World) (hN : 16777216 ≤ N) :
    Calls Try.prog 28 #[.agg #[.int .i64 r, .slice a n c, .int .i64 e], .int .u64 N, .int .i64 3] w fun q w' => q = .returned (.agg #[.int .i64 r, .slice a n c, .int .i64 (badOf e 1)]) ∧ Below w.heap.size w w' := by
  go_enter Try.func28, Try.ntmps28
  go_wp2_with fail
  obtain ⟨V, hV⟩ : ∃ V, (w.alloc (.cells #[.int .i64 r, .slice a n c, .int .i64 e] 30)).alloc (.cells #[.int .i64 0, .slice none 0 0, .int .i64 0] 30) = V := ⟨_, rfl⟩
  have hx : Blk V w.heap.size 30 (wrC r a n c e) := by rw [← hV]; exact (Blk.new w _ (wrC r a n c e)).alloc _
  have hr : Blk V (w.heap.size + 1) 30 (wrC 0 none 0 0 0) := by rw [← hV]; exact Blk.new1 w _ _ (wrC 0 none 0 0 0)
  have hB : Below w.heap.size w V := by rw [← hV]; exact below2 w _ _
  rw [hV]
  clear hV
  go_wp2_with ((refine wpList_load_blk rfl 30 (.tmp 3) rfl ?_ hx rowWr rfl ?_); rfl)
  refine (rwFail_any r a n c e 1 V).mono ?_
  rintro q w2 ⟨rfl, b2⟩
  have hr2 := hr.keep b2 hr.lt
  have hB2 := hB.trans (b2.mono (Nat.le_of_lt hx.lt))
  go_wp2_with (refine wpList_store_part (cur := wrC 0 none 0 0 0) (cs := wrC r a n c (badOf e 1)) rfl 30 (.tmp 6) (.tmp 25) rfl rfl rfl hr2 rowWr (by simp [wrC]) (by simp [wrC, Value.oneCell']) ?_; intro w9 hR9 hg9)
  have hR9 := hR9.cast (overV_all _ _ (by rfl))
  (try simp only [Exit.inBlock, Exit.then])
  refine bodyPost_ret (results_blk rfl rfl hR9 rowWr) rfl ?_
  exact ⟨rfl, hB2.trans (below_of_grown hg9 (Nat.le_succ _) hr2.lt)⟩

set_option maxRecDepth 100000 in
set_option maxHeartbeats 1000000 in
theorem rwNum_great4 (r : Int) (a : Option Addr) (n c : Nat) (e N : Int) (w : World) (hN : 4294967296 ≤ N) :
    Calls Try.prog 28 #[.agg #[.int .i64 r, .slice a n c, .int .i64 e], .int .u64 N, .int .i64 4] w fun q w' => q = .returned (.agg #[.int .i64 r, .slice a n c, .int .i64 (badOf e 1)]) ∧ Below w.heap.size w w' := by
  go_enter Try.func28, Try.ntmps28
  go_wp2_with fail
  obtain ⟨V, hV⟩ : ∃ V, (w.alloc (.cells #[.int .i64 r, .slice a n c, .int .i64 e] 30)).alloc (.cells #[.int .i64 0, .slice none 0 0, .int .i64 0] 30) = V := ⟨_, rfl⟩
  have hx : Blk V w.heap.size 30 (wrC r a n c e) := by rw [← hV]; exact (Blk.new w _ (wrC r a n c e)).alloc _
  have hr : Blk V (w.heap.size + 1) 30 (wrC 0 none 0 0 0) := by rw [← hV]; exact Blk.new1 w _ _ (wrC 0 none 0 0 0)
  have hB : Below w.heap.size w V := by rw [← hV]; exact below2 w _ _
  rw [hV]
  clear hV
  go_wp2_with ((refine wpList_load_blk rfl 30 (.tmp 3) rfl ?_ hx rowWr rfl ?_); rfl)
  refine (rwFail_any r a n c e 1 V).mono ?_
  rintro q w2 ⟨rfl, b2⟩
  have hr2 := hr.keep b2 hr.lt
  have hB2 := hB.trans (b2.mono (Nat.le_of_lt hx.lt))
  go_wp2_with (refine wpList_store_part (cur := wrC 0 none 0 0 0) (cs := wrC r a n c (badOf e 1)) rfl 30 (.tmp 6) (.tmp 25) rfl rfl rfl hr2 rowWr (by simp [wrC]) (by simp [wrC, Value.oneCell']) ?_; intro w9 hR9 hg9)
  have hR9 := hR9.cast (overV_all _ _ (by rfl))
  (try simp only [Exit.inBlock, Exit.then])
  refine bodyPost_ret (results_blk rfl rfl hR9 rowWr) rfl ?_
  exact ⟨rfl, hB2.trans (below_of_grown hg9 (Nat.le_succ _) hr2.lt)⟩

set_option maxRecDepth 100000 in
set_option maxHeartbeats 1000000 in
theorem rwNum_great5 (r : Int) (a : Option Addr) (n c : Nat) (e N : Int) (w : World) (hN : 1099511627776 ≤ N) :
    Calls Try.prog 28 #[.agg #[.int .i64 r, .slice a n c, .int .i64 e], .int .u64 N, .int .i64 5] w fun q w' => q = .returned (.agg #[.int .i64 r, .slice a n c, .int .i64 (badOf e 1)]) ∧ Below w.heap.size w w' := by
  go_enter Try.func28, Try.ntmps28
  go_wp2_with fail
  obtain ⟨V, hV⟩ : ∃ V, (w.alloc (.cells #[.int .i64 r, .slice a n c, .int .i64 e] 30)).alloc (.cells #[.int .i64 0, .slice none 0 0, .int .i64 0] 30) = V := ⟨_, rfl⟩
  have hx : Blk V w.heap.size 30 (wrC r a n c e) := by rw [← hV]; exact (Blk.new w _ (wrC r a n c e)).alloc _
  have hr : Blk V (w.heap.size + 1) 30 (wrC 0 none 0 0 0) := by rw [← hV]; exact Blk.new1 w _ _ (wrC 0 none 0 0 0)
  have hB : Below w.heap.size w V := by rw [← hV]; exact below2 w _ _
  rw [hV]
  clear hV
  go_wp2_with ((refine wpList_load_blk rfl 30 (.tmp 3) rfl ?_ hx rowWr rfl ?_); rfl)
  refine (rwFail_any r a n c e 1 V).mono ?_
  rintro q w2 ⟨rfl, b2⟩
  have hr2 := hr.keep b2 hr.lt
  have hB2 := hB.trans (b2.mono (Nat.le_of_lt hx.lt))
  go_wp2_with (refine wpList_store_part (cur := wrC 0 none 0 0 0) (cs := wrC r a n c (badOf e 1)) rfl 30 (.tmp 6) (.tmp 25) rfl rfl rfl hr2 rowWr (by simp [wrC]) (by simp [wrC, Value.oneCell']) ?_; intro w9 hR9 hg9)
  have hR9 := hR9.cast (overV_all _ _ (by rfl))
  (try simp only [Exit.inBlock, Exit.then])
  refine bodyPost_ret (results_blk rfl rfl hR9 rowWr) rfl ?_
  exact ⟨rfl, hB2.trans (below_of_grown hg9 (Nat.le_succ _) hr2.lt)⟩

set_option maxRecDepth 100000 in
set_option maxHeartbeats 1000000 in
theorem rwNum_great6 (r : Int) (a : Option Addr) (n c : Nat) (e N : Int) (w : World) (hN : 281474976710656 ≤ N) :
    Calls Try.prog 28 #[.agg #[.int .i64 r, .slice a n c, .int .i64 e], .int .u64 N, .int .i64 6] w fun q w' => q = .returned (.agg #[.int .i64 r, .slice a n c, .int .i64 (badOf e 1)]) ∧ Below w.heap.size w w' := by
  go_enter Try.func28, Try.ntmps28
  go_wp2_with fail
  obtain ⟨V, hV⟩ : ∃ V, (w.alloc (.cells #[.int .i64 r, .slice a n c, .int .i64 e] 30)).alloc (.cells #[.int .i64 0, .slice none 0 0, .int .i64 0] 30) = V := ⟨_, rfl⟩
  have hx : Blk V w.heap.size 30 (wrC r a n c e) := by rw [← hV]; exact (Blk.new w _ (wrC r a n c e)).alloc _
  have hr : Blk V (w.heap.size + 1) 30 (wrC 0 none 0 0 0) := by rw [← hV]; exact Blk.new1 w _ _ (wrC 0 none 0 0 0)
  have hB : Below w.heap.size w V := by rw [← hV]; exact below2 w _ _
  rw [hV]
  clear hV
  go_wp2_with ((refine wpList_load_blk rfl 30 (.tmp 3) rfl ?_ hx rowWr rfl ?_); rfl)
  refine (rwFail_any r a n c e 1 V).mono ?_
  rintro q w2 ⟨rfl, b2⟩
  have hr2 := hr.keep b2 hr.lt
  have hB2 := hB.trans (b2.mono (Nat.le_of_lt hx.lt))
  go_wp2_with (refine wpList_store_part (cur := wrC 0 none 0 0 0) (cs := wrC r a n c (badOf e 1)) rfl 30 (.tmp 6) (.tmp 25) rfl rfl rfl hr2 rowWr (by simp [wrC]) (by simp [wrC, Value.oneCell']) ?_; intro w9 hR9 hg9)
  have hR9 := hR9.cast (overV_all _ _ (by rfl))
  (try simp only [Exit.inBlock, Exit.then])
  refine bodyPost_ret (results_blk rfl rfl hR9 rowWr) rfl ?_
  exact ⟨rfl, hB2.trans (below_of_grown hg9 (Nat.le_succ _) hr2.lt)⟩

set_option maxRecDepth 100000 in
set_option maxHeartbeats 1000000 in
theorem rwNum_great7 (r : Int) (a : Option Addr) (n c : Nat) (e N : Int) (w : World) (hN : 72057594037927936 ≤ N) :
    Calls Try.prog 28 #[.agg #[.int .i64 r, .slice a n c, .int .i64 e], .int .u64 N, .int .i64 7] w fun q w' => q = .returned (.agg #[.int .i64 r, .slice a n c, .int .i64 (badOf e 1)]) ∧ Below w.heap.size w w' := by
  go_enter Try.func28, Try.ntmps28
  go_wp2_with fail
  obtain ⟨V, hV⟩ : ∃ V, (w.alloc (.cells #[.int .i64 r, .slice a n c, .int .i64 e] 30)).alloc (.cells #[.int .i64 0, .slice none 0 0, .int .i64 0] 30) = V := ⟨_, rfl⟩
  have hx : Blk V w.heap.size 30 (wrC r a n c e) := by rw [← hV]; exact (Blk.new w _ (wrC r a n c e)).alloc _
  have hr : Blk V (w.heap.size + 1) 30 (wrC 0 none 0 0 0) := by rw [← hV]; exact Blk.new1 w _ _ (wrC 0 none 0 0 0)
  have hB : Below w.heap.size w V := by rw [← hV]; exact below2 w _ _
  rw [hV]
  clear hV
  go_wp2_with ((refine wpList_load_blk rfl 30 (.tmp 3) rfl ?_ hx rowWr rfl ?_); rfl)
  refine (rwFail_any r a n c e 1 V).mono ?_
  rintro q w2 ⟨rfl, b2⟩
  have hr2 := hr.keep b2 hr.lt
  have hB2 := hB.trans (b2.mono (Nat.le_of_lt hx.lt))
  go_wp2_with (refine wpList_store_part (cur := wrC 0 none 0 0 0) (cs := wrC r a n c (badOf e 1)) rfl 30 (.tmp 6) (.tmp 25) rfl rfl rfl hr2 rowWr (by simp [wrC]) (by simp [wrC, Value.oneCell']) ?_; intro w9 hR9 hg9)
  have hR9 := hR9.cast (overV_all _ _ (by rfl))
  (try simp only [Exit.inBlock, Exit.then])
  refine bodyPost_ret (results_blk rfl rfl hR9 rowWr) rfl ?_
  exact ⟨rfl, hB2.trans (below_of_grown hg9 (Nat.le_succ _) hr2.lt)⟩

set_option maxRecDepth 100000 in
set_option maxHeartbeats 1000000 in
theorem rwNum_fits1 (r : Int) (a : Option Addr) (n c : Nat) (e N : Int) (xs : List Int) (w : World) (hN : ¬ 256 ≤ N) (hI : Ints .u8 w a n c xs) (hm : n ≤ 90000000) :
    Calls Try.prog 28 #[.agg #[.int .i64 r, .slice a n c, .int .i64 e], .int .u64 N, .int .i64 1] w fun q w' => ∃ a' n' c', q = .returned (.agg #[.int .i64 r, .slice a' n' c', .int .i64 (wrStep r xs e (beL N 1)).2]) ∧ Ints .u8 w' a' n' c' (wrStep r xs e (beL N 1)).1 ∧ Stays w a a' n n' ∧ Below w.heap.size w w' := by
  have hmH := Lib.hid hm
  clear hm
  go_enter Try.func28, Try.ntmps28
  go_wp2_with fail
  obtain ⟨V, hV⟩ : ∃ V, (w.alloc (.cells #[.int .i64 r, .slice a n c, .int .i64 e] 30)).alloc (.cells #[.int .i64 0, .slice none 0 0, .int .i64 0] 30) = V := ⟨_, rfl⟩
  have hx : Blk V w.heap.size 30 (wrC r a n c e) := by rw [← hV]; exact (Blk.new w _ (wrC r a n c e)).alloc _
  have hr : Blk V (w.heap.size + 1) 30 (wrC 0 none 0 0 0) := by rw [← hV]; exact Blk.new1 w _ _ (wrC 0 none 0 0 0)
  have hB : Below w.heap.size w V := by rw [← hV]; exact below2 w _ _
  rw [hV]
  clear hV
  obtain ⟨G, hG⟩ : ∃ G, w.heap.size = G := ⟨_, rfl⟩
  have hIV : Ints .u8 V a n c xs := hI.keep hB
  have hIB := hI.isIn.2
  rw [hG] at hx hr hB ⊢
  have hGH := Lib.hid hG
  clear hG
  refine region_seqS (fun W => Blk W G 30 (wrC r a n c e)) (by kernel_rfl) (show Blk V.drew G 30 (wrC r a n c e) from hx) ?_
  simp only [pairs, Nat.reduceAdd]
  have hx1 : Blk V.drew G 30 (wrC r a n c e) := hx
  have hr1 : Blk V.drew (G + 1) 30 (wrC 0 none 0 0 0) := hr
  have hB1 : Below G w V.drew := Below.drew hB
  have hI1 : Ints .u8 V.drew a n c xs := hIV
  obtain ⟨U, hU⟩ : ∃ U, V.drew = U := ⟨_, rfl⟩
  rw [hU] at hx1 hr1 hB1 hI1 ⊢
  clear hU hx hr hB hIV hI
  repeat (first
    | (refine SeqS.take (v := .agg (wrC r a n c e).toArray) (by first | assumption | trivial) (by kernel_rfl) (by decide +kernel) (by decide +kernel) (yields_blk (by rfl) 30 (.tmp 3) rfl rfl (fun w' h => h) (rowWr)) ?_
       simp only [Act.put, List.setIfInBounds_toArray, List.set_cons_zero, List.set_cons_succ])
    | (refine SeqS.take (v := ?_) (by first | assumption | trivial) (by kernel_rfl) (by decide +kernel) (by decide +kernel) (Or.inl ⟨by rfl, ?_⟩) ?_
       rotate_left
       focus
         intro w' hb'
         go_simp
         with_reducible rfl
       simp only [Act.put, List.setIfInBounds_toArray, List.set_cons_zero, List.set_cons_succ])
    | (refine SeqS.take (v := undef) (by first | assumption | trivial) (by kernel_rfl) (by decide +kernel) (by decide +kernel) (Or.inr ⟨by rfl, rfl⟩) ?_
       simp only [Act.put, List.setIfInBounds_toArray, List.set_cons_zero, List.set_cons_succ])
    | (refine SeqS.take1 (v := .agg (wrC r a n c e).toArray) (by first | assumption | trivial) (by kernel_rfl) (by decide +kernel) (by decide +kernel) (yields_blk (by rfl) 30 (.tmp 3) rfl rfl (fun w' h => h) (rowWr)) ?_
       simp only [Act.put, List.setIfInBounds_toArray, List.set_cons_zero, List.set_cons_succ])
    | (refine SeqS.take1 (v := ?_) (by first | assumption | trivial) (by kernel_rfl) (by decide +kernel) (by decide +kernel) (Or.inl ⟨by rfl, ?_⟩) ?_
       rotate_left
       focus
         intro w' hb'
         go_simp
         with_reducible rfl
       simp only [Act.put, List.setIfInBounds_toArray, List.set_cons_zero, List.set_cons_succ])
    | (refine SeqS.take1 (v := undef) (by first | assumption | trivial) (by kernel_rfl) (by decide +kernel) (by decide +kernel) (Or.inr ⟨by rfl, rfl⟩) ?_
       simp only [Act.put, List.setIfInBounds_toArray, List.set_cons_zero, List.set_cons_succ])
    | (refine SeqS.take2 (v := .agg (wrC r a n c e).toArray) (by first | assumption | trivial) (by kernel_rfl) (by decide +kernel) (by decide +kernel) (yields_blk (by rfl) 30 (.tmp 3) rfl rfl (fun w' h => h) (rowWr)) ?_
       simp only [Act.put, List.setIfInBounds_toArray, List.set_cons_zero, List.set_cons_succ])
    | (refine SeqS.take2 (v := ?_) (by first | assumption | trivial) (by kernel_rfl) (by decide +kernel) (by decide +kernel) (Or.inl ⟨by rfl, ?_⟩) ?_
       rotate_left
       focus
         intro w' hb'
         go_simp
         with_reducible rfl
       simp only [Act.put, List.setIfInBounds_toArray, List.set_cons_zero, List.set_cons_succ])
    | (refine SeqS.take2 (v := undef) (by first | assumption | trivial) (by kernel_rfl) (by decide +kernel) (by decide +kernel) (Or.inr ⟨by rfl, rfl⟩) ?_
       simp only [Act.put, List.setIfInBounds_toArray, List.set_cons_zero, List.set_cons_succ])
    | (refine SeqS.take3 (v := .agg (wrC r a n c e).toArray) (by first | assumption | trivial) (by kernel_rfl) (by decide +kernel) (by decide +kernel) (yields_blk (by rfl) 30 (.tmp 3) rfl rfl (fun w' h => h) (rowWr)) ?_
       simp only [Act.put, List.setIfInBounds_toArray, List.set_cons_zero, List.set_cons_succ])
    | (refine SeqS.take3 (v := ?_) (by first | assumption | trivial) (by kernel_rfl) (by decide +kernel) (by decide +kernel) (Or.inl ⟨by rfl, ?_⟩) ?_
       rotate_left
       focus
         intro w' hb'
         go_simp
         with_reducible rfl
       simp only [Act.put, List.setIfInBounds_toArray, List.set_cons_zero, List.set_cons_succ])
    | (refine SeqS.take3 (v := undef) (by first | assumption | trivial) (by kernel_rfl) (by decide +kernel) (by decide +kernel) (Or.inr ⟨by rfl, rfl⟩) ?_
       simp only [Act.put, List.setIfInBounds_toArray, List.set_cons_zero, List.set_cons_succ]))
  refine SeqS.alone (by decide +kernel) (by rfl) (fun K1 hK1 => ?_)
  go_simp
  refine (rNumber_any N 1 U (by decide)).mono ?_
  rintro q w2 ⟨b, d, rfl, ho, b2⟩
  have hJ2 : Ints .u8 w2 b 1 d (beL N 1) := by
    obtain ⟨a2, c2, hv, hi⟩ := Ints.of_owns ho
    injection hv with e1 _ e2
    subst e1; subst e2
    exact hi
  have hx2 := hx1.keep b2 hx1.lt
  have hr2 := hr1.keep b2 hr1.lt
  have hI2 := hI1.keep b2
  have hB2 := hB1.trans (b2.mono (Nat.le_of_lt hx1.lt))
  clear hx1 hr1 hI1 hB1 ho b2
  go_simp
  refine hK1 _ _ hx2 ?_
  clear hK1 K1
  (try simp only [Act.put, List.setIfInBounds_toArray, List.set_cons_zero, List.set_cons_succ])
  refine SeqS.alone (by decide +kernel) (by rfl) (fun K1 hK1 => ?_)
  go_simp
  refine (rwBytes_any r a b n c 1 d e xs (beL N 1) w2 hI2 hJ2 (by have := hmH.out; omega)).mono ?_
  rintro q w3 ⟨a', n', c', rfl, hI3, hst, b3⟩
  have hx3 := hx2.keep b3 hx2.lt
  have hr3 := hr2.keep b3 hr2.lt
  have hB3 := hB2.trans (b3.mono (Nat.le_of_lt hx2.lt))
  have hne : ∀ x, a' = some x → 0 < n' → x.block ≠ G + 1 := by
    intro x hx h0
    rcases hst with ⟨h1, h2⟩ | h
    · rw [h1] at hx
      rw [h2] at h0
      have := hIB x hx h0
      have := hGH.out
      omega
    · have := h x hx
      have := hr2.lt
      omega
  have hst3 : Stays w a a' n n' := by
    rcases hst with h | h
    · exact .inl h
    · exact .inr fun x hx => by have h1 := h x hx; have h2 := hx2.lt; have h3 := hGH.out; omega
  clear hI2 hJ2 b3 hx2 hr2 hB2 hst
  obtain ⟨E, hE⟩ : ∃ E, (wrStep r xs e (beL N 1)).2 = E := ⟨_, rfl⟩
  obtain ⟨X, hX⟩ : ∃ X, (wrStep r xs e (beL N 1)).1 = X := ⟨_, rfl⟩
  rw [hX] at hI3
  rw [hE]
  have hEH := Lib.hid hE
  have hXH := Lib.hid hX
  clear hE hX
  go_simp
  refine hK1 _ _ hx3 ?_
  clear hK1 K1
  (try simp only [Act.put, List.setIfInBounds_toArray, List.set_cons_zero, List.set_cons_succ])
  refine SeqS.alone (by decide +kernel) (by rfl) (fun K1 hK1 => ?_)
  refine wp_store_part (cs := wrC r a' n' c' E) 30 (.tmp 6) (.tmp 30) rfl rfl rfl hr3 rowWr (by simp [wrC]) (by simp [wrC, Value.oneCell']) (fun w9 hR9 hg9 => ?_)
  have hR9 := hR9.cast (overV_all _ _ (by rfl))
  refine hK1 _ _ (hx3.grown hg9 (by simp)) ?_
  clear hK1 K1
  refine SeqS.done (by decide +kernel) ?_
  go_wp2_with fail
  (try simp only [Exit.inBlock, Exit.then])
  refine bodyPost_ret (results_blk rfl rfl hR9 rowWr) rfl ?_
  refine ⟨a', n', c', by rw [hEH.out]; rfl, ?_, hst3, ?_⟩
  · rw [hXH.out]
    exact hI3.grown hg9 hne
  · rw [hGH.out]
    exact hB3.trans (below_of_grown hg9 (Nat.le_succ _) hr3.lt)

set_option maxRecDepth 100000 in
set_option maxHeartbeats 1000000 in
theorem rwNum_fits2 (r : Int) (a : Option Addr) (n c : Nat) (e N : Int) (xs : List Int) (w : World) (hN : ¬ 65536 ≤ N) (hI : Ints .u8 w a n c xs) (hm : n ≤ 90000000) :
    Calls Try.prog 28 #[.agg #[.int .i64 r, .slice a n c, .int .i64 e], .int .u64 N, .int .i64 2] w fun q w' => ∃ a' n' c', q = .returned (.agg #[.int .i64 r, .slice a' n' c', .int .i64 (wrStep r xs e (beL N 2)).2]) ∧ Ints .u8 w' a' n' c' (wrStep r xs e (beL N 2)).1 ∧ Stays w a a' n n' ∧ Below w.heap.size w w' := by
  have hmH := Lib.hid hm
  clear hm
  go_enter Try.func28, Try.ntmps28
  go_wp2_with fail
  obtain ⟨V, hV⟩ : ∃ V, (w.alloc (.cells #[.int .i64 r, .slice a n c, .int .i64 e] 30)).alloc (.cells #[.int .i64 0, .slice none 0 0, .int .i64 0] 30) = V := ⟨_, rfl⟩
  have hx : Blk V w.heap.size 30 (wrC r a n c e) := by rw [← hV]; exact (Blk.new w _ (wrC r a n c e)).alloc _
  have hr : Blk V (w.heap.size + 1) 30 (wrC 0 none 0 0 0) := by rw [← hV]; exact Blk.new1 w _ _ (wrC 0 none 0 0 0)
  have hB : Below w.heap.size w V := by rw [← hV]; exact below2 w _ _
  rw [hV]
  clear hV
  obtain ⟨G, hG⟩ : ∃ G, w.heap.size = G := ⟨_, rfl⟩
  have hIV : Ints .u8 V a n c xs := hI.keep hB
  have hIB := hI.isIn.2
  rw [hG] at hx hr hB ⊢
  have hGH := Lib.hid hG
  clear hG
  refine region_seqS (fun W => Blk W G 30 (wrC r a n c e)) (by kernel_rfl) (show Blk V.drew G 30 (wrC r a n c e) from hx) ?_
  simp only [pairs, Nat.reduceAdd]
  have hx1 : Blk V.drew G 30 (wrC r a n c e) := hx
  have hr1 : Blk V.drew (G + 1) 30 (wrC 0 none 0 0 0) := hr
  have hB1 : Below G w V.drew := Below.drew hB
  have hI1 : Ints .u8 V.drew a n c xs := hIV
  obtain ⟨U, hU⟩ : ∃ U, V.drew = U := ⟨_, rfl⟩
  rw [hU] at hx1 hr1 hB1 hI1 ⊢
  clear hU hx hr hB hIV hI
  repeat (first
    | (refine SeqS.take (v := .agg (wrC r a n c e).toArray) (by first | assumption | trivial) (by kernel_rfl) (by decide +kernel) (by decide +kernel) (yields_blk (by rfl) 30 (.tmp 3) rfl rfl (fun w' h => h) (rowWr)) ?_
       simp only [Act.put, List.setIfInBounds_toArray, List.set_cons_zero, List.set_cons_succ])
    | (refine SeqS.take (v := ?_) (by first | assumption | trivial) (by kernel_rfl) (by decide +kernel) (by decide +kernel) (Or.inl ⟨by rfl, ?_⟩) ?_
       rotate_left
       focus
         intro w' hb'
         go_simp
         with_reducible rfl
       simp only [Act.put, List.setIfInBounds_toArray, List.set_cons_zero, List.set_cons_succ])
    | (refine SeqS.take (v := undef) (by first | assumption | trivial) (by kernel_rfl) (by decide +kernel) (by decide +kernel) (Or.inr ⟨by rfl, rfl⟩) ?_
       simp only [Act.put, List.setIfInBounds_toArray, List.set_cons_zero, List.set_cons_succ])
    | (refine SeqS.take1 (v := .agg (wrC r a n c e).toArray) (by first | assumption | trivial) (by kernel_rfl) (by decide +kernel) (by decide +kernel) (yields_blk (by rfl) 30 (.tmp 3) rfl rfl (fun w' h => h) (rowWr)) ?_
       simp only [Act.put, List.setIfInBounds_toArray, List.set_cons_zero, List.set_cons_succ])
    | (refine SeqS.take1 (v := ?_) (by first | assumption | trivial) (by kernel_rfl) (by decide +kernel) (by decide +kernel) (Or.inl ⟨by rfl, ?_⟩) ?_
       rotate_left
       focus
         intro w' hb'
         go_simp
         with_reducible rfl
       simp only [Act.put, List.setIfInBounds_toArray, List.set_cons_zero, List.set_cons_succ])
    | (refine SeqS.take1 (v := undef) (by first | assumption | trivial) (by kernel_rfl) (by decide +kernel) (by decide +kernel) (Or.inr ⟨by rfl, rfl⟩) ?_
       simp only [Act.put, List.setIfInBounds_toArray, List.set_cons_zero, List.set_cons_succ])
    | (refine SeqS.take2 (v := .agg (wrC r a n c e).toArray) (by first | assumption | trivial) (by kernel_rfl) (by decide +kernel) (by decide +kernel) (yields_blk (by rfl) 30 (.tmp 3) rfl rfl (fun w' h => h) (rowWr)) ?_
       simp only [Act.put, List.setIfInBounds_toArray, List.set_cons_zero, List.set_cons_succ])
    | (refine SeqS.take2 (v := ?_) (by first | assumption | trivial) (by kernel_rfl) (by decide +kernel) (by decide +kernel) (Or.inl ⟨by rfl, ?_⟩) ?_
       rotate_left
       focus
         intro w' hb'
         go_simp
         with_reducible rfl
       simp only [Act.put, List.setIfInBounds_toArray, List.set_cons_zero, List.set_cons_succ])
    | (refine SeqS.take2 (v := undef) (by first | assumption | trivial) (by kernel_rfl) (by decide +kernel) (by decide +kernel) (Or.inr ⟨by rfl, rfl⟩) ?_
       simp only [Act.put, List.setIfInBounds_toArray, List.set_cons_zero, List.set_cons_succ])
    | (refine SeqS.take3 (v := .agg (wrC r a n c e).toArray) (by first | assumption | trivial) (by kernel_rfl) (by decide +kernel) (by decide +kernel) (yields_blk (by rfl) 30 (.tmp 3) rfl rfl (fun w' h => h) (rowWr)) ?_
       simp only [Act.put, List.setIfInBounds_toArray, List.set_cons_zero, List.set_cons_succ])
    | (refine SeqS.take3 (v := ?_) (by first | assumption | trivial) (by kernel_rfl) (by decide +kernel) (by decide +kernel) (Or.inl ⟨by rfl, ?_⟩) ?_
       rotate_left
       focus
         intro w' hb'
         go_simp
         with_reducible rfl
       simp only [Act.put, List.setIfInBounds_toArray, List.set_cons_zero, List.set_cons_succ])
    | (refine SeqS.take3 (v := undef) (by first | assumption | trivial) (by kernel_rfl) (by decide +kernel) (by decide +kernel) (Or.inr ⟨by rfl, rfl⟩) ?_
       simp only [Act.put, List.setIfInBounds_toArray, List.set_cons_zero, List.set_cons_succ]))
  refine SeqS.alone (by decide +kernel) (by rfl) (fun K1 hK1 => ?_)
  go_simp
  refine (rNumber_any N 2 U (by decide)).mono ?_
  rintro q w2 ⟨b, d, rfl, ho, b2⟩
  have hJ2 : Ints .u8 w2 b 2 d (beL N 2) := by
    obtain ⟨a2, c2, hv, hi⟩ := Ints.of_owns ho
    injection hv with e1 _ e2
    subst e1; subst e2
    exact hi
  have hx2 := hx1.keep b2 hx1.lt
  have hr2 := hr1.keep b2 hr1.lt
  have hI2 := hI1.keep b2
  have hB2 := hB1.trans (b2.mono (Nat.le_of_lt hx1.lt))
  clear hx1 hr1 hI1 hB1 ho b2
  go_simp
  refine hK1 _ _ hx2 ?_
  clear hK1 K1
  (try simp only [Act.put, List.setIfInBounds_toArray, List.set_cons_zero, List.set_cons_succ])
  refine SeqS.alone (by decide +kernel) (by rfl) (fun K1 hK1 => ?_)
  go_simp
  refine (rwBytes_any r a b n c 2 d e xs (beL N 2) w2 hI2 hJ2 (by have := hmH.out; omega)).mono ?_
  rintro q w3 ⟨a', n', c', rfl, hI3, hst, b3⟩
  have hx3 := hx2.keep b3 hx2.lt
  have hr3 := hr2.keep b3 hr2.lt
  have hB3 := hB2.trans (b3.mono (Nat.le_of_lt hx2.lt))
  have hne : ∀ x, a' = some x → 0 < n' → x.block ≠ G + 1 := by
    intro x hx h0
    rcases hst with ⟨h1, h2⟩ | h
    · rw [h1] at hx
      rw [h2] at h0
      have := hIB x hx h0
      have := hGH.out
      omega
    · have := h x hx
      have := hr2.lt
      omega
  have hst3 : Stays w a a' n n' := by
    rcases hst with h | h
    · exact .inl h
    · exact .inr fun x hx => by have h1 := h x hx; have h2 := hx2.lt; have h3 := hGH.out; omega
  clear hI2 hJ2 b3 hx2 hr2 hB2 hst
  obtain ⟨E, hE⟩ : ∃ E, (wrStep r xs e (beL N 2)).2 = E := ⟨_, rfl⟩
  obtain ⟨X, hX⟩ : ∃ X, (wrStep r xs e (beL N 2)).1 = X := ⟨_, rfl⟩
  rw [hX] at hI3
  rw [hE]
  have hEH := Lib.hid hE
  have hXH := Lib.hid hX
  clear hE hX
  go_simp
  refine hK1 _ _ hx3 ?_
  clear hK1 K1
  (try simp only [Act.put, List.setIfInBounds_toArray, List.set_cons_zero, List.set_cons_succ])
  refine SeqS.alone (by decide +kernel) (by rfl) (fun K1 hK1 => ?_)
  refine wp_store_part (cs := wrC r a' n' c' E) 30 (.tmp 6) (.tmp 30) rfl rfl rfl hr3 rowWr (by simp [wrC]) (by simp [wrC, Value.oneCell']) (fun w9 hR9 hg9 => ?_)
  have hR9 := hR9.cast (overV_all _ _ (by rfl))
  refine hK1 _ _ (hx3.grown hg9 (by simp)) ?_
  clear hK1 K1
  refine SeqS.done (by decide +kernel) ?_
  go_wp2_with fail
  (try simp only [Exit.inBlock, Exit.then])
  refine bodyPost_ret (results_blk rfl rfl hR9 rowWr) rfl ?_
  refine ⟨a', n', c', by rw [hEH.out]; rfl, ?_, hst3, ?_⟩
  · rw [hXH.out]
    exact hI3.grown hg9 hne
  · rw [hGH.out]
    exact hB3.trans (below_of_grown hg9 (Nat.le_succ _) hr3.lt)

set_option maxRecDepth 100000 in
set_option maxHeartbeats 1000000 in
theorem rwNum_fits3 (r : Int) (a : Option Addr) (n c : Nat) (e N : Int) (xs : List Int) (w : World) (hN : ¬ 16777216 ≤ N) (hI : Ints .u8 w a n c xs) (hm : n ≤ 90000000) :
    Calls Try.prog 28 #[.agg #[.int .i64 r, .slice a n c, .int .i64 e], .int .u64 N, .int .i64 3] w fun q w' => ∃ a' n' c', q = .returned (.agg #[.int .i64 r, .slice a' n' c', .int .i64 (wrStep r xs e (beL N 3)).2]) ∧ Ints .u8 w' a' n' c' (wrStep r xs e (beL N 3)).1 ∧ Stays w a a' n n' ∧ Below w.heap.size w w' := by
  have hmH := Lib.hid hm
  clear hm
  go_enter Try.func28, Try.ntmps28
  go_wp2_with fail
  obtain ⟨V, hV⟩ : ∃ V, (w.alloc (.cells #[.int .i64 r, .slice a n c, .int .i64 e] 30)).alloc (.cells #[.int .i64 0, .slice none 0 0, .int .i64 0] 30) = V := ⟨_, rfl⟩
  have hx : Blk V w.heap.size 30 (wrC r a n c e) := by rw [← hV]; exact (Blk.new w _ (wrC r a n c e)).alloc _
  have hr : Blk V (w.heap.size + 1) 30 (wrC 0 none 0 0 0) := by rw [← hV]; exact Blk.new1 w _ _ (wrC 0 none 0 0 0)
  have hB : Below w.heap.size w V := by rw [← hV]; exact below2 w _ _
  rw [hV]
  clear hV
  obtain ⟨G, hG⟩ : ∃ G, w.heap.size = G := ⟨_, rfl⟩
  have hIV : Ints .u8 V a n c xs := hI.keep hB
  have hIB := hI.isIn.2
  rw [hG] at hx hr hB ⊢
  have hGH := Lib.hid hG
  clear hG
  refine region_seqS (fun W => Blk W G 30 (wrC r a n c e)) (by kernel_rfl) (show Blk V.drew G 30 (wrC r a n c e) from hx) ?_
  simp only [pairs, Nat.reduceAdd]
  have hx1 : Blk V.drew G 30 (wrC r a n c e) := hx
  have hr1 : Blk V.drew (G + 1) 30 (wrC 0 none 0 0 0) := hr
  have hB1 : Below G w V.drew := Below.drew hB
  have hI1 : Ints .u8 V.drew a n c xs := hIV
  obtain ⟨U, hU⟩ : ∃ U, V.drew = U := ⟨_, rfl⟩
  rw [hU] at hx1 hr1 hB1 hI1 ⊢
  clear hU hx hr hB hIV hI
  repeat (first
    | (refine SeqS.take (v := .agg (wrC r a n c e).toArray) (by first | assumption | trivial) (by kernel_rfl) (by decide +kernel) (by decide +kernel) (yields_blk (by rfl) 30 (.tmp 3) rfl rfl (fun w' h => h) (rowWr)) ?_
       simp only [Act.put, List.setIfInBounds_toArray, List.set_cons_zero, List.set_cons_succ])
    | (refine SeqS.take (v := ?_) (by first | assumption | trivial) (by kernel_rfl) (by decide +kernel) (by decide +kernel) (Or.inl ⟨by rfl, ?_⟩) ?_
       rotate_left
       focus
         intro w' hb'
         go_simp
         with_reducible rfl
       simp only [Act.put, List.setIfInBounds_toArray, List.set_cons_zero, List.set_cons_succ])
    | (refine SeqS.take (v := undef) (by first | assumption | trivial) (by kernel_rfl) (by decide +kernel) (by decide +kernel) (Or.inr ⟨by rfl, rfl⟩) ?_
       simp only [Act.put, List.setIfInBounds_toArray, List.set_cons_zero, List.set_cons_succ])
    | (refine SeqS.take1 (v := .agg (wrC r a n c e).toArray) (by first | assumption | trivial) (by kernel_rfl) (by decide +kernel) (by decide +kernel) (yields_blk (by rfl) 30 (.tmp 3) rfl rfl (fun w' h => h) (rowWr)) ?_
       simp only [Act.put, List.setIfInBounds_toArray, List.set_cons_zero, List.set_cons_succ])
    | (refine SeqS.take1 (v := ?_) (by first | assumption | trivial) (by kernel_rfl) (by decide +kernel) (by decide +kernel) (Or.inl ⟨by rfl, ?_⟩) ?_
       rotate_left
       focus
         intro w' hb'
         go_simp
         with_reducible rfl
       simp only [Act.put, List.setIfInBounds_toArray, List.set_cons_zero, List.set_cons_succ])
    | (refine SeqS.take1 (v := undef) (by first | assumption | trivial) (by kernel_rfl) (by decide +kernel) (by decide +kernel) (Or.inr ⟨by rfl, rfl⟩) ?_
       simp only [Act.put, List.setIfInBounds_toArray, List.set_cons_zero, List.set_cons_succ])
    | (refine SeqS.take2 (v := .agg (wrC r a n c e).toArray) (by first | assumption | trivial) (by kernel_rfl) (by decide +kernel) (by decide +kernel) (yields_blk (by rfl) 30 (.tmp 3) rfl rfl (fun w' h => h) (rowWr)) ?_
       simp only [Act.put, List.setIfInBounds_toArray, List.set_cons_zero, List.set_cons_succ])
    | (refine SeqS.take2 (v := ?_) (by first | assumption | trivial) (by kernel_rfl) (by decide +kernel) (by decide +kernel) (Or.inl ⟨by rfl, ?_⟩) ?_
       rotate_left
       focus
         intro w' hb'
         go_simp
         with_reducible rfl
       simp only [Act.put, List.setIfInBounds_toArray, List.set_cons_zero, List.set_cons_succ])
    | (refine SeqS.take2 (v := undef) (by first | assumption | trivial) (by kernel_rfl) (by decide +kernel) (by decide +kernel) (Or.inr ⟨by rfl, rfl⟩) ?_
       simp only [Act.put, List.setIfInBounds_toArray, List.set_cons_zero, List.set_cons_succ])
    | (refine SeqS.take3 (v := .agg (wrC r a n c e).toArray) (by first | assumption | trivial) (by kernel_rfl) (by decide +kernel) (by decide +kernel) (yields_blk (by rfl) 30 (.tmp 3) rfl rfl (fun w' h => h) (rowWr)) ?_
       simp only [Act.put, List.setIfInBounds_toArray, List.set_cons_zero, List.set_cons_succ])
    | (refine SeqS.take3 (v := ?_) (by first | assumption | trivial) (by kernel_rfl) (by decide +kernel) (by decide +kernel) (Or.inl ⟨by rfl, ?_⟩) ?_
       rotate_left
       focus
         intro w' hb'
         go_simp
         with_reducible rfl
       simp only [Act.put, List.setIfInBounds_toArray, List.set_cons_zero, List.set_cons_succ])
    | (refine SeqS.take3 (v := undef) (by first | assumption | trivial) (by kernel_rfl) (by decide +kernel) (by decide +kernel) (Or.inr ⟨by rfl, rfl⟩) ?_
       simp only [Act.put, List.setIfInBounds_toArray, List.set_cons_zero, List.set_cons_succ]))
  refine SeqS.alone (by decide +kernel) (by rfl) (fun K1 hK1 => ?_)
  go_simp
  refine (rNumber_any N 3 U (by decide)).mono ?_
  rintro q w2 ⟨b, d, rfl, ho, b2⟩
  have hJ2 : Ints .u8 w2 b 3 d (beL N 3) := by
    obtain ⟨a2, c2, hv, hi⟩ := Ints.of_owns ho
    injection hv with e1 _ e2
    subst e1; subst e2
    exact hi
  have hx2 := hx1.keep b2 hx1.lt
  have hr2 := hr1.keep b2 hr1.lt
  have hI2 := hI1.keep b2
  have hB2 := hB1.trans (b2.mono (Nat.le_of_lt hx1.lt))
  clear hx1 hr1 hI1 hB1 ho b2
  go_simp
  refine hK1 _ _ hx2 ?_
  clear hK1 K1
  (try simp only [Act.put, List.setIfInBounds_toArray, List.set_cons_zero, List.set_cons_succ])
  refine SeqS.alone (by decide +kernel) (by rfl) (fun K1 hK1 => ?_)
  go_simp
  refine (rwBytes_any r a b n c 3 d e xs (beL N 3) w2 hI2 hJ2 (by have := hmH.out; omega)).mono ?_
  rintro q w3 ⟨a', n', c', rfl, hI3, hst, b3⟩
  have hx3 := hx2.keep b3 hx2.lt
  have hr3 := hr2.keep b3 hr2.lt
  have hB3 := hB2.trans (b3.mono (Nat.le_of_lt hx2.lt))
  have hne : ∀ x, a' = some x → 0 < n' → x.block ≠ G + 1 := by
    intro x hx h0
    rcases hst with ⟨h1, h2⟩ | h
    · rw [h1] at hx
      rw [h2] at h0
      have := hIB x hx h0
      have := hGH.out
      omega
    · have := h x hx
      have := hr2.lt
      omega
  have hst3 : Stays w a a' n n' := by
    rcases hst with h | h
    · exact .inl h
    · exact .inr fun x hx => by have h1 := h x hx; have h2 := hx2.lt; have h3 := hGH.out; omega
  clear hI2 hJ2 b3 hx2 hr2 hB2 hst
  obtain ⟨E, hE⟩ : ∃ E, (wrStep r xs e (beL N 3)).2 = E := ⟨_, rfl⟩
  obtain ⟨X, hX⟩ : ∃ X, (wrStep r xs e (beL N 3)).1 = X := ⟨_, rfl⟩
  rw [hX] at hI3
  rw [hE]
  have hEH := Lib.hid hE
  have hXH := Lib.hid hX
  clear hE hX
  go_simp
  refine hK1 _ _ hx3 ?_
  clear hK1 K1
  (try simp only [Act.put, List.setIfInBounds_toArray, List.set_cons_zero, List.set_cons_succ])
  refine SeqS.alone (by decide +kernel) (by rfl) (fun K1 hK1 => ?_)
  refine wp_store_part (cs := wrC r a' n' c' E) 30 (.tmp 6) (.tmp 30) rfl rfl rfl hr3 rowWr (by simp [wrC]) (by simp [wrC, Value.oneCell']) (fun w9 hR9 hg9 => ?_)
  have hR9 := hR9.cast (overV_all _ _ (by rfl))
  refine hK1 _ _ (hx3.grown hg9 (by simp)) ?_
  clear hK1 K1
  refine SeqS.done (by decide +kernel) ?_
  go_wp2_with fail
  (try simp only [Exit.inBlock, Exit.then])
  refine bodyPost_ret (results_blk rfl rfl hR9 rowWr) rfl ?_
  refine ⟨a', n', c', by rw [hEH.out]; rfl, ?_, hst3, ?_⟩
  · rw [hXH.out]
    exact hI3.grown hg9 hne
  · rw [hGH.out]
    exact hB3.trans (below_of_grown hg9 (Nat.le_succ _) hr3.lt)

set_option maxRecDepth 100000 in
set_option maxHeartbeats 1000000 in
theorem rwNum_fits4 (r : Int) (a : Option Addr) (n c : Nat) (e N : Int) (xs : List Int) (w : World) (hN : ¬ 4294967296 ≤ N) (hI : Ints .u8 w a n c xs) (hm : n ≤ 90000000) :
    Calls Try.prog 28 #[.agg #[.int .i64 r, .slice a n c, .int .i64 e], .int .u64 N, .int .i64 4] w fun q w' => ∃ a' n' c', q = .returned (.agg #[.int .i64 r, .slice a' n' c', .int .i64 (wrStep r xs e (beL N 4)).2]) ∧ Ints .u8 w' a' n' c' (wrStep r xs e (beL N 4)).1 ∧ Stays w a a' n n' ∧ Below w.heap.size w w' := by
  have hmH := Lib.hid hm
  clear hm
  go_enter Try.func28, Try.ntmps28
  go_wp2_with fail
  obtain ⟨V, hV⟩ : ∃ V, (w.alloc (.cells #[.int .i64 r, .slice a n c, .int .i64 e] 30)).alloc (.cells #[.int .i64 0, .slice none 0 0, .int .i64 0] 30) = V := ⟨_, rfl⟩
  have hx : Blk V w.heap.size 30 (wrC r a n c e) := by rw [← hV]; exact (Blk.new w _ (wrC r a n c e)).alloc _
  have hr : Blk V (w.heap.size + 1) 30 (wrC 0 none 0 0 0) := by rw [← hV]; exact Blk.new1 w _ _ (wrC 0 none 0 0 0)
  have hB : Below w.heap.size w V := by rw [← hV]; exact below2 w _ _
  rw [hV]
  clear hV
  obtain ⟨G, hG⟩ : ∃ G, w.heap.size = G := ⟨_, rfl⟩
  have hIV : Ints .u8 V a n c xs := hI.keep hB
  have hIB := hI.isIn.2
  rw [hG] at hx hr hB ⊢
  have hGH := Lib.hid hG
  clear hG
  refine region_seqS (fun W => Blk W G 30 (wrC r a n c e)) (by kernel_rfl) (show Blk V.drew G 30 (wrC r a n c e) from hx) ?_
  simp only [pairs, Nat.reduceAdd]
  have hx1 : Blk V.drew G 30 (wrC r a n c e) := hx
  have hr1 : Blk V.drew (G + 1) 30 (wrC 0 none 0 0 0) := hr
  have hB1 : Below G w V.drew := Below.drew hB
  have hI1 : Ints .u8 V.drew a n c xs := hIV
  obtain ⟨U, hU⟩ : ∃ U, V.drew = U := ⟨_, rfl⟩
  rw [hU] at hx1 hr1 hB1 hI1 ⊢
  clear hU hx hr hB hIV hI
  repeat (first
    | (refine SeqS.take (v := .agg (wrC r a n c e).toArray) (by first | assumption | trivial) (by kernel_rfl) (by decide +kernel) (by decide +kernel) (yields_blk (by rfl) 30 (.tmp 3) rfl rfl (fun w' h => h) (rowWr)) ?_
       simp only [Act.put, List.setIfInBounds_toArray, List.set_cons_zero, List.set_cons_succ])
    | (refine SeqS.take (v := ?_) (by first | assumption | trivial) (by kernel_rfl) (by decide +kernel) (by decide +kernel) (Or.inl ⟨by rfl, ?_⟩) ?_
       rotate_left
       focus
         intro w' hb'
         go_simp
         with_reducible rfl
       simp only [Act.put, List.setIfInBounds_toArray, List.set_cons_zero, List.set_cons_succ])
    | (refine SeqS.take (v := undef) (by first | assumption | trivial) (by kernel_rfl) (by decide +kernel) (by decide +kernel) (Or.inr ⟨by rfl, rfl⟩) ?_
       simp only [Act.put, List.setIfInBounds_toArray, List.set_cons_zero, List.set_cons_succ])
    | (refine SeqS.take1 (v := .agg (wrC r a n c e).toArray) (by first | assumption | trivial) (by kernel_rfl) (by decide +kernel) (by decide +kernel) (yields_blk (by rfl) 30 (.tmp 3) rfl rfl (fun w' h => h) (rowWr)) ?_
       simp only [Act.put, List.setIfInBounds_toArray, List.set_cons_zero, List.set_cons_succ])
    | (refine SeqS.take1 (v := ?_) (by first | assumption | trivial) (by kernel_rfl) (by decide +kernel) (by decide +kernel) (Or.inl ⟨by rfl, ?_⟩) ?_
       rotate_left
       focus
         intro w' hb'
         go_simp
         with_reducible rfl
       simp only [Act.put, List.setIfInBounds_toArray, List.set_cons_zero, List.set_cons_succ])
    | (refine SeqS.take1 (v := undef) (by first | assumption | trivial) (by kernel_rfl) (by decide +kernel) (by decide +kernel) (Or.inr ⟨by rfl, rfl⟩) ?_
       simp only [Act.put, List.setIfInBounds_toArray, List.set_cons_zero, List.set_cons_succ])
    | (refine SeqS.take2 (v := .agg (wrC r a n c e).toArray) (by first | assumption | trivial) (by kernel_rfl) (by decide +kernel) (by decide +kernel) (yields_blk (by rfl) 30 (.tmp 3) rfl rfl (fun w' h => h) (rowWr)) ?_
       simp only [Act.put, List.setIfInBounds_toArray, List.set_cons_zero, List.set_cons_succ])
    | (refine SeqS.take2 (v := ?_) (by first | assumption | trivial) (by kernel_rfl) (by decide +kernel) (by decide +kernel) (Or.inl ⟨by rfl, ?_⟩) ?_
       rotate_left
       focus
         intro w' hb'
         go_simp
         with_reducible rfl
       simp only [Act.put, List.setIfInBounds_toArray, List.set_cons_zero, List.set_cons_succ])
    | (refine SeqS.take2 (v := undef) (by first | assumption | trivial) (by kernel_rfl) (by decide +kernel) (by decide +kernel) (Or.inr ⟨by rfl, rfl⟩) ?_
       simp only [Act.put, List.setIfInBounds_toArray, List.set_cons_zero, List.set_cons_succ])
    | (refine SeqS.take3 (v := .agg (wrC r a n c e).toArray) (by first | assumption | trivial) (by kernel_rfl) (by decide +kernel) (by decide +kernel) (yields_blk (by rfl) 30 (.tmp 3) rfl rfl (fun w' h => h) (rowWr)) ?_
       simp only [Act.put, List.setIfInBounds_toArray, List.set_cons_zero, List.set_cons_succ])
    | (refine SeqS.take3 (v := ?_) (by first | assumption | trivial) (by kernel_rfl) (by decide +kernel) (by decide +kernel) (Or.inl ⟨by rfl, ?_⟩) ?_
       rotate_left
       focus
         intro w' hb'
         go_simp
         with_reducible rfl
       simp only [Act.put, List.setIfInBounds_toArray, List.set_cons_zero, List.set_cons_succ])
    | (refine SeqS.take3 (v := undef) (by first | assumption | trivial) (by kernel_rfl) (by decide +kernel) (by decide +kernel) (Or.inr ⟨by rfl, rfl⟩) ?_
       simp only [Act.put, List.setIfInBounds_toArray, List.set_cons_zero, List.set_cons_succ]))
  refine SeqS.alone (by decide +kernel) (by rfl) (fun K1 hK1 => ?_)
  go_simp
  refine (rNumber_any N 4 U (by decide)).mono ?_
  rintro q w2 ⟨b, d, rfl, ho, b2⟩
  have hJ2 : Ints .u8 w2 b 4 d (beL N 4) := by
    obtain ⟨a2, c2, hv, hi⟩ := Ints.of_owns ho
    injection hv with e1 _ e2
    subst e1; subst e2
    exact hi
  have hx2 := hx1.keep b2 hx1.lt
  have hr2 := hr1.keep b2 hr1.lt
  have hI2 := hI1.keep b2
  have hB2 := hB1.trans (b2.mono (Nat.le_of_lt hx1.lt))
  clear hx1 hr1 hI1 hB1 ho b2
  go_simp
  refine hK1 _ _ hx2 ?_
  clear hK1 K1
  (try simp only [Act.put, List.setIfInBounds_toArray, List.set_cons_zero, List.set_cons_succ])
  refine SeqS.alone (by decide +kernel) (by rfl) (fun K1 hK1 => ?_)
  go_simp
  refine (rwBytes_any r a b n c 4 d e xs (beL N 4) w2 hI2 hJ2 (by have := hmH.out; omega)).mono ?_
  rintro q w3 ⟨a', n', c', rfl, hI3, hst, b3⟩
  have hx3 := hx2.keep b3 hx2.lt
  have hr3 := hr2.keep b3 hr2.lt
  have hB3 := hB2.trans (b3.mono (Nat.le_of_lt hx2.lt))
  have hne : ∀ x, a' = some x → 0 < n' → x.block ≠ G + 1 := by
    intro x hx h0
    rcases hst with ⟨h1, h2⟩ | h
    · rw [h1] at hx
      rw [h2] at h0
      have := hIB x hx h0
      have := hGH.out
      omega
    · have := h x hx
      have := hr2.lt
      omega
  have hst3 : Stays w a a' n n' := by
    rcases hst with h | h
    · exact .inl h
    · exact .inr fun x hx => by have h1 := h x hx; have h2 := hx2.lt; have h3 := hGH.out; omega
  clear hI2 hJ2 b3 hx2 hr2 hB2 hst
  obtain ⟨E, hE⟩ : ∃ E, (wrStep r xs e (beL N 4)).2 = E := ⟨_, rfl⟩
  obtain ⟨X, hX⟩ : ∃ X, (wrStep r xs e (beL N 4)).1 = X := ⟨_, rfl⟩
  rw [hX] at hI3
  rw [hE]
  have hEH := Lib.hid hE
  have hXH := Lib.hid hX
  clear hE hX
  go_simp
  refine hK1 _ _ hx3 ?_
  clear hK1 K1
  (try simp only [Act.put, List.setIfInBounds_toArray, List.set_cons_zero, List.set_cons_succ])
  refine SeqS.alone (by decide +kernel) (by rfl) (fun K1 hK1 => ?_)
  refine wp_store_part (cs := wrC r a' n' c' E) 30 (.tmp 6) (.tmp 30) rfl rfl rfl hr3 rowWr (by simp [wrC]) (by simp [wrC, Value.oneCell']) (fun w9 hR9 hg9 => ?_)
  have hR9 := hR9.cast (overV_all _ _ (by rfl))
  refine hK1 _ _ (hx3.grown hg9 (by simp)) ?_
  clear hK1 K1
  refine SeqS.done (by decide +kernel) ?_
  go_wp2_with fail
  (try simp only [Exit.inBlock, Exit.then])
  refine bodyPost_ret (results_blk rfl rfl hR9 rowWr) rfl ?_
  refine ⟨a', n', c', by rw [hEH.out]; rfl, ?_, hst3, ?_⟩
  · rw [hXH.out]
    exact hI3.grown hg9 hne
  · rw [hGH.out]
    exact hB3.trans (below_of_grown hg9 (Nat.le_succ _) hr3.lt)

set_option maxRecDepth 100000 in
set_option maxHeartbeats 1000000 in
theorem rwNum_fits5 (r : Int) (a : Option Addr) (n c : Nat) (e N : Int) (xs : List Int) (w : World) (hN : ¬ 1099511627776 ≤ N) (hI : Ints .u8 w a n c xs) (hm : n ≤ 90000000) :
    Calls Try.prog 28 #[.agg #[.int .i64 r, .slice a n c, .int .i64 e], .int .u64 N, .int .i64 5] w fun q w' => ∃ a' n' c', q = .returned (.agg #[.int .i64 r, .slice a' n' c', .int .i64 (wrStep r xs e (beL N 5)).2]) ∧ Ints .u8 w' a' n' c' (wrStep r xs e (beL N 5)).1 ∧ Stays w a a' n n' ∧ Below w.heap.size w w' := by
  have hmH := Lib.hid hm
  clear hm
  go_enter Try.func28, Try.ntmps28
  go_wp2_with fail
  obtain ⟨V, hV⟩ : ∃ V, (w.alloc (.cells #[.int .i64 r, .slice a n c, .int .i64 e] 30)).alloc (.cells #[.int .i64 0, .slice none 0 0, .int .i64 0] 30) = V := ⟨_, rfl⟩
  have hx : Blk V w.heap.size 30 (wrC r a n c e) := by rw [← hV]; exact (Blk.new w _ (wrC r a n c e)).alloc _
  have hr : Blk V (w.heap.size + 1) 30 (wrC 0 none 0 0 0) := by rw [← hV]; exact Blk.new1 w _ _ (wrC 0 none 0 0 0)
  have hB : Below w.heap.size w V := by rw [← hV]; exact below2 w _ _
  rw [hV]
  clear hV
  obtain ⟨G, hG⟩ : ∃ G, w.heap.size = G := ⟨_, rfl⟩
  have hIV : Ints .u8 V a n c xs := hI.keep hB
  have hIB := hI.isIn.2
  rw [hG] at hx hr hB ⊢
  have hGH := Lib.hid hG
  clear hG
  refine region_seqS (fun W => Blk W G 30 (wrC r a n c e)) (by kernel_rfl) (show Blk V.drew G 30 (wrC r a n c e) from hx) ?_
  simp only [pairs, Nat.reduceAdd]
  have hx1 : Blk V.drew G 30 (wrC r a n c e) := hx
  have hr1 : Blk V.drew (G + 1) 30 (wrC 0 none 0 0 0) := hr
  have hB1 : Below G w V.drew := Below.drew hB
  have hI1 : Ints .u8 V.drew a n c xs := hIV
  obtain ⟨U, hU⟩ : ∃ U, V.drew = U := ⟨_, rfl⟩
  rw [hU] at hx1 hr1 hB1 hI1 ⊢
  clear hU hx hr hB hIV hI
  repeat (first
    | (refine SeqS.take (v := .agg (wrC r a n c e).toArray) (by first | assumption | trivial) (by kernel_rfl) (by decide +kernel) (by decide +kernel) (yields_blk (by rfl) 30 (.tmp 3) rfl rfl (fun w' h => h) (rowWr)) ?_
       simp only [Act.put, List.setIfInBounds_toArray, List.set_cons_zero, List.set_cons_succ])
    | (refine SeqS.take (v := ?_) (by first | assumption | trivial) (by kernel_rfl) (by decide +kernel) (by decide +kernel) (Or.inl ⟨by rfl, ?_⟩) ?_
       rotate_left
       focus
         intro w' hb'
         go_simp
         with_reducible rfl
       simp only [Act.put, List.setIfInBounds_toArray, List.set_cons_zero, List.set_cons_succ])
    | (refine SeqS.take (v := undef) (by first | assumption | trivial) (by kernel_rfl) (by decide +kernel) (by decide +kernel) (Or.inr ⟨by rfl, rfl⟩) ?_
       simp only [Act.put, List.setIfInBounds_toArray, List.set_cons_zero, List.set_cons_succ])
    | (refine SeqS.take1 (v := .agg (wrC r a n c e).toArray) (by first | assumption | trivial) (by kernel_rfl) (by decide +kernel) (by decide +kernel) (yields_blk (by rfl) 30 (.tmp 3) rfl rfl (fun w' h => h) (rowWr)) ?_
       simp only [Act.put, List.setIfInBounds_toArray, List.set_cons_zero, List.set_cons_succ])
    | (refine SeqS.take1 (v := ?_) (by first | assumption | trivial) (by kernel_rfl) (by decide +kernel) (by decide +kernel) (Or.inl ⟨by rfl, ?_⟩) ?_
       rotate_left
       focus
         intro w' hb'
         go_simp
         with_reducible rfl
       simp only [Act.put, List.setIfInBounds_toArray, List.set_cons_zero, List.set_cons_succ])
    | (refine SeqS.take1 (v := undef) (by first | assumption | trivial) (by kernel_rfl) (by decide +kernel) (by decide +kernel) (Or.inr ⟨by rfl, rfl⟩) ?_
       simp only [Act.put, List.setIfInBounds_toArray, List.set_cons_zero, List.set_cons_succ])
    | (refine SeqS.take2 (v := .agg (wrC r a n c e).toArray) (by first | assumption | trivial) (by kernel_rfl) (by decide +kernel) (by decide +kernel) (yields_blk (by rfl) 30 (.tmp 3) rfl rfl (fun w' h => h) (rowWr)) ?_
       simp only [Act.put, List.setIfInBounds_toArray, List.set_cons_zero, List.set_cons_succ])
    | (refine SeqS.take2 (v := ?_) (by first | assumption | trivial) (by kernel_rfl) (by decide +kernel) (by decide +kernel) (Or.inl ⟨by rfl, ?_⟩) ?_
       rotate_left
       focus
         intro w' hb'
         go_simp
         with_reducible rfl
       simp only [Act.put, List.setIfInBounds_toArray, List.set_cons_zero, List.set_cons_succ])
    | (refine SeqS.take2 (v := undef) (by first | assumption | trivial) (by kernel_rfl) (by decide +kernel) (by decide +kernel) (Or.inr ⟨by rfl, rfl⟩) ?_
       simp only [Act.put, List.setIfInBounds_toArray, List.set_cons_zero, List.set_cons_succ])
    | (refine SeqS.take3 (v := .agg (wrC r a n c e).toArray) (by first | assumption | trivial) (by kernel_rfl) (by decide +kernel) (by decide +kernel) (yields_blk (by rfl) 30 (.tmp 3) rfl rfl (fun w' h => h) (rowWr)) ?_
       simp only [Act.put, List.setIfInBounds_toArray, List.set_cons_zero, List.set_cons_succ])
    | (refine SeqS.take3 (v := ?_) (by first | assumption | trivial) (by kernel_rfl) (by decide +kernel) (by decide +kernel) (Or.inl ⟨by rfl, ?_⟩) ?_
       rotate_left
       focus
         intro w' hb'
         go_simp
         with_reducible rfl
       simp only [Act.put, List.setIfInBounds_toArray, List.set_cons_zero, List.set_cons_succ])
    | (refine SeqS.take3 (v := undef) (by first | assumption | trivial) (by kernel_rfl) (by decide +kernel) (by decide +kernel) (Or.inr ⟨by rfl, rfl⟩) ?_
       simp only [Act.put, List.setIfInBounds_toArray, List.set_cons_zero, List.set_cons_succ]))
  refine SeqS.alone (by decide +kernel) (by rfl) (fun K1 hK1 => ?_)
  go_simp
  refine (rNumber_any N 5 U (by decide)).mono ?_
  rintro q w2 ⟨b, d, rfl, ho, b2⟩
  have hJ2 : Ints .u8 w2 b 5 d (beL N 5) := by
    obtain ⟨a2, c2, hv, hi⟩ := Ints.of_owns ho
    injection hv with e1 _ e2
    subst e1; subst e2
    exact hi
  have hx2 := hx1.keep b2 hx1.lt
  have hr2 := hr1.keep b2 hr1.lt
  have hI2 := hI1.keep b2
  have hB2 := hB1.trans (b2.mono (Nat.le_of_lt hx1.lt))
  clear hx1 hr1 hI1 hB1 ho b2
  go_simp
  refine hK1 _ _ hx2 ?_
  clear hK1 K1
  (try simp only [Act.put, List.setIfInBounds_toArray, List.set_cons_zero, List.set_cons_succ])
  refine SeqS.alone (by decide +kernel) (by rfl) (fun K1 hK1 => ?_)
  go_simp
  refine (rwBytes_any r a b n c 5 d e xs (beL N 5) w2 hI2 hJ2 (by have := hmH.out; omega)).mono ?_
  rintro q w3 ⟨a', n', c', rfl, hI3, hst, b3⟩
  have hx3 := hx2.keep b3 hx2.lt
  have hr3 := hr2.keep b3 hr2.lt
  have hB3 := hB2.trans (b3.mono (Nat.le_of_lt hx2.lt))
  have hne : ∀ x, a' = some x → 0 < n' → x.block ≠ G + 1 := by
    intro x hx h0
    rcases hst with ⟨h1, h2⟩ | h
    · rw [h1] at hx
      rw [h2] at h0
      have := hIB x hx h0
      have := hGH.out
      omega
    · have := h x hx
      have := hr2.lt
      omega
  have hst3 : Stays w a a' n n' := by
    rcases hst with h | h
    · exact .inl h
    · exact .inr fun x hx => by have h1 := h x hx; have h2 := hx2.lt; have h3 := hGH.out; omega
  clear hI2 hJ2 b3 hx2 hr2 hB2 hst
  obtain ⟨E, hE⟩ : ∃ E, (wrStep r xs e (beL N 5)).2 = E := ⟨_, rfl⟩
  obtain ⟨X, hX⟩ : ∃ X, (wrStep r xs e (beL N 5)).1 = X := ⟨_, rfl⟩
  rw [hX] at hI3
  rw [hE]
  have hEH := Lib.hid hE
  have hXH := Lib.hid hX
  clear hE hX
  go_simp
  refine hK1 _ _ hx3 ?_
  clear hK1 K1
  (try simp only [Act.put, List.setIfInBounds_toArray, List.set_cons_zero, List.set_cons_succ])
  refine SeqS.alone (by decide +kernel) (by rfl) (fun K1 hK1 => ?_)
  refine wp_store_part (cs := wrC r a' n' c' E) 30 (.tmp 6) (.tmp 30) rfl rfl rfl hr3 rowWr (by simp [wrC]) (by simp [wrC, Value.oneCell']) (fun w9 hR9 hg9 => ?_)
  have hR9 := hR9.cast (overV_all _ _ (by rfl))
  refine hK1 _ _ (hx3.grown hg9 (by simp)) ?_
  clear hK1 K1
  refine SeqS.done (by decide +kernel) ?_
  go_wp2_with fail
  (try simp only [Exit.inBlock, Exit.then])
  refine bodyPost_ret (results_blk rfl rfl hR9 rowWr) rfl ?_
  refine ⟨a', n', c', by rw [hEH.out]; rfl, ?_, hst3, ?_⟩
  · rw [hXH.out]
    exact hI3.grown hg9 hne
  · rw [hGH.out]
    exact hB3.trans (below_of_grown hg9 (Nat.le_succ _) hr3.lt)

set_option maxRecDepth 100000 in
set_option maxHeartbeats 1000000 in
theorem rwNum_fits6 (r : Int) (a : Option Addr) (n c : Nat) (e N : Int) (xs : List Int) (w : World) (hN : ¬ 281474976710656 ≤ N) (hI : Ints .u8 w a n c xs) (hm : n ≤ 90000000) :
    Calls Try.prog 28 #[.agg #[.int .i64 r, .slice a n c, .int .i64 e], .int .u64 N, .int .i64 6] w fun q w' => ∃ a' n' c', q = .returned (.agg #[.int .i64 r, .slice a' n' c', .int .i64 (wrStep r xs e (beL N 6)).2]) ∧ Ints .u8 w' a' n' c' (wrStep r xs e (beL N 6)).1 ∧ Stays w a a' n n' ∧ Below w.heap.size w w' := by
  have hmH := Lib.hid hm
  clear hm
  go_enter Try.func28, Try.ntmps28
  go_wp2_with fail
  obtain ⟨V, hV⟩ : ∃ V, (w.alloc (.cells #[.int .i64 r, .slice a n c, .int .i64 e] 30)).alloc (.cells #[.int .i64 0, .slice none 0 0, .int .i64 0] 30) = V := ⟨_, rfl⟩
  have hx : Blk V w.heap.size 30 (wrC r a n c e) := by rw [← hV]; exact (Blk.new w _ (wrC r a n c e)).alloc _
  have hr : Blk V (w.heap.size + 1) 30 (wrC 0 none 0 0 0) := by rw [← hV]; exact Blk.new1 w _ _ (wrC 0 none 0 0 0)
  have hB : Below w.heap.size w V := by rw [← hV]; exact below2 w _ _
  rw [hV]
  clear hV
  obtain ⟨G, hG⟩ : ∃ G, w.heap.size = G := ⟨_, rfl⟩
  have hIV : Ints .u8 V a n c xs := hI.keep hB
  have hIB := hI.isIn.2
  rw [hG] at hx hr hB ⊢
  have hGH := Lib.hid hG
  clear hG
  refine region_seqS (fun W => Blk W G 30 (wrC r a n c e)) (by kernel_rfl) (show Blk V.drew G 30 (wrC r a n c e) from hx) ?_
  simp only [pairs, Nat.reduceAdd]
  have hx1 : Blk V.drew G 30 (wrC r a n c e) := hx
  have hr1 : Blk V.drew (G + 1) 30 (wrC 0 none 0 0 0) := hr
  have hB1 : Below G w V.drew := Below.drew hB
  have hI1 : Ints .u8 V.drew a n c xs := hIV
  obtain ⟨U, hU⟩ : ∃ U, V.drew = U := ⟨_, rfl⟩
  rw [hU] at hx1 hr1 hB1 hI1 ⊢
  clear hU hx hr hB hIV hI
  repeat (first
    | (refine SeqS.take (v := .agg (wrC r a n c e).toArray) (by first | assumption | trivial) (by kernel_rfl) (by decide +kernel) (by decide +kernel) (yields_blk (by rfl) 30 (.tmp 3) rfl rfl (fun w' h => h) (rowWr)) ?_
       simp only [Act.put, List.setIfInBounds_toArray, List.set_cons_zero, List.set_cons_succ])
    | (refine SeqS.take (v := ?_) (by first | assumption | trivial) (by kernel_rfl) (by decide +kernel) (by decide +kernel) (Or.inl ⟨by rfl, ?_⟩) ?_
       rotate_left
       focus
         intro w' hb'
         go_simp
         with_reducible rfl
       simp only [Act.put, List.setIfInBounds_toArray, List.set_cons_zero, List.set_cons_succ])
    | (refine SeqS.take (v := undef) (by first | assumption | trivial) (by kernel_rfl) (by decide +kernel) (by decide +kernel) (Or.inr ⟨by rfl, rfl⟩) ?_
       simp only [Act.put, List.setIfInBounds_toArray, List.set_cons_zero, List.set_cons_succ])
    | (refine SeqS.take1 (v := .agg (wrC r a n c e).toArray) (by first | assumption | trivial) (by kernel_rfl) (by decide +kernel) (by decide +kernel) (yields_blk (by rfl) 30 (.tmp 3) rfl rfl (fun w' h => h) (rowWr)) ?_
       simp only [Act.put, List.setIfInBounds_toArray, List.set_cons_zero, List.set_cons_succ])
    | (refine SeqS.take1 (v := ?_) (by first | assumption | trivial) (by kernel_rfl) (by decide +kernel) (by decide +kernel) (Or.inl ⟨by rfl, ?_⟩) ?_
       rotate_left
       focus
         intro w' hb'
         go_simp
         with_reducible rfl
       simp only [Act.put, List.setIfInBounds_toArray, List.set_cons_zero, List.set_cons_succ])
    | (refine SeqS.take1 (v := undef) (by first | assumption | trivial) (by kernel_rfl) (by decide +kernel) (by decide +kernel) (Or.inr ⟨by rfl, rfl⟩) ?_
       simp only [Act.put, List.setIfInBounds_toArray, List.set_cons_zero, List.set_cons_succ])
    | (refine SeqS.take2 (v := .agg (wrC r a n c e).toArray) (by first | assumption | trivial) (by kernel_rfl) (by decide +kernel) (by decide +kernel) (yields_blk (by rfl) 30 (.tmp 3) rfl rfl (fun w' h => h) (rowWr)) ?_
       simp only [Act.put, List.setIfInBounds_toArray, List.set_cons_zero, List.set_cons_succ])
    | (refine SeqS.take2 (v := ?_) (by first | assumption | trivial) (by kernel_rfl) (by decide +kernel) (by decide +kernel) (Or.inl ⟨by rfl, ?_⟩) ?_
       rotate_left
       focus
         intro w' hb'
         go_simp
         with_reducible rfl
       simp only [Act.put, List.setIfInBounds_toArray, List.set_cons_zero, List.set_cons_succ])
    | (refine SeqS.take2 (v := undef) (by first | assumption | trivial) (by kernel_rfl) (by decide +kernel) (by decide +kernel) (Or.inr ⟨by rfl, rfl⟩) ?_
       simp only [Act.put, List.setIfInBounds_toArray, List.set_cons_zero, List.set_cons_succ])
    | (refine SeqS.take3 (v := .agg (wrC r a n c e).toArray) (by first | assumption | trivial) (by kernel_rfl) (by decide +kernel) (by decide +kernel) (yields_blk (by rfl) 30 (.tmp 3) rfl rfl (fun w' h => h) (rowWr)) ?_
       simp only [Act.put, List.setIfInBounds_toArray, List.set_cons_zero, List.set_cons_succ])
    | (refine SeqS.take3 (v := ?_) (by first | assumption | trivial) (by kernel_rfl) (by decide +kernel) (by decide +kernel) (Or.inl ⟨by rfl, ?_⟩) ?_
       rotate_left
       focus
         intro w' hb'
         go_simp
         with_reducible rfl
       simp only [Act.put, List.setIfInBounds_toArray, List.set_cons_zero, List.set_cons_succ])
    | (refine SeqS.take3 (v := undef) (by first | assumption | trivial) (by kernel_rfl) (by decide +kernel) (by decide +kernel) (Or.inr ⟨by rfl, rfl⟩) ?_
       simp only [Act.put, List.setIfInBounds_toArray, List.set_cons_zero, List.set_cons_succ]))
  refine SeqS.alone (by decide +kernel) (by rfl) (fun K1 hK1 => ?_)
  go_simp
  refine (rNumber_any N 6 U (by decide)).mono ?_
  rintro q w2 ⟨b, d, rfl, ho, b2⟩
  have hJ2 : Ints .u8 w2 b 6 d (beL N 6) := by
    obtain ⟨a2, c2, hv, hi⟩ := Ints.of_owns ho
    injection hv with e1 _ e2
    subst e1; subst e2
    exact hi
  have hx2 := hx1.keep b2 hx1.lt
  have hr2 := hr1.keep b2 hr1.lt
  have hI2 := hI1.keep b2
  have hB2 := hB1.trans (b2.mono (Nat.le_of_lt hx1.lt))
  clear hx1 hr1 hI1 hB1 ho b2
  go_simp
  refine hK1 _ _ hx2 ?_
  clear hK1 K1
  (try simp only [Act.put, List.setIfInBounds_toArray, List.set_cons_zero, List.set_cons_succ])
  refine SeqS.alone (by decide +kernel) (by rfl) (fun K1 hK1 => ?_)
  go_simp
  refine (rwBytes_any r a b n c 6 d e xs (beL N 6) w2 hI2 hJ2 (by have := hmH.out; omega)).mono ?_
  rintro q w3 ⟨a', n', c', rfl, hI3, hst, b3⟩
  have hx3 := hx2.keep b3 hx2.lt
  have hr3 := hr2.keep b3 hr2.lt
  have hB3 := hB2.trans (b3.mono (Nat.le_of_lt hx2.lt))
  have hne : ∀ x, a' = some x → 0 < n' → x.block ≠ G + 1 := by
    intro x hx h0
    rcases hst with ⟨h1, h2⟩ | h
    · rw [h1] at hx
      rw [h2] at h0
      have := hIB x hx h0
      have := hGH.out
      omega
    · have := h x hx
      have := hr2.lt
      omega
  have hst3 : Stays w a a' n n' := by
    rcases hst with h | h
    · exact .inl h
    · exact .inr fun x hx => by have h1 := h x hx; have h2 := hx2.lt; have h3 := hGH.out; omega
  clear hI2 hJ2 b3 hx2 hr2 hB2 hst
  obtain ⟨E, hE⟩ : ∃ E, (wrStep r xs e (beL N 6)).2 = E := ⟨_, rfl⟩
  obtain ⟨X, hX⟩ : ∃ X, (wrStep r xs e (beL N 6)).1 = X := ⟨_, rfl⟩
  rw [hX] at hI3
  rw [hE]
  have hEH := Lib.hid hE
  have hXH := Lib.hid hX
  clear hE hX
  go_simp
  refine hK1 _ _ hx3 ?_
  clear hK1 K1
  (try simp only [Act.put, List.setIfInBounds_toArray, List.set_cons_zero, List.set_cons_succ])
  refine SeqS.alone (by decide +kernel) (by rfl) (fun K1 hK1 => ?_)
  refine wp_store_part (cs := wrC r a' n' c' E) 30 (.tmp 6) (.tmp 30) rfl rfl rfl hr3 rowWr (by simp [wrC]) (by simp [wrC, Value.oneCell']) (fun w9 hR9 hg9 => ?_)
  have hR9 := hR9.cast (overV_all _ _ (by rfl))
  refine hK1 _ _ (hx3.grown hg9 (by simp)) ?_
  clear hK1 K1
  refine SeqS.done (by decide +kernel) ?_
  go_wp2_with fail
  (try simp only [Exit.inBlock, Exit.then])
  refine bodyPost_ret (results_blk rfl rfl hR9 rowWr) rfl ?_
  refine ⟨a', n', c', by rw [hEH.out]; rfl, ?_, hst3, ?_⟩
  · rw [hXH.out]
    exact hI3.grown hg9 hne
  · rw [hGH.out]
    exact hB3.trans (below_of_grown hg9 (Nat.le_succ _) hr3.lt)

set_option maxRecDepth 100000 in
set_option maxHeartbeats 1000000 in
theorem rwNum_fits7 (r : Int) (a : Option Addr) (n c : Nat) (e N : Int) (xs : List Int) (w : World) (hN : ¬ 72057594037927936 ≤ N) (hI : Ints .u8 w a n c xs) (hm : n ≤ 90000000) :
    Calls Try.prog 28 #[.agg #[.int .i64 r, .slice a n c, .int .i64 e], .int .u64 N, .int .i64 7] w fun q w' => ∃ a' n' c', q = .returned (.agg #[.int .i64 r, .slice a' n' c', .int .i64 (wrStep r xs e (beL N 7)).2]) ∧ Ints .u8 w' a' n' c' (wrStep r xs e (beL N 7)).1 ∧ Stays w a a' n n' ∧ Below w.heap.size w w' := by
  have hmH := Lib.hid hm
  clear hm
  go_enter Try.func28, Try.ntmps28
  go_wp2_with fail
  obtain ⟨V, hV⟩ : ∃ V, (w.alloc (.cells #[.int .i64 r, .slice a n c, .int .i64 e] 30)).alloc (.cells #[.int .i64 0, .slice none 0 0, .int .i64 0] 30) = V := ⟨_, rfl⟩
  have hx : Blk V w.heap.size 30 (wrC r a n c e) := by rw [← hV]; exact (Blk.new w _ (wrC r a n c e)).alloc _
  have hr : Blk V (w.heap.size + 1) 30 (wrC 0 none 0 0 0) := by rw [← hV]; exact Blk.new1 w _ _ (wrC 0 none 0 0 0)
  have hB : Below w.heap.size w V := by rw [← hV]; exact below2 w _ _
  rw [hV]
  clear hV
  obtain ⟨G, hG⟩ : ∃ G, w.heap.size = G := ⟨_, rfl⟩
  have hIV : Ints .u8 V a n c xs := hI.keep hB
  have hIB := hI.isIn.2
  rw [hG] at hx hr hB ⊢
  have hGH := Lib.hid hG
  clear hG
  refine region_seqS (fun W => Blk W G 30 (wrC r a n c e)) (by kernel_rfl) (show Blk V.drew G 30 (wrC r a n c e) from hx) ?_
  simp only [pairs, Nat.reduceAdd]
  have hx1 : Blk V.drew G 30 (wrC r a n c e) := hx
  have hr1 : Blk V.drew (G + 1) 30 (wrC 0 none 0 0 0) := hr
  have hB1 : Below G w V.drew := Below.drew hB
  have hI1 : Ints .u8 V.drew a n c xs := hIV
  obtain ⟨U, hU⟩ : ∃ U, V.drew = U := ⟨_, rfl⟩
  rw [hU] at hx1 hr1 hB1 hI1 ⊢
  clear hU hx hr hB hIV hI
  repeat (first
    | (refine SeqS.take (v := .agg (wrC r a n c e).toArray) (by first | assumption | trivial) (by kernel_rfl) (by decide +kernel) (by decide +kernel) (yields_blk (by rfl) 30 (.tmp 3) rfl rfl (fun w' h => h) (rowWr)) ?_
       simp only [Act.put, List.setIfInBounds_toArray, List.set_cons_zero, List.set_cons_succ])
    | (refine SeqS.take (v := ?_) (by first | assumption | trivial) (by kernel_rfl) (by decide +kernel) (by decide +kernel) (Or.inl ⟨by rfl, ?_⟩) ?_
       rotate_left
       focus
         intro w' hb'
         go_simp
         with_reducible rfl
       simp only [Act.put, List.setIfInBounds_toArray, List.set_cons_zero, List.set_cons_succ])
    | (refine SeqS.take (v := undef) (by first | assumption | trivial) (by kernel_rfl) (by decide +kernel) (by decide +kernel) (Or.inr ⟨by rfl, rfl⟩) ?_
       simp only [Act.put, List.setIfInBounds_toArray, List.set_cons_zero, List.set_cons_succ])
    | (refine SeqS.take1 (v := .agg (wrC r a n c e).toArray) (by first | assumption | trivial) (by kernel_rfl) (by decide +kernel) (by decide +kernel) (yields_blk (by rfl) 30 (.tmp 3) rfl rfl (fun w' h => h) (rowWr)) ?_
       simp only [Act.put, List.setIfInBounds_toArray, List.set_cons_zero, List.set_cons_succ])
    | (refine SeqS.take1 (v := ?_) (by first | assumption | trivial) (by kernel_rfl) (by decide +kernel) (by decide +kernel) (Or.inl ⟨by rfl, ?_⟩) ?_
       rotate_left
       focus
         intro w' hb'
         go_simp
         with_reducible rfl
       simp only [Act.put, List.setIfInBounds_toArray, List.set_cons_zero, List.set_cons_succ])
    | (refine SeqS.take1 (v := undef) (by first | assumption | trivial) (by kernel_rfl) (by decide +kernel) (by decide +kernel) (Or.inr ⟨by rfl, rfl⟩) ?_
       simp only [Act.put, List.setIfInBounds_toArray, List.set_cons_zero, List.set_cons_succ])
    | (refine SeqS.take2 (v := .agg (wrC r a n c e).toArray) (by first | assumption | trivial) (by kernel_rfl) (by decide +kernel) (by decide +kernel) (yields_blk (by rfl) 30 (.tmp 3) rfl rfl (fun w' h => h) (rowWr)) ?_
       simp only [Act.put, List.setIfInBounds_toArray, List.set_cons_zero, List.set_cons_succ])
    | (refine SeqS.take2 (v := ?_) (by first | assumption | trivial) (by kernel_rfl) (by decide +kernel) (by decide +kernel) (Or.inl ⟨by rfl, ?_⟩) ?_
       rotate_left
       focus
         intro w' hb'
         go_simp
         with_reducible rfl
       simp only [Act.put, List.setIfInBounds_toArray, List.set_cons_zero, List.set_cons_succ])
    | (refine SeqS.take2 (v := undef) (by first | assumption | trivial) (by kernel_rfl) (by decide +kernel) (by decide +kernel) (Or.inr ⟨by rfl, rfl⟩) ?_
       simp only [Act.put, List.setIfInBounds_toArray, List.set_cons_zero, List.set_cons_succ])
    | (refine SeqS.take3 (v := .agg (wrC r a n c e).toArray) (by first | assumption | trivial) (by kernel_rfl) (by decide +kernel) (by decide +kernel) (yields_blk (by rfl) 30 (.tmp 3) rfl rfl (fun w' h => h) (rowWr)) ?_
       simp only [Act.put, List.setIfInBounds_toArray, List.set_cons_zero, List.set_cons_succ])
    | (refine SeqS.take3 (v := ?_) (by first | assumption | trivial) (by kernel_rfl) (by decide +kernel) (by decide +kernel) (Or.inl ⟨by rfl, ?_⟩) ?_
       rotate_left
       focus
         intro w' hb'
         go_simp
         with_reducible rfl
       simp only [Act.put, List.setIfInBounds_toArray, List.set_cons_zero, List.set_cons_succ])
    | (refine SeqS.take3 (v := undef) (by first | assumption | trivial) (by kernel_rfl) (by decide +kernel) (by decide +kernel) (Or.inr ⟨by rfl, rfl⟩) ?_
       simp only [Act.put, List.setIfInBounds_toArray, List.set_cons_zero, List.set_cons_succ]))
  refine SeqS.alone (by decide +kernel) (by rfl) (fun K1 hK1 => ?_)
  go_simp
  refine (rNumber_any N 7 U (by decide)).mono ?_
  rintro q w2 ⟨b, d, rfl, ho, b2⟩
  have hJ2 : Ints .u8 w2 b 7 d (beL N 7) := by
    obtain ⟨a2, c2, hv, hi⟩ := Ints.of_owns ho
    injection hv with e1 _ e2
    subst e1; subst e2
    exact hi
  have hx2 := hx1.keep b2 hx1.lt
  have hr2 := hr1.keep b2 hr1.lt
  have hI2 := hI1.keep b2
  have hB2 := hB1.trans (b2.mono (Nat.le_of_lt hx1.lt))
  clear hx1 hr1 hI1 hB1 ho b2
  go_simp
  refine hK1 _ _ hx2 ?_
  clear hK1 K1
  (try simp only [Act.put, List.setIfInBounds_toArray, List.set_cons_zero, List.set_cons_succ])
  refine SeqS.alone (by decide +kernel) (by rfl) (fun K1 hK1 => ?_)
  go_simp
  refine (rwBytes_any r a b n c 7 d e xs (beL N 7) w2 hI2 hJ2 (by have := hmH.out; omega)).mono ?_
  rintro q w3 ⟨a', n', c', rfl, hI3, hst, b3⟩
  have hx3 := hx2.keep b3 hx2.lt
  have hr3 := hr2.keep b3 hr2.lt
  have hB3 := hB2.trans (b3.mono (Nat.le_of_lt hx2.lt))
  have hne : ∀ x, a' = some x → 0 < n' → x.block ≠ G + 1 := by
    intro x hx h0
    rcases hst with ⟨h1, h2⟩ | h
    · rw [h1] at hx
      rw [h2] at h0
      have := hIB x hx h0
      have := hGH.out
      omega
    · have := h x hx
      have := hr2.lt
      omega
  have hst3 : Stays w a a' n n' := by
    rcases hst with h | h
    · exact .inl h
    · exact .inr fun x hx => by have h1 := h x hx; have h2 := hx2.lt; have h3 := hGH.out; omega
  clear hI2 hJ2 b3 hx2 hr2 hB2 hst
  obtain ⟨E, hE⟩ : ∃ E, (wrStep r xs e (beL N 7)).2 = E := ⟨_, rfl⟩
  obtain ⟨X, hX⟩ : ∃ X, (wrStep r xs e (beL N 7)).1 = X := ⟨_, rfl⟩
  rw [hX] at hI3
  rw [hE]
  have hEH := Lib.hid hE
  have hXH := Lib.hid hX
  clear hE hX
  go_simp
  refine hK1 _ _ hx3 ?_
  clear hK1 K1
  (try simp only [Act.put, List.setIfInBounds_toArray, List.set_cons_zero, List.set_cons_succ])
  refine SeqS.alone (by decide +kernel) (by rfl) (fun K1 hK1 => ?_)
  refine wp_store_part (cs := wrC r a' n' c' E) 30 (.tmp 6) (.tmp 30) rfl rfl rfl hr3 rowWr (by simp [wrC]) (by simp [wrC, Value.oneCell']) (fun w9 hR9 hg9 => ?_)
  have hR9 := hR9.cast (overV_all _ _ (by rfl))
  refine hK1 _ _ (hx3.grown hg9 (by simp)) ?_
  clear hK1 K1
  refine SeqS.done (by decide +kernel) ?_
  go_wp2_with fail
  (try simp only [Exit.inBlock, Exit.then])
  refine bodyPost_ret (results_blk rfl rfl hR9 rowWr) rfl ?_
  refine ⟨a', n', c', by rw [hEH.out]; rfl, ?_, hst3, ?_⟩
  · rw [hXH.out]
    exact hI3.grown hg9 hne
  · rw [hGH.out]
    exact hB3.trans (below_of_grown hg9 (Nat.le_succ _) hr3.lt)

set_option maxRecDepth 100000 in
set_option maxHeartbeats 1000000 in
theorem rwNum_fits8 (r : Int) (a : Option Addr) (n c : Nat) (e N : Int) (xs : List Int) (w : World) (hI : Ints .u8 w a n c xs) (hm : n ≤ 90000000) :
    Calls Try.prog 28 #[.agg #[.int .i64 r, .slice a n c, .int .i64 e], .int .u64 N, .int .i64 8] w fun q w' => ∃ a' n' c', q = .returned (.agg #[.int .i64 r, .slice a' n' c', .int .i64 (wrStep r xs e (beL N 8)).2]) ∧ Ints .u8 w' a' n' c' (wrStep r xs e (beL N 8)).1 ∧ Stays w a a' n n' ∧ Below w.heap.size w w' := by
  have hmH := Lib.hid hm
  clear hm
  go_enter Try.func28, Try.ntmps28
  go_wp2_with fail
  obtain ⟨V, hV⟩ : ∃ V, (w.alloc (.cells #[.int .i64 r, .slice a n c, .int .i64 e] 30)).alloc (.cells #[.int .i64 0, .slice none 0 0, .int .i64 0] 30) = V := ⟨_, rfl⟩
  have hx : Blk V w.heap.size 30 (wrC r a n c e) := by rw [← hV]; exact (Blk.new w _ (wrC r a n c e)).alloc _
  have hr : Blk V (w.heap.size + 1) 30 (wrC 0 none 0 0 0) := by rw [← hV]; exact Blk.new1 w _ _ (wrC 0 none 0 0 0)
  have hB : Below w.heap.size w V := by rw [← hV]; exact below2 w _ _
  rw [hV]
  clear hV
  obtain ⟨G, hG⟩ : ∃ G, w.heap.size = G := ⟨_, rfl⟩
  have hIV : Ints .u8 V a n c xs := hI.keep hB
  have hIB := hI.isIn.2
  rw [hG] at hx hr hB ⊢
  have hGH := Lib.hid hG
  clear hG
  refine region_seqS (fun W => Blk W G 30 (wrC r a n c e)) (by kernel_rfl) (show Blk V.drew G 30 (wrC r a n c e) from hx) ?_
  simp only [pairs, Nat.reduceAdd]
  have hx1 : Blk V.drew G 30 (wrC r a n c e) := hx
  have hr1 : Blk V.drew (G + 1) 30 (wrC 0 none 0 0 0) := hr
  have hB1 : Below G w V.drew := Below.drew hB
  have hI1 : Ints .u8 V.drew a n c xs := hIV
  obtain ⟨U, hU⟩ : ∃ U, V.drew = U := ⟨_, rfl⟩
  rw [hU] at hx1 hr1 hB1 hI1 ⊢
  clear hU hx hr hB hIV hI
  repeat (first
    | (refine SeqS.take (v := .agg (wrC r a n c e).toArray) (by first | assumption | trivial) (by kernel_rfl) (by decide +kernel) (by decide +kernel) (yields_blk (by rfl) 30 (.tmp 3) rfl rfl (fun w' h => h) (rowWr)) ?_
       simp only [Act.put, List.setIfInBounds_toArray, List.set_cons_zero, List.set_cons_succ])
    | (refine SeqS.take (v := ?_) (by first | assumption | trivial) (by kernel_rfl) (by decide +kernel) (by decide +kernel) (Or.inl ⟨by rfl, ?_⟩) ?_
       rotate_left
       focus
         intro w' hb'
         go_simp
         with_reducible rfl
       simp only [Act.put, List.setIfInBounds_toArray, List.set_cons_zero, List.set_cons_succ])
    | (refine SeqS.take (v := undef) (by first | assumption | trivial) (by kernel_rfl) (by decide +kernel) (by decide +kernel) (Or.inr ⟨by rfl, rfl⟩) ?_
       simp only [Act.put, List.setIfInBounds_toArray, List.set_cons_zero, List.set_cons_succ])
    | (refine SeqS.take1 (v := .agg (wrC r a n c e).toArray) (by first | assumption | trivial) (by kernel_rfl) (by decide +kernel) (by decide +kernel) (yields_blk (by rfl) 30 (.tmp 3) rfl rfl (fun w' h => h) (rowWr)) ?_
       simp only [Act.put, List.setIfInBounds_toArray, List.set_cons_zero, List.set_cons_succ])
    | (refine SeqS.take1 (v := ?_) (by first | assumption | trivial) (by kernel_rfl) (by decide +kernel) (by decide +kernel) (Or.inl ⟨by rfl, ?_⟩) ?_
       rotate_left
       focus
         intro w' hb'
         go_simp
         with_reducible rfl
       simp only [Act.put, List.setIfInBounds_toArray, List.set_cons_zero, List.set_cons_succ])
    | (refine SeqS.take1 (v := undef) (by first | assumption | trivial) (by kernel_rfl) (by decide +kernel) (by decide +kernel) (Or.inr ⟨by rfl, rfl⟩) ?_
       simp only [Act.put, List.setIfInBounds_toArray, List.set_cons_zero, List.set_cons_succ])
    | (refine SeqS.take2 (v := .agg (wrC r a n c e).toArray) (by first | assumption | trivial) (by kernel_rfl) (by decide +kernel) (by decide +kernel) (yields_blk (by rfl) 30 (.tmp 3) rfl rfl (fun w' h => h) (rowWr)) ?_
       simp only [Act.put, List.setIfInBounds_toArray, List.set_cons_zero, List.set_cons_succ])
    | (refine SeqS.take2 (v := ?_) (by first | assumption | trivial) (by kernel_rfl) (by decide +kernel) (by decide +kernel) (Or.inl ⟨by rfl, ?_⟩) ?_
       rotate_left
       focus
         intro w' hb'
         go_simp
         with_reducible rfl
       simp only [Act.put, List.setIfInBounds_toArray, List.set_cons_zero, List.set_cons_succ])
    | (refine SeqS.take2 (v := undef) (by first | assumption | trivial) (by kernel_rfl) (by decide +kernel) (by decide +kernel) (Or.inr ⟨by rfl, rfl⟩) ?_
       simp only [Act.put, List.setIfInBounds_toArray, List.set_cons_zero, List.set_cons_succ])
    | (refine SeqS.take3 (v := .agg (wrC r a n c e).toArray) (by first | assumption | trivial) (by kernel_rfl) (by decide +kernel) (by decide +kernel) (yields_blk (by rfl) 30 (.tmp 3) rfl rfl (fun w' h => h) (rowWr)) ?_
       simp only [Act.put, List.setIfInBounds_toArray, List.set_cons_zero, List.set_cons_succ])
    | (refine SeqS.take3 (v := ?_) (by first | assumption | trivial) (by kernel_rfl) (by decide +kernel) (by decide +kernel) (Or.inl ⟨by rfl, ?_⟩) ?_
       rotate_left
       focus
         intro w' hb'
         go_simp
         with_reducible rfl
       simp only [Act.put, List.setIfInBounds_toArray, List.set_cons_zero, List.set_cons_succ])
    | (refine SeqS.take3 (v := undef) (by first | assumption | trivial) (by kernel_rfl) (by decide +kernel) (by decide +kernel) (Or.inr ⟨by rfl, rfl⟩) ?_
       simp only [Act.put, List.setIfInBounds_toArray, List.set_cons_zero, List.set_cons_succ]))
  refine SeqS.alone (by decide +kernel) (by rfl) (fun K1 hK1 => ?_)
  go_simp
  refine (rNumber_any N 8 U (by decide)).mono ?_
  rintro q w2 ⟨b, d, rfl, ho, b2⟩
  have hJ2 : Ints .u8 w2 b 8 d (beL N 8) := by
    obtain ⟨a2, c2, hv, hi⟩ := Ints.of_owns ho
    injection hv with e1 _ e2
    subst e1; subst e2
    exact hi
  have hx2 := hx1.keep b2 hx1.lt
  have hr2 := hr1.keep b2 hr1.lt
  have hI2 := hI1.keep b2
  have hB2 := hB1.trans (b2.mono (Nat.le_of_lt hx1.lt))
  clear hx1 hr1 hI1 hB1 ho b2
  go_simp
  refine hK1 _ _ hx2 ?_
  clear hK1 K1
  (try simp only [Act.put, List.setIfInBounds_toArray, List.set_cons_zero, List.set_cons_succ])
  refine SeqS.alone (by decide +kernel) (by rfl) (fun K1 hK1 => ?_)
  go_simp
  refine (rwBytes_any r a b n c 8 d e xs (beL N 8) w2 hI2 hJ2 (by have := hmH.out; omega)).mono ?_
  rintro q w3 ⟨a', n', c', rfl, hI3, hst, b3⟩
  have hx3 := hx2.keep b3 hx2.lt
  have hr3 := hr2.keep b3 hr2.lt
  have hB3 := hB2.trans (b3.mono (Nat.le_of_lt hx2.lt))
  have hne : ∀ x, a' = some x → 0 < n' → x.block ≠ G + 1 := by
    intro x hx h0
    rcases hst with ⟨h1, h2⟩ | h
    · rw [h1] at hx
      rw [h2] at h0
      have := hIB x hx h0
      have := hGH.out
      omega
    · have := h x hx
      have := hr2.lt
      omega
  have hst3 : Stays w a a' n n' := by
    rcases hst with h | h
    · exact .inl h
    · exact .inr fun x hx => by have h1 := h x hx; have h2 := hx2.lt; have h3 := hGH.out; omega
  clear hI2 hJ2 b3 hx2 hr2 hB2 hst
  obtain ⟨E, hE⟩ : ∃ E, (wrStep r xs e (beL N 8)).2 = E := ⟨_, rfl⟩
  obtain ⟨X, hX⟩ : ∃ X, (wrStep r xs e (beL N 8)).1 = X := ⟨_, rfl⟩
  rw [hX] at hI3
  rw [hE]
  have hEH := Lib.hid hE
  have hXH := Lib.hid hX
  clear hE hX
  go_simp
  refine hK1 _ _ hx3 ?_
  clear hK1 K1
  (try simp only [Act.put, List.setIfInBounds_toArray, List.set_cons_zero, List.set_cons_succ])
  refine SeqS.alone (by decide +kernel) (by rfl) (fun K1 hK1 => ?_)
  refine wp_store_part (cs := wrC r a' n' c' E) 30 (.tmp 6) (.tmp 30) rfl rfl rfl hr3 rowWr (by simp [wrC]) (by simp [wrC, Value.oneCell']) (fun w9 hR9 hg9 => ?_)
  have hR9 := hR9.cast (overV_all _ _ (by rfl))
  refine hK1 _ _ (hx3.grown hg9 (by simp)) ?_
  clear hK1 K1
  refine SeqS.done (by decide +kernel) ?_
  go_wp2_with fail
  (try simp only [Exit.inBlock, Exit.then])
  refine bodyPost_ret (results_blk rfl rfl hR9 rowWr) rfl ?_
  refine ⟨a', n', c', by rw [hEH.out]; rfl, ?_, hst3, ?_⟩
  · rw [hXH.out]
    exact hI3.grown hg9 hne
  · rw [hGH.out]
    exact hB3.trans (below_of_grown hg9 (Nat.le_succ _) hr3.lt)

theorem rwNum_any (r : Int) (a : Option Addr) (n c : Nat) (e N A : Int) (xs : List Int) (w : World) (hI : Ints .u8 w a n c xs) (hm : n ≤ 90000000) (hN : N < 18446744073709551616) :
    Calls Try.prog 28 #[.agg #[.int .i64 r, .slice a n c, .int .i64 e], .int .u64 N, .int .i64 A] w fun q w' => ∃ a' n' c', q = .returned (.agg #[.int .i64 r, .slice a' n' c', .int .i64 (wrNum r xs e N A).2]) ∧ Ints .u8 w' a' n' c' (wrNum r xs e N A).1 ∧ Stays w a a' n n' ∧ Below w.heap.size w w' := by
  unfold wrNum
  by_cases hA : A < 1 ∨ 8 < A
  · rw [if_neg (by unfold fits; omega)]
    refine (rwNum_width r a n c e N A w hA).mono ?_
    rintro q w' ⟨rfl, hb⟩
    exact ⟨a, n, c, rfl, hI.keep hb, .inl ⟨rfl, rfl⟩, hb⟩
  rcases (show A = 1 ∨ A ≠ 1 by omega) with rfl | hA1
  · by_cases h : 256 ≤ N
    · rw [if_neg (by unfold fits; rintro ⟨_, _, h3⟩; have h4 : N < 256 := h3; omega)]
      refine (rwNum_great1 r a n c e N w h).mono ?_
      rintro q w' ⟨rfl, hb⟩
      exact ⟨a, n, c, rfl, hI.keep hb, .inl ⟨rfl, rfl⟩, hb⟩
    · rw [if_pos ⟨by decide, by decide, show N < 256 by omega⟩]
      exact rwNum_fits1 r a n c e N xs w h hI hm
  rcases (show A = 2 ∨ A ≠ 2 by omega) with rfl | hA2
  · by_cases h : 65536 ≤ N
    · rw [if_neg (by unfold fits; rintro ⟨_, _, h3⟩; have h4 : N < 65536 := h3; omega)]
      refine (rwNum_great2 r a n c e N w h).mono ?_
      rintro q w' ⟨rfl, hb⟩
      exact ⟨a, n, c, rfl, hI.keep hb, .inl ⟨rfl, rfl⟩, hb⟩
    · rw [if_pos ⟨by decide, by decide, show N < 65536 by omega⟩]
      exact rwNum_fits2 r a n c e N xs w h hI hm
  rcases (show A = 3 ∨ A ≠ 3 by omega) with rfl | hA3
  · by_cases h : 16777216 ≤ N
    · rw [if_neg (by unfold fits; rintro ⟨_, _, h3⟩; have h4 : N < 16777216 := h3; omega)]
      refine (rwNum_great3 r a n c e N w h).mono ?_
      rintro q w' ⟨rfl, hb⟩
      exact ⟨a, n, c, rfl, hI.keep hb, .inl ⟨rfl, rfl⟩, hb⟩
    · rw [if_pos ⟨by decide, by decide, show N < 16777216 by omega⟩]
      exact rwNum_fits3 r a n c e N xs w h hI hm
  rcases (show A = 4 ∨ A ≠ 4 by omega) with rfl | hA4
  · by_cases h : 4294967296 ≤ N
    · rw [if_neg (by unfold fits; rintro ⟨_, _, h3⟩; have h4 : N < 4294967296 := h3; omega)]
      refine (rwNum_great4 r a n c e N w h).mono ?_
      rintro q w' ⟨rfl, hb⟩
      exact ⟨a, n, c, rfl, hI.keep hb, .inl ⟨rfl, rfl⟩, hb⟩
    · rw [if_pos ⟨by decide, by decide, show N < 4294967296 by omega⟩]
      exact rwNum_fits4 r a n c e N xs w h hI hm
  rcases (show A = 5 ∨ A ≠ 5 by omega) with rfl | hA5
  · by_cases h : 1099511627776 ≤ N
    · rw [if_neg (by unfold fits; rintro ⟨_, _, h3⟩; have h4 : N < 1099511627776 := h3; omega)]
      refine (rwNum_great5 r a n c e N w h).mono ?_
      rintro q w' ⟨rfl, hb⟩
      exact ⟨a, n, c, rfl, hI.keep hb, .inl ⟨rfl, rfl⟩, hb⟩
    · rw [if_pos ⟨by decide, by decide, show N < 1099511627776 by omega⟩]
      exact rwNum_fits5 r a n c e N xs w h hI hm
  rcases (show A = 6 ∨ A ≠ 6 by omega) with rfl | hA6
  · by_cases h : 281474976710656 ≤ N
    · rw [if_neg (by unfold fits; rintro ⟨_, _, h3⟩; have h4 : N < 281474976710656 := h3; omega)]
      refine (rwNum_great6 r a n c e N w h).mono ?_
      rintro q w' ⟨rfl, hb⟩
      exact ⟨a, n, c, rfl, hI.keep hb, .inl ⟨rfl, rfl⟩, hb⟩
    · rw [if_pos ⟨by decide, by decide, show N < 281474976710656 by omega⟩]
      exact rwNum_fits6 r a n c e N xs w h hI hm
  rcases (show A = 7 ∨ A ≠ 7 by omega) with rfl | hA7
  · by_cases h : 72057594037927936 ≤ N
    · rw [if_neg (by unfold fits; rintro ⟨_, _, h3⟩; have h4 : N < 72057594037927936 := h3; omega)]
      refine (rwNum_great7 r a n c e N w h).mono ?_
      rintro q w' ⟨rfl, hb⟩
      exact ⟨a, n, c, rfl, hI.keep hb, .inl ⟨rfl, rfl⟩, hb⟩
    · rw [if_pos ⟨by decide, by decide, show N < 72057594037927936 by omega⟩]
      exact rwNum_fits7 r a n c e N xs w h hI hm
  rcases (show A = 8 ∨ A ≠ 8 by omega) with rfl | hA8
  · rw [if_pos ⟨by decide, by decide, show N < 18446744073709551616 by omega⟩]
    exact rwNum_fits8 r a n c e N xs w hI hm
  omega
end Go.Proofs.Ytlbhpicebefpnaa

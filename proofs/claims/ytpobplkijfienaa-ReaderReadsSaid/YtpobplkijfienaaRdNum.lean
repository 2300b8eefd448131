/-
  The document's own numbers of layer 9. New memory alone is written. Conditions: at most 8 bytes, each below 256.
-/
import Derived.Test.YtpobplkijfienaaRdRef
namespace Go.Proofs.Ytpobplkijfienaa
open Go.RowKit

set_option maxRecDepth 100000 in
set_option maxHeartbeats 1000000 in
theorem rNum_of (a : Option Addr) (n c : Nat) (p e A p' e' : Int) (b : Option Addr) (l c' : Nat) (ys : List Int) (w : World) (hA1 : 1 ≤ A) (hA8 : A ≤ 8) (hl : l ≤ 8)
    (hI : Ints .u8 w b l c' ys) (hy : ∀ x ∈ ys, 0 ≤ x ∧ x < 256)
    (CB : ∀ w', Calls Try.prog 25 #[.agg #[.slice a n c, .int .i64 p, .int .i64 e], .int .i64 A] w' fun r w'' => r = .returned (.tuple #[.agg #[.slice a n c, .int .i64 p', .int .i64 e'], .slice b l c']) ∧ Below w'.heap.size w' w'') :
    Calls Try.prog 24 #[.agg #[.slice a n c, .int .i64 p, .int .i64 e], .int .i64 A] w fun r w' => r = .returned (.tuple #[.agg #[.slice a n c, .int .i64 p', .int .i64 e'], .int .u64 (be ys)]) ∧ Below w.heap.size w w' := by
  have h1 : ¬ A < 1 := by omega
  have h2 : ¬ (8 : Int) < A := by omega
  have CH := Lib.hid CB
  clear CB hA1 hA8
  go_enter Try.func24, Try.ntmps24
  go_wp2_with fail
  obtain ⟨V, hV⟩ : ∃ V, (w.alloc (.cells #[.slice a n c, .int .i64 p, .int .i64 e] 31)).alloc (.cells #[.slice none 0 0, .int .i64 0, .int .i64 0] 31) = V := ⟨_, rfl⟩
  have hx : Blk V w.heap.size 31 (rdC a n c p e) := by rw [← hV]; exact (Blk.new w _ (rdC a n c p e)).alloc _
  have hr : Blk V (w.heap.size + 1) 31 (rdC none 0 0 0 0) := by rw [← hV]; exact Blk.new1 w _ _ (rdC none 0 0 0 0)
  have hB : Below w.heap.size w V := by rw [← hV]; exact below2 w _ _
  rw [hV]
  clear hV
  refine (CH.out V).mono ?_
  rintro r w2 ⟨rfl, b2⟩
  have hx2 := hx.keep b2 hx.lt
  have hr2 := hr.keep b2 hr.lt
  have hB2 := hB.trans (b2.mono (Nat.le_of_lt hx.lt))
  go_wp2_with (refine wpList_store_part (cur := rdC a n c p e) (cs := rdC a n c p' e') rfl 31 (.tmp 2) (.tmp 21) rfl rfl rfl hx2 rowRd (by simp [rdC]) (by simp [rdC, Value.oneCell']) ?_; intro w3 hx3 hg3; refine RowKit.Hid.out ?_)
  refine Lib.hid ?_
  have hx3 := hx3.cast (overV_all _ _ (by rfl))
  have hr3 := hr2.grown hg3 (by simp)
  have hB3 := hB2.trans (below_of_grown hg3 (Nat.le_refl _) hx2.lt)
  have hI3 := hI.keep hB3
  have hlen := hI.len
  have hyH := Lib.hid hy
  have hlH := Lib.hid hl
  have hlenH := Lib.hid hlen
  clear hx hr hB b2 hx2 hr2 hB2 hg3 hI hy hl hlen CH
  go_wp2_with fail
  go_loopw [7, 8] (fun v i wr => ∃ k : Nat, k ≤ l ∧ v = .int .u64 (be (ys.take k)) ∧ i = .int .i64 k ∧ w3 = wr) (fun _ i _ => l - (intOf i).toNat)
  case atStart => exact ⟨0, Nat.zero_le _, rfl, rfl, rfl⟩
  case round =>
    obtain ⟨k, hk, rfl, rfl, rfl⟩ := hrel
    by_cases hlt : k < l
    · obtain ⟨q, o, rfl, hat⟩ := hI3.at (by omega)
      have ck := hat k hlt
      have hstep := Lib.hid (be_take ys k (by rw [hlenH.out]; exact hlt))
      have hbt := be_lt (ys.take (k + 1)) (fun x hx => hyH.out x (List.mem_of_mem_take hx)) (by rw [List.length_take]; have := hlH.out; omega)
      have hbk := be_lt (ys.take k) (fun x hx => hyH.out x (List.mem_of_mem_take hx)) (by rw [List.length_take]; have := hlH.out; omega)
      have hx := getD_range (p := fun x => 0 ≤ x ∧ x < 256) hyH.out k (by rw [hlenH.out]; exact hlt)
      have e1 : IntKind.u64.wrap (IntKind.u64.wrap (256 * be (ys.take k)) + IntKind.u64.wrap (ys[k]?.getD 0)) = be (ys.take (k + 1)) := by
        have hs := hstep.out
        rw [List.getD_eq_getElem?_getD] at hs hx
        rw [IntKind.wrap_u64, IntKind.wrap_u64, IntKind.wrap_u64]
        omega
      have e2 : wrap64 ((k : Int) + 1) = ((k + 1 : Nat) : Int) := by have := hlH.out; unfold wrap64; omega
      have e1H := Lib.hid e1
      have e2H := Lib.hid e2
      have hki : (k : Int) < (l : Int) := by omega
      clear e1 e2 hbt hbk hx hk
      go_wp2
      rw [e1H.out, e2H.out]
      exact ⟨⟨k + 1, by omega, rfl, rfl, trivial⟩, by simp [intOf]; omega⟩
    · obtain rfl : k = l := by omega
      rw [List.take_of_length_le (by rw [hlenH.out]; exact Nat.le_refl _)]
      go_wp2_with (first
        | ((refine wpList_load_blk rfl 31 (.tmp 2) rfl ?_ hx3 rowRd rfl ?_); rfl)
        | (refine wpList_store_part (cur := rdC none 0 0 0 0) (cs := rdC a n c p' e') rfl 31 (.tmp 4) (.tmp 37) rfl rfl rfl hr3 rowRd (by simp [rdC]) (by simp [rdC, Value.oneCell']) ?_; intro w9 hR9 hg9))
      have hR9 := hR9.cast (overV_all _ _ (by rfl))
      (try simp only [Exit.inBlock, Exit.then])
      refine bodyPost_ret (results_blk_tmp rfl rfl hR9 rowRd) rfl ?_
      exact ⟨rfl, hB3.trans (below_of_grown hg9 (Nat.le_succ _) hr3.lt)⟩

set_option maxRecDepth 100000 in
set_option maxHeartbeats 1000000 in
theorem rNum_width (a : Option Addr) (n c : Nat) (p e A : Int) (w : World) (hA : A < 1 ∨ 8 < A) :
    Calls Try.prog 24 #[.agg #[.slice a n c, .int .i64 p, .int .i64 e], .int .i64 A] w fun r w' => r = .returned (.tuple #[.agg #[.slice a n c, .int .i64 p, .int .i64 (badOf e 1)], .int .u64 0]) ∧ Below w.heap.size w w' := by
  by_cases h1 : A < 1
  · go_enter Try.func24, Try.ntmps24
    go_wp2_with fail
    obtain ⟨V, hV⟩ : ∃ V, (w.alloc (.cells #[.slice a n c, .int .i64 p, .int .i64 e] 31)).alloc (.cells #[.slice none 0 0, .int .i64 0, .int .i64 0] 31) = V := ⟨_, rfl⟩
    have hx : Blk V w.heap.size 31 (rdC a n c p e) := by rw [← hV]; exact (Blk.new w _ (rdC a n c p e)).alloc _
    have hr : Blk V (w.heap.size + 1) 31 (rdC none 0 0 0 0) := by rw [← hV]; exact Blk.new1 w _ _ (rdC none 0 0 0 0)
    have hB : Below w.heap.size w V := by rw [← hV]; exact below2 w _ _
    rw [hV]
    clear hV
    refine (rfail_any a n c p e 1 V).mono ?_
    rintro r w2 ⟨rfl, b2⟩
    have hr2 := hr.keep b2 hr.lt
    have hB2 := hB.trans (b2.mono (Nat.le_of_lt hx.lt))
    go_wp2_with (refine wpList_store_part (cur := rdC none 0 0 0 0) (cs := rdC a n c p (badOf e 1)) rfl 31 (.tmp 4) (.tmp 16) rfl rfl rfl hr2 rowRd (by simp [rdC]) (by simp [rdC, Value.oneCell']) ?_; intro w9 hR9 hg9)
    have hR9 := hR9.cast (overV_all _ _ (by rfl))
    (try simp only [Exit.inBlock, Exit.then])
    refine bodyPost_ret (results_blk_tmp rfl rfl hR9 rowRd) rfl ?_
    exact ⟨rfl, hB2.trans (below_of_grown hg9 (Nat.le_succ _) hr2.lt)⟩
  · have h2 : 8 < A := by omega
    clear hA
    go_enter Try.func24, Try.ntmps24
    go_wp2_with fail
    obtain ⟨V, hV⟩ : ∃ V, (w.alloc (.cells #[.slice a n c, .int .i64 p, .int .i64 e] 31)).alloc (.cells #[.slice none 0 0, .int .i64 0, .int .i64 0] 31) = V := ⟨_, rfl⟩
    have hx : Blk V w.heap.size 31 (rdC a n c p e) := by rw [← hV]; exact (Blk.new w _ (rdC a n c p e)).alloc _
    have hr : Blk V (w.heap.size + 1) 31 (rdC none 0 0 0 0) := by rw [← hV]; exact Blk.new1 w _ _ (rdC none 0 0 0 0)
    have hB : Below w.heap.size w V := by rw [← hV]; exact below2 w _ _
    rw [hV]
    clear hV
    refine (rfail_any a n c p e 1 V).mono ?_
    rintro r w2 ⟨rfl, b2⟩
    have hr2 := hr.keep b2 hr.lt
    have hB2 := hB.trans (b2.mono (Nat.le_of_lt hx.lt))
    go_wp2_with (refine wpList_store_part (cur := rdC none 0 0 0 0) (cs := rdC a n c p (badOf e 1)) rfl 31 (.tmp 4) (.tmp 16) rfl rfl rfl hr2 rowRd (by simp [rdC]) (by simp [rdC, Value.oneCell']) ?_; intro w9 hR9 hg9)
    have hR9 := hR9.cast (overV_all _ _ (by rfl))
    (try simp only [Exit.inBlock, Exit.then])
    refine bodyPost_ret (results_blk_tmp rfl rfl hR9 rowRd) rfl ?_
    exact ⟨rfl, hB2.trans (below_of_grown hg9 (Nat.le_succ _) hr2.lt)⟩
end Go.Proofs.Ytpobplkijfienaa

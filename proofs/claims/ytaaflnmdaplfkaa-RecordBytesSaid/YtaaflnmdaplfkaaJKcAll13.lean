/-
  Texts of stages that were proved on their own, joined: RpNum, RpCount, RpId. Each begins with its own words.
-/
import Derived.Test.YtaaflnmdaplfkaaJKcAll11
import Derived.WalkLawsBesides
import Derived.Laws.Bits64b
import Derived.Test.YtaaflnmdaplfkaaJKcAll6

/-
  What the program's Num comes to. New memory and the reader alone are written. Conditions: those of a reader in memory.
-/
namespace Go.Proofs.Ytaaflnmdaplfkaa
open Go.RowKit

theorem or_low (a b : Int) (ha : 0 ≤ a) (hs : 256 * a + b < 18446744073709551616) (hb : 0 ≤ b ∧ b < 256) : bits BinOp.or IntKind.u64 (IntKind.u64.wrap (a * 256)) (IntKind.u64.wrap b) = 256 * a + b := by
  obtain ⟨m, rfl⟩ : ∃ m : Nat, a = m := ⟨a.toNat, by omega⟩
  obtain ⟨n, rfl⟩ : ∃ n : Nat, b = n := ⟨b.toNat, by omega⟩
  have h1 : IntKind.u64.wrap ((m : Int) * 256) = ((m * 256 : Nat) : Int) := by rw [IntKind.wrap_u64]; omega
  have h2 : IntKind.u64.wrap (n : Int) = (n : Int) := by rw [IntKind.wrap_u64]; omega
  rw [h1, h2, bits_or_u64_nat _ _ (by omega) (by omega)]
  have h3 : m * 256 ||| n = m * 256 + n := by
    have := Nat.shiftLeft_add_eq_or_of_lt (a := m) (b := n) (i := 8) (by omega)
    rw [Nat.shiftLeft_eq, show (2 : Nat) ^ 8 = 256 from rfl] at this
    omega
  rw [h3]
  omega

set_option maxRecDepth 100000 in
set_option maxHeartbeats 800000 in
theorem pNum_loop {w : World} {g : Nat} (A : Int) (k : Nat) (ys : List Int) (may : Bool) (R : World → Prop)
    (hmay : (may = true ∧ 1 ≤ A ∧ A ≤ 8) ∨ (may = false ∧ ¬ 1 ≤ A) ∨ (may = false ∧ 1 ≤ A ∧ ¬ A ≤ 8))
    (hc : Calls Try.prog 50 #[.pointer (some ⟨g, 0, none⟩), .string { data := #[97, 32, 110, 117, 109, 98, 101, 114] }, .bool may, .int .i64 A, .int .i64 1] w fun r w' => ∃ a c, r = .returned (.slice a k c) ∧ Ints .u8 w' a k c ys ∧ R w') (hk : k ≤ 8) (hy : ∀ x ∈ ys, 0 ≤ x ∧ x < 256) :
    Calls Try.prog 27 #[.pointer (some ⟨g, 0, none⟩), .int .i64 A] w fun r w' => r = .returned (.int .u64 (be ys)) ∧ R w' := by
  rcases hmay with ⟨rfl, h1, h8⟩ | ⟨rfl, h1⟩ | ⟨rfl, h1, h8⟩
  ·
    have hcH := Lib.hid hc
    clear hc
    go_enter Try.func27, Try.ntmps27
    go_wp2_with fail
    refine hcH.out.mono ?_
    rintro r w1 ⟨a, c, rfl, hI, hR⟩
    clear hcH
    go_wp2_with fail
    go_loopw [5, 18] (fun v i wr => ∃ j : Nat, j ≤ k ∧ v = .int .u64 (be (ys.take j)) ∧ i = .int .i64 j ∧ w1 = wr) (fun _ i _ => k - (intOf i).toNat)
    case atStart => exact ⟨0, Nat.zero_le _, rfl, rfl, rfl⟩
    case round =>
      obtain ⟨j, hj, rfl, rfl, rfl⟩ := hrel
      by_cases hlt : j < k
      · obtain ⟨q, o, rfl, hat⟩ := hI.at (by omega)
        have cj := hat j hlt
        have hki : (j : Int) < (k : Int) := by omega
        have hlen := hI.len
        have hstep := be_take ys j (by rw [hlen]; exact hlt)
        have hbt := be_lt (ys.take (j + 1)) (fun x hx => hy x (List.mem_of_mem_take hx)) (by rw [List.length_take]; omega)
        have hbk := be_lt (ys.take j) (fun x hx => hy x (List.mem_of_mem_take hx)) (by rw [List.length_take]; omega)
        have hx := getD_range (p := fun x => 0 ≤ x ∧ x < 256) hy j (by rw [hlen]; exact hlt)
        rw [hstep] at hbt
        have e1 := or_low (be (ys.take j)) (ys.getD j 0) hbk.1 hbt.2 hx
        rw [← hstep, List.getD_eq_getElem?_getD] at e1
        have e1H := Lib.hid e1
        have e2H := Lib.hid (show wrap64 ((j : Int) + 1) = ((j + 1 : Nat) : Int) by unfold wrap64; omega)
        clear e1 hstep hbt hbk hx hlen
        go_wp2
        rw [e1H.out]
        exact ⟨⟨j + 1, by omega, rfl, rfl, trivial⟩, by simp [intOf]; omega⟩
      · obtain rfl : j = k := by omega
        rw [List.take_of_length_le (by rw [hI.len]; exact Nat.le_refl _)]
        go_wp2
        go_ret
        exact ⟨rfl, hR⟩
  ·
    have hcH := Lib.hid hc
    clear hc
    go_enter Try.func27, Try.ntmps27
    go_wp2_with fail
    refine hcH.out.mono ?_
    rintro r w1 ⟨a, c, rfl, hI, hR⟩
    clear hcH
    go_wp2_with fail
    go_loopw [5, 18] (fun v i wr => ∃ j : Nat, j ≤ k ∧ v = .int .u64 (be (ys.take j)) ∧ i = .int .i64 j ∧ w1 = wr) (fun _ i _ => k - (intOf i).toNat)
    case atStart => exact ⟨0, Nat.zero_le _, rfl, rfl, rfl⟩
    case round =>
      obtain ⟨j, hj, rfl, rfl, rfl⟩ := hrel
      by_cases hlt : j < k
      · obtain ⟨q, o, rfl, hat⟩ := hI.at (by omega)
        have cj := hat j hlt
        have hki : (j : Int) < (k : Int) := by omega
        have hlen := hI.len
        have hstep := be_take ys j (by rw [hlen]; exact hlt)
        have hbt := be_lt (ys.take (j + 1)) (fun x hx => hy x (List.mem_of_mem_take hx)) (by rw [List.length_take]; omega)
        have hbk := be_lt (ys.take j) (fun x hx => hy x (List.mem_of_mem_take hx)) (by rw [List.length_take]; omega)
        have hx := getD_range (p := fun x => 0 ≤ x ∧ x < 256) hy j (by rw [hlen]; exact hlt)
        rw [hstep] at hbt
        have e1 := or_low (be (ys.take j)) (ys.getD j 0) hbk.1 hbt.2 hx
        rw [← hstep, List.getD_eq_getElem?_getD] at e1
        have e1H := Lib.hid e1
        have e2H := Lib.hid (show wrap64 ((j : Int) + 1) = ((j + 1 : Nat) : Int) by unfold wrap64; omega)
        clear e1 hstep hbt hbk hx hlen
        go_wp2
        rw [e1H.out]
        exact ⟨⟨j + 1, by omega, rfl, rfl, trivial⟩, by simp [intOf]; omega⟩
      · obtain rfl : j = k := by omega
        rw [List.take_of_length_le (by rw [hI.len]; exact Nat.le_refl _)]
        go_wp2
        go_ret
        exact ⟨rfl, hR⟩
  ·
    have hcH := Lib.hid hc
    clear hc
    go_enter Try.func27, Try.ntmps27
    go_wp2_with fail
    refine hcH.out.mono ?_
    rintro r w1 ⟨a, c, rfl, hI, hR⟩
    clear hcH
    go_wp2_with fail
    go_loopw [5, 18] (fun v i wr => ∃ j : Nat, j ≤ k ∧ v = .int .u64 (be (ys.take j)) ∧ i = .int .i64 j ∧ w1 = wr) (fun _ i _ => k - (intOf i).toNat)
    case atStart => exact ⟨0, Nat.zero_le _, rfl, rfl, rfl⟩
    case round =>
      obtain ⟨j, hj, rfl, rfl, rfl⟩ := hrel
      by_cases hlt : j < k
      · obtain ⟨q, o, rfl, hat⟩ := hI.at (by omega)
        have cj := hat j hlt
        have hki : (j : Int) < (k : Int) := by omega
        have hlen := hI.len
        have hstep := be_take ys j (by rw [hlen]; exact hlt)
        have hbt := be_lt (ys.take (j + 1)) (fun x hx => hy x (List.mem_of_mem_take hx)) (by rw [List.length_take]; omega)
        have hbk := be_lt (ys.take j) (fun x hx => hy x (List.mem_of_mem_take hx)) (by rw [List.length_take]; omega)
        have hx := getD_range (p := fun x => 0 ≤ x ∧ x < 256) hy j (by rw [hlen]; exact hlt)
        rw [hstep] at hbt
        have e1 := or_low (be (ys.take j)) (ys.getD j 0) hbk.1 hbt.2 hx
        rw [← hstep, List.getD_eq_getElem?_getD] at e1
        have e1H := Lib.hid e1
        have e2H := Lib.hid (show wrap64 ((j : Int) + 1) = ((j + 1 : Nat) : Int) by unfold wrap64; omega)
        clear e1 hstep hbt hbk hx hlen
        go_wp2
        rw [e1H.out]
        exact ⟨⟨j + 1, by omega, rfl, rfl, trivial⟩, by simp [intOf]; omega⟩
      · obtain rfl : j = k := by omega
        rw [List.take_of_length_le (by rw [hI.len]; exact Nat.le_refl _)]
        go_wp2
        go_ret
        exact ⟨rfl, hR⟩
theorem nx_num (n p : Nat) (e A : Int) (hp : p ≤ n) (may : Bool) (hmay : may = decide (1 ≤ A ∧ A ≤ 8)) :
    (nx n p e may A 1).1 = (if A < 1 ∨ 8 < A then p else (rdStep n p e A).1) ∧ (nx n p e may A 1).2.1 = (if A < 1 ∨ 8 < A then badOf e 1 else (rdStep n p e A).2.1) ∧ (nx n p e may A 1).2.2 = (if A < 1 ∨ 8 < A then 0 else (rdStep n p e A).2.2) := by
  by_cases h : A < 1 ∨ 8 < A
  · rw [if_pos h, if_pos h, if_pos h]
    have hm : may = false := by rw [hmay]; exact decide_eq_false (by omega)
    subst hm
    unfold nx badOf
    by_cases he : e ≠ 0
    · rw [if_pos he, if_neg he]
      exact ⟨rfl, rfl, rfl⟩
    · rw [if_neg he, if_pos rfl, if_pos (by omega)]
      exact ⟨rfl, rfl, rfl⟩
  · rw [if_neg h, if_neg h, if_neg h]
    have hm : may = decide (0 ≤ A) := by rw [hmay, decide_eq_true (by omega), decide_eq_true (by omega)]
    rw [hm, nx_bytes n p e A hp]
    exact ⟨rfl, rfl, rfl⟩

theorem pNum_any {F : Nat → Prop} {w : World} {g : Nat} {xs : List Int} {p : Nat} {e : Int} (A : Int) (h : RdAt F w g xs p e) :
    Calls Try.prog 27 #[.pointer (some ⟨g, 0, none⟩), .int .i64 A] w fun r w' => r = .returned (.int .u64 (rdNum xs p e A).2.2) ∧ RdAt F w' g xs (rdNum xs p e A).1 (rdNum xs p e A).2.1 ∧ Moved F w w' := by
  obtain ⟨may, hmay⟩ : ∃ may, may = decide (1 ≤ A ∧ A ≤ 8) := ⟨_, rfl⟩
  have hw := h.within
  obtain ⟨q1, q2, q3⟩ := nx_num xs.length p e A hw may hmay
  have hc := pNext_any { data := #[97, 32, 110, 117, 109, 98, 101, 114] } may A 1 h (Nat.le_refl _) (fun hm => by rw [hmay] at hm; have := of_decide_eq_true hm; omega)
  rw [q1, q2, q3] at hc
  have hm3 : (may = true ∧ 1 ≤ A ∧ A ≤ 8) ∨ (may = false ∧ ¬ 1 ≤ A) ∨ (may = false ∧ 1 ≤ A ∧ ¬ A ≤ 8) := by
    by_cases h1 : 1 ≤ A
    · by_cases h8 : A ≤ 8
      · exact .inl ⟨by rw [hmay]; exact decide_eq_true ⟨h1, h8⟩, h1, h8⟩
      · exact .inr (.inr ⟨by rw [hmay]; exact decide_eq_false (by omega), h1, h8⟩)
    · exact .inr (.inl ⟨by rw [hmay]; exact decide_eq_false (by omega), h1⟩)
  have hk8 : (if A < 1 ∨ 8 < A then 0 else (rdStep xs.length p e A).2.2) ≤ 8 := by
    split
    · exact Nat.zero_le _
    · unfold rdStep
      split
      · exact Nat.zero_le _
      split
      · exact Nat.zero_le _
      split
      · exact Nat.zero_le _
      · simp only; omega
  have hbe : be ((xs.drop p).take (if A < 1 ∨ 8 < A then 0 else (rdStep xs.length p e A).2.2)) = (rdNum xs p e A).2.2 := by
    unfold rdNum rdBytes
    by_cases hA : A < 1 ∨ 8 < A
    · rw [if_pos hA, if_pos hA]
      rfl
    · rw [if_neg hA, if_neg hA]
  have hp : (if A < 1 ∨ 8 < A then p else (rdStep xs.length p e A).1) = (rdNum xs p e A).1 := by
    unfold rdNum
    by_cases hA : A < 1 ∨ 8 < A
    · rw [if_pos hA, if_pos hA]
    · rw [if_neg hA, if_neg hA]
  have he : (if A < 1 ∨ 8 < A then badOf e 1 else (rdStep xs.length p e A).2.1) = (rdNum xs p e A).2.1 := by
    unfold rdNum
    by_cases hA : A < 1 ∨ 8 < A
    · rw [if_pos hA, if_pos hA]
    · rw [if_neg hA, if_neg hA]
  rw [hp, he] at hc
  rw [← hbe]
  obtain ⟨K, hK⟩ : ∃ K, (if A < 1 ∨ 8 < A then 0 else (rdStep xs.length p e A).2.2) = K := ⟨_, rfl⟩
  rw [hK] at hc hk8 ⊢
  obtain ⟨Y, hY⟩ : ∃ Y, (xs.drop p).take K = Y := ⟨_, rfl⟩
  have hyr : ∀ x ∈ Y, 0 ≤ x ∧ x < 256 := by
    intro x hx
    rw [← hY] at hx
    exact h.range x (List.mem_of_mem_drop (List.mem_of_mem_take hx))
  rw [hY] at hc ⊢
  exact pNum_loop A K Y may (fun w' => RdAt F w' g xs (rdNum xs p e A).1 (rdNum xs p e A).2.1 ∧ Moved F w w') hm3 (hc.mono fun r w' ⟨a, c, hr, hI, _, hR⟩ => ⟨a, c, hr, hI, hR⟩) hk8 hyr
end Go.Proofs.Ytaaflnmdaplfkaa

/-
  What the program's Count comes to. New memory and the reader alone are written. Conditions: those of a reader in memory; the greatest count is an int.
-/
namespace Go.Proofs.Ytaaflnmdaplfkaa
open Go.RowKit

set_option maxRecDepth 100000 in
set_option maxHeartbeats 800000 in
theorem pCount_neg {F : Nat → Prop} {w : World} {g : Nat} {xs : List Int} {p : Nat} {e : Int} (A M v : Int) (hM : ¬ 0 ≤ M)
    (hc : Calls Try.prog 27 #[.pointer (some ⟨g, 0, none⟩), .int .i64 A] w fun r w' => r = .returned (.int .u64 v) ∧ RdAt F w' g xs p e ∧ Moved F w w') :
    Calls Try.prog 68 #[.pointer (some ⟨g, 0, none⟩), .int .i64 A, .int .i64 M] w fun r w' => r = .returned (.int .i64 0) ∧ RdAt F w' g xs p (if e = 0 then 4 else e) ∧ Moved F w w' := by
  by_cases he : e = 0
  · subst he
    rw [if_pos rfl]
    have hcH := Lib.hid hc
    clear hc
    go_enter Try.func68, Try.ntmps68
    go_wp2_with fail
    refine hcH.out.mono ?_
    rintro r w1 ⟨rfl, hR, hM1⟩
    clear hcH
    have hc := pReads_any hR
    rw [show decide ((0 : Int) = 0) = true from rfl] at hc
    obtain ⟨a, n, c, fv, t, hb, hi, hf, hx⟩ := hR.is
    obtain ⟨c0, c1, c2, c3, c4⟩ := rdCells hb
    have z3 := hb.frozen 3
    have hbH := Lib.hid hb
    clear hb
    go_wp2_with fail
    refine hc.mono ?_
    rintro r w2 ⟨rfl, rfl⟩
    go_wp2
    go_ret
    have k1 := hbH.out.set 3 (.iface 90 (.agg #[.string { data := #[97, 32, 99, 111, 117, 110, 116] }, .int .i64 4]))
    have g1 := grown_setCell w1 g 3 (.iface 90 (.agg #[.string { data := #[97, 32, 99, 111, 117, 110, 116] }, .int .i64 4]))
    exact ⟨rfl, hR.write hi hx g1 k1 (.inr ⟨by decide, _, rfl, .inr (.inr (.inl rfl))⟩) hR.within, hM1.then (moved_set hR.own g1)⟩
  · rw [if_neg he]
    have hcH := Lib.hid hc
    clear hc
    go_enter Try.func68, Try.ntmps68
    go_wp2_with fail
    refine hcH.out.mono ?_
    rintro r w1 ⟨rfl, hR, hM1⟩
    clear hcH
    have hc := pReads_any hR
    rw [show decide (e = 0) = false from decide_eq_false he] at hc
    go_wp2_with fail
    refine hc.mono ?_
    rintro r w2 ⟨rfl, rfl⟩
    go_wp2
    go_ret
    exact ⟨rfl, hR, hM1⟩

set_option maxRecDepth 100000 in
set_option maxHeartbeats 800000 in
theorem pCount_ok {F : Nat → Prop} {w : World} {g : Nat} {xs : List Int} {p : Nat} {e : Int} (A M v : Int) (hM0 : 0 ≤ M) (hM9 : M < 9223372036854775808) (h0 : 0 ≤ v) (hv : v ≤ M)
    (hc : Calls Try.prog 27 #[.pointer (some ⟨g, 0, none⟩), .int .i64 A] w fun r w' => r = .returned (.int .u64 v) ∧ RdAt F w' g xs p e ∧ Moved F w w') :
    Calls Try.prog 68 #[.pointer (some ⟨g, 0, none⟩), .int .i64 A, .int .i64 M] w fun r w' => r = .returned (.int .i64 v) ∧ RdAt F w' g xs p e ∧ Moved F w w' := by
  have u1 : IntKind.u64.wrap M = M := by rw [IntKind.wrap_u64]; omega
  have u2H := Lib.hid (show wrap64 v = v by unfold wrap64; omega)
  clear hM9
  have hcH := Lib.hid hc
  clear hc
  go_enter Try.func68, Try.ntmps68
  go_wp2_with fail
  refine hcH.out.mono ?_
  rintro r w1 ⟨rfl, hR, hM1⟩
  clear hcH
  go_wp2
  go_ret
  exact ⟨show Ending.returned (.int .i64 (wrap64 v)) = .returned (.int .i64 v) by rw [u2H.out], hR, hM1⟩

set_option maxRecDepth 100000 in
set_option maxHeartbeats 800000 in
theorem pCount_form {F : Nat → Prop} {w : World} {g : Nat} {xs : List Int} {p : Nat} (A M v : Int) (hM0 : 0 ≤ M) (hM9 : M < 9223372036854775808) (hv : ¬ v ≤ M)
    (hc : Calls Try.prog 27 #[.pointer (some ⟨g, 0, none⟩), .int .i64 A] w fun r w' => r = .returned (.int .u64 v) ∧ RdAt F w' g xs p 0 ∧ Moved F w w') :
    Calls Try.prog 68 #[.pointer (some ⟨g, 0, none⟩), .int .i64 A, .int .i64 M] w fun r w' => r = .returned (.int .i64 0) ∧ RdAt F w' g xs p 4 ∧ Moved F w w' := by
  have u1 : IntKind.u64.wrap M = M := by rw [IntKind.wrap_u64]; omega
  clear hM9
  have hcH := Lib.hid hc
  clear hc
  go_enter Try.func68, Try.ntmps68
  go_wp2_with fail
  refine hcH.out.mono ?_
  rintro r w1 ⟨rfl, hR, hM1⟩
  clear hcH
  have hc := pReads_any hR
  rw [show decide ((0 : Int) = 0) = true from rfl] at hc
  obtain ⟨a, n, c, fv, t, hb, hi, hf, hx⟩ := hR.is
  obtain ⟨c0, c1, c2, c3, c4⟩ := rdCells hb
  have z3 := hb.frozen 3
  have hbH := Lib.hid hb
  clear hb
  go_wp2_with fail
  refine hc.mono ?_
  rintro r w2 ⟨rfl, rfl⟩
  go_wp2
  go_ret
  have k1 := hbH.out.set 3 (.iface 90 (.agg #[.string { data := #[97, 32, 99, 111, 117, 110, 116] }, .int .i64 4]))
  have g1 := grown_setCell w1 g 3 (.iface 90 (.agg #[.string { data := #[97, 32, 99, 111, 117, 110, 116] }, .int .i64 4]))
  exact ⟨rfl, hR.write hi hx g1 k1 (.inr ⟨by decide, _, rfl, .inr (.inr (.inl rfl))⟩) hR.within, hM1.then (moved_set hR.own g1)⟩

theorem rdNum_bad (xs : List Int) (p : Nat) (e A : Int) (h : (rdNum xs p e A).2.1 ≠ 0) : (rdNum xs p e A).2.2 = 0 := by
  unfold rdNum at h ⊢
  by_cases hA : A < 1 ∨ 8 < A
  · rw [if_pos hA]
  · rw [if_neg hA] at h ⊢
    have hk : (rdStep xs.length p e A).2.2 = 0 := by
      unfold rdStep at h ⊢
      split
      · rfl
      split
      · rfl
      split
      · rfl
      · rename_i h1 h2 h3
        rw [if_neg h1, if_neg h2, if_neg h3] at h
        exact absurd rfl h
    show be (rdBytes xs p e A) = 0
    unfold rdBytes
    rw [hk]
    rfl

theorem pCount_any {F : Nat → Prop} {w : World} {g : Nat} {xs : List Int} {p : Nat} {e : Int} (A M : Int) (hM9 : M < 9223372036854775808) (h : RdAt F w g xs p e) :
    Calls Try.prog 68 #[.pointer (some ⟨g, 0, none⟩), .int .i64 A, .int .i64 M] w fun r w' => r = .returned (.int .i64 (rdCount xs p e A M).2.2) ∧ RdAt F w' g xs (rdCount xs p e A M).1 (rdCount xs p e A M).2.1 ∧ Moved F w w' := by
  have hc := pNum_any A h
  have hv := rdNum_val h.range e A h.within
  have hbad := rdNum_bad xs p e A
  unfold rdCount
  generalize rdNum xs p e A = q at *
  obtain ⟨p', e', v⟩ := q
  dsimp only at hc hv hbad ⊢
  by_cases hM : 0 ≤ M
  · by_cases hle : v ≤ M
    · have := pCount_ok A M v hM hM9 hv.1 hle hc
      by_cases he : e' ≠ 0
      · rw [if_pos he]
        have hv0 := hbad he
        rw [hv0] at this
        exact this
      · rw [if_neg he, if_neg (by omega)]
        obtain rfl : e' = 0 := by omega
        exact this
    · have he : ¬ e' ≠ 0 := fun he => by have := hbad he; omega
      rw [if_neg he, if_pos (by omega)]
      obtain rfl : e' = 0 := by omega
      exact pCount_form A M v hM hM9 hle hc
  · have := pCount_neg A M v hM hc
    by_cases he : e' ≠ 0
    · rw [if_pos he]
      rw [if_neg he] at this
      exact this
    · rw [if_neg he, if_pos (by omega)]
      rw [if_pos (by omega)] at this
      exact this
end Go.Proofs.Ytaaflnmdaplfkaa

/-
  What the program's Id and Hint come to. New memory and the reader alone are written. Conditions: those of a reader in memory.
-/
namespace Go.Proofs.Ytaaflnmdaplfkaa
open Go.RowKit

set_option maxRecDepth 100000 in
set_option maxHeartbeats 1000000 in
theorem pId_any {F : Nat → Prop} {w : World} {g : Nat} {xs : List Int} {p : Nat} {e : Int} (h : RdAt F w g xs p e) :
    Calls Try.prog 30 #[.pointer (some ⟨g, 0, none⟩)] w fun r w' => r = .returned (.agg ((padTo 32 (rdBytes xs p e 32)).map (Value.int .u8)).toArray) ∧ RdAt F w' g xs (rdStep xs.length p e 32).1 (rdStep xs.length p e 32).2.1 ∧ Moved F w w' := by
  have hw := h.within
  have hc := fun W (hW : RdAt F W g xs p e) => pNext_any { data := #[97, 110, 32, 105, 100] } true 1 32 hW (by decide) (fun _ => by decide)
  rw [nx_one _ _ _ 32 hw (by decide)] at hc
  rw [show ((32 : Nat) : Int) = 32 from rfl] at hc
  have hcap := rdStep_cap xs.length p e 32
  rw [show (32 : Int).toNat = 32 from rfl] at hcap
  unfold rdBytes
  obtain ⟨K, hK0⟩ : ∃ K, (rdStep xs.length p e 32).2.2 = K := ⟨_, rfl⟩
  obtain ⟨P, hP⟩ : ∃ P, (rdStep xs.length p e 32).1 = P := ⟨_, rfl⟩
  obtain ⟨E, hE⟩ : ∃ E, (rdStep xs.length p e 32).2.1 = E := ⟨_, rfl⟩
  rw [hK0, hP, hE] at hc
  rw [hK0, hP, hE]
  rw [hK0] at hcap
  obtain ⟨Y, hY⟩ : ∃ Y, (xs.drop p).take K = Y := ⟨_, rfl⟩
  rw [hY] at hc ⊢
  have hlt := Lib.hid h.lt
  have hcH := Lib.hid hc
  clear hK0 hP hE hY hw hc
  obtain ⟨Zs, hZs⟩ : ∃ Zs, List.replicate 32 (Value.int .u8 0) = Zs := ⟨_, rfl⟩
  have hZZ : Zero Try.prog 28 Zs := hZs ▸ zeroId9
  have hZl : Zs.length = 32 := by rw [← hZs, List.length_replicate]
  have hZH := Lib.hid hZs
  clear hZs
  go_enter Try.func30, Try.ntmps30
  go_wp2_with (with_reducible refine wpList_alloc_blk rfl 28 rfl hZZ ?_)
  obtain ⟨V, hV⟩ : ∃ V, (w.alloc (.cells Zs.toArray 28)).alloc (.cells Zs.toArray 28) = V := ⟨_, rfl⟩
  have hr : Blk V w.heap.size 28 Zs := by rw [← hV]; exact (Blk.new w _ _).alloc _
  have hi : Blk V (w.heap.size + 1) 28 Zs := by rw [← hV]; exact Blk.new1 w _ _ _
  have hB : Below w.heap.size w V := by rw [← hV]; exact below2 w _ _
  rw [hV]
  simp only [size1, Act.put, List.setIfInBounds_toArray, List.set_cons_zero, List.set_cons_succ]
  have hRV := h.keep (fun b hb => hB.block b (h.lt b hb)) hB.size
  clear hV
  obtain ⟨G, hG⟩ : ∃ G, w.heap.size + 1 = G := ⟨_, rfl⟩
  have hGH := Lib.hid hG
  rw [hG] at hi ⊢
  clear hG
  refine region_seqS (fun _ => True) (by kernel_rfl) trivial ?_
  simp only [pairs, Nat.reduceAdd]
  have hr1 : Blk V.drew w.heap.size 28 Zs := hr
  have hi1 : Blk V.drew G 28 Zs := hi
  have hR1 : RdAt F V.drew g xs p e := hRV.keep (fun _ _ => rfl) (Nat.le_refl _)
  have hB1 : Below w.heap.size w V.drew := Below.drew hB
  obtain ⟨U, hU⟩ : ∃ U, V.drew = U := ⟨_, rfl⟩
  rw [hU] at hr1 hi1 hR1 hB1 ⊢
  clear hU hr hi hRV hB
  repeat (first
    | (refine SeqS.take (v := ?_) (by first | assumption | trivial) (by kernel_rfl) (by decide +kernel) (by decide +kernel) (Or.inl ⟨by rfl, ?_⟩) ?_
       rotate_left
       focus
         intro w' hb'
         go_simp
         with_reducible rfl
       simp only [Act.put, List.setIfInBounds_toArray, List.set_cons_zero, List.set_cons_succ])
    | (refine SeqS.take (v := undef) (by first | assumption | trivial) (by kernel_rfl) (by decide +kernel) (by decide +kernel) (Or.inr ⟨by rfl, rfl⟩) ?_
       simp only [Act.put, List.setIfInBounds_toArray, List.set_cons_zero, List.set_cons_succ])
    | (refine SeqS.take1 (v := ?_) (by first | assumption | trivial) (by kernel_rfl) (by decide +kernel) (by decide +kernel) (Or.inl ⟨by rfl, ?_⟩) ?_
       rotate_left
       focus
         intro w' hb'
         go_simp
         with_reducible rfl
       simp only [Act.put, List.setIfInBounds_toArray, List.set_cons_zero, List.set_cons_succ])
    | (refine SeqS.take1 (v := undef) (by first | assumption | trivial) (by kernel_rfl) (by decide +kernel) (by decide +kernel) (Or.inr ⟨by rfl, rfl⟩) ?_
       simp only [Act.put, List.setIfInBounds_toArray, List.set_cons_zero, List.set_cons_succ])
    | (refine SeqS.take2 (v := ?_) (by first | assumption | trivial) (by kernel_rfl) (by decide +kernel) (by decide +kernel) (Or.inl ⟨by rfl, ?_⟩) ?_
       rotate_left
       focus
         intro w' hb'
         go_simp
         with_reducible rfl
       simp only [Act.put, List.setIfInBounds_toArray, List.set_cons_zero, List.set_cons_succ])
    | (refine SeqS.take2 (v := undef) (by first | assumption | trivial) (by kernel_rfl) (by decide +kernel) (by decide +kernel) (Or.inr ⟨by rfl, rfl⟩) ?_
       simp only [Act.put, List.setIfInBounds_toArray, List.set_cons_zero, List.set_cons_succ])
    | (refine SeqS.take3 (v := ?_) (by first | assumption | trivial) (by kernel_rfl) (by decide +kernel) (by decide +kernel) (Or.inl ⟨by rfl, ?_⟩) ?_
       rotate_left
       focus
         intro w' hb'
         go_simp
         with_reducible rfl
       simp only [Act.put, List.setIfInBounds_toArray, List.set_cons_zero, List.set_cons_succ])
    | (refine SeqS.take3 (v := undef) (by first | assumption | trivial) (by kernel_rfl) (by decide +kernel) (by decide +kernel) (Or.inr ⟨by rfl, rfl⟩) ?_
       simp only [Act.put, List.setIfInBounds_toArray, List.set_cons_zero, List.set_cons_succ]))
  refine SeqS.alone (by decide +kernel) (by rfl) (fun K1 hK1 => ?_)
  go_simp
  refine (hcH.out U hR1).mono ?_
  rintro r w2 ⟨a, c, rfl, hI, hx, hR2, hM2⟩
  have nfr : ¬ F w.heap.size := fun hf => Nat.lt_irrefl _ (hlt.out _ hf)
  have nfi : ¬ F G := fun hf => by have := hlt.out _ hf; have := hGH.out; omega
  have hr2 : Blk w2 w.heap.size 28 Zs := (hM2.2 _ hr1.lt nfr).trans hr1
  have hi2 : Blk w2 G 28 Zs := (hM2.2 _ hi1.lt nfi).trans hi1
  have hM : Moved F w w2 := hM2.after hB1
  clear hcH hx hr1 hi1 hR1 hB1 hM2
  go_simp
  refine hK1 _ _ trivial ?_
  clear hK1 K1
  try simp only [Act.put, List.setIfInBounds_toArray, List.set_cons_zero, List.set_cons_succ]
  refine SeqS.alone (by decide +kernel) (by rfl) (fun K1 hK1 => ?_)
  have CF : CopyFits w2 (some ⟨G, 0, none⟩) a K 32 G 0 Zs.length ((Y.take K).map (Value.int .u8)) := hI.copyFits (by show K = min K 32; omega) (fun _ => rfl) (by rw [hZl]; omega)
  have hKl : ((Y.take K).map (Value.int .u8)).length = K := by rw [List.length_map, List.length_take, hI.len]; omega
  have ov := pad_over 32 Y K hI.len hcap
  rw [hZH.out] at ov
  go_simp
  refine upon_copy 26 26 3 5 Try.underlying26 sizeU8s hi2 CF K hKl ?_
  intro W5 hi5' gr5
  have hi5 : Blk W5 G 28 ((padTo 32 Y).map (Value.int .u8)) := hi5'.cast ov
  have hr5 := hr2.grown gr5 (by intro e; injection e with e; have := hGH.out; omega)
  have hR5 := hR2.keep (fun b hb => gr5.block b (hR2.lt b hb) (by intro e; injection e with e; subst e; exact nfi hb)) gr5.size
  have hM5 : Moved F w W5 := ⟨hM.1.trans ⟨gr5.os, gr5.tape, gr5.output, gr5.size, fun i hi => absurd hi (Nat.not_lt_zero i)⟩, fun b hb hf => (gr5.block b (Nat.lt_of_lt_of_le hb hM.size) (by intro e; injection e with e; have := hGH.out; omega)).trans (hM.2 b hb hf)⟩
  have hPl : (padTo 32 Y).length = 32 := padTo_len (by rw [hI.len]; exact hcap)
  refine hK1 _ _ trivial ?_
  clear hK1 K1 hi5' gr5 hi2 hr2 hR2 hM CF hKl ov hI
  refine SeqS.done (by decide +kernel) ?_
  obtain ⟨X, hX⟩ : ∃ X, (padTo 32 Y).map (Value.int .u8) = X := ⟨_, rfl⟩
  have hXl : X.length = 32 := by rw [← hX, List.length_map, hPl]
  have HI : IsRow Try.prog 28 X.length := by rw [hXl]; exact rowId9
  have HO1 := Lib.hid (show ∀ v ∈ X, v.oneCell' = true by rw [← hX]; exact ints_oneCell' _ _)
  have HOF := Lib.hid (show 0 + X.length ≤ Zs.length by rw [hXl, hZl]; decide)
  have HOV := Lib.hid (overV_all Zs X (by rw [hXl, hZl]))
  rw [hX] at hi5
  have hXH := Lib.hid hX
  clear hX hXl hZH hZl hPl
  go_wp2_with (first
    | ((refine wpList_load_blk rfl 28 (.tmp 3) rfl ?_ hi5 HI rfl ?_); rfl)
    | ((with_reducible refine wpList_store_part rfl 28 (.tmp 2) (.tmp 8) rfl ?_ ?_ hr5 HI HOF.out HO1.out ?_); rfl; rfl; intro w9 hR9 hg9))
  rw [HOV.out] at hR9
  (try simp only [Exit.inBlock, Exit.then])
  refine bodyPost_ret (results_blk rfl rfl hR9 HI) rfl ?_
  refine ⟨by rw [hXH.out], hR5.keep (fun b hb => hg9.block b (hR5.lt b hb) (by intro e; injection e with e; subst e; exact nfr hb)) hg9.size, ?_⟩
  exact ⟨hM5.1.trans ⟨hg9.os, hg9.tape, hg9.output, hg9.size, fun i hi => absurd hi (Nat.not_lt_zero i)⟩, fun b hb hf => (hg9.block b (Nat.lt_of_lt_of_le hb hM5.size) (by intro e; injection e with e; omega)).trans (hM5.2 b hb hf)⟩

set_option maxRecDepth 100000 in
set_option maxHeartbeats 1000000 in
theorem pHint_any {F : Nat → Prop} {w : World} {g : Nat} {xs : List Int} {p : Nat} {e : Int} (h : RdAt F w g xs p e) :
    Calls Try.prog 51 #[.pointer (some ⟨g, 0, none⟩)] w fun r w' => r = .returned (.agg ((padTo 16 (rdBytes xs p e 16)).map (Value.int .u8)).toArray) ∧ RdAt F w' g xs (rdStep xs.length p e 16).1 (rdStep xs.length p e 16).2.1 ∧ Moved F w w' := by
  have hw := h.within
  have hc := fun W (hW : RdAt F W g xs p e) => pNext_any { data := #[97, 32, 104, 105, 110, 116] } true 1 16 hW (by decide) (fun _ => by decide)
  rw [nx_one _ _ _ 16 hw (by decide)] at hc
  rw [show ((16 : Nat) : Int) = 16 from rfl] at hc
  have hcap := rdStep_cap xs.length p e 16
  rw [show (16 : Int).toNat = 16 from rfl] at hcap
  unfold rdBytes
  obtain ⟨K, hK0⟩ : ∃ K, (rdStep xs.length p e 16).2.2 = K := ⟨_, rfl⟩
  obtain ⟨P, hP⟩ : ∃ P, (rdStep xs.length p e 16).1 = P := ⟨_, rfl⟩
  obtain ⟨E, hE⟩ : ∃ E, (rdStep xs.length p e 16).2.1 = E := ⟨_, rfl⟩
  rw [hK0, hP, hE] at hc
  rw [hK0, hP, hE]
  rw [hK0] at hcap
  obtain ⟨Y, hY⟩ : ∃ Y, (xs.drop p).take K = Y := ⟨_, rfl⟩
  rw [hY] at hc ⊢
  have hlt := Lib.hid h.lt
  have hcH := Lib.hid hc
  clear hK0 hP hE hY hw hc
  obtain ⟨Zs, hZs⟩ : ∃ Zs, List.replicate 16 (Value.int .u8 0) = Zs := ⟨_, rfl⟩
  have hZZ : Zero Try.prog 25 Zs := hZs ▸ zeroHint9
  have hZl : Zs.length = 16 := by rw [← hZs, List.length_replicate]
  have hZH := Lib.hid hZs
  clear hZs
  go_enter Try.func51, Try.ntmps51
  go_wp2_with (with_reducible refine wpList_alloc_blk rfl 25 rfl hZZ ?_)
  obtain ⟨V, hV⟩ : ∃ V, (w.alloc (.cells Zs.toArray 25)).alloc (.cells Zs.toArray 25) = V := ⟨_, rfl⟩
  have hr : Blk V w.heap.size 25 Zs := by rw [← hV]; exact (Blk.new w _ _).alloc _
  have hi : Blk V (w.heap.size + 1) 25 Zs := by rw [← hV]; exact Blk.new1 w _ _ _
  have hB : Below w.heap.size w V := by rw [← hV]; exact below2 w _ _
  rw [hV]
  simp only [size1, Act.put, List.setIfInBounds_toArray, List.set_cons_zero, List.set_cons_succ]
  have hRV := h.keep (fun b hb => hB.block b (h.lt b hb)) hB.size
  clear hV
  obtain ⟨G, hG⟩ : ∃ G, w.heap.size + 1 = G := ⟨_, rfl⟩
  have hGH := Lib.hid hG
  rw [hG] at hi ⊢
  clear hG
  refine region_seqS (fun _ => True) (by kernel_rfl) trivial ?_
  simp only [pairs, Nat.reduceAdd]
  have hr1 : Blk V.drew w.heap.size 25 Zs := hr
  have hi1 : Blk V.drew G 25 Zs := hi
  have hR1 : RdAt F V.drew g xs p e := hRV.keep (fun _ _ => rfl) (Nat.le_refl _)
  have hB1 : Below w.heap.size w V.drew := Below.drew hB
  obtain ⟨U, hU⟩ : ∃ U, V.drew = U := ⟨_, rfl⟩
  rw [hU] at hr1 hi1 hR1 hB1 ⊢
  clear hU hr hi hRV hB
  repeat (first
    | (refine SeqS.take (v := ?_) (by first | assumption | trivial) (by kernel_rfl) (by decide +kernel) (by decide +kernel) (Or.inl ⟨by rfl, ?_⟩) ?_
       rotate_left
       focus
         intro w' hb'
         go_simp
         with_reducible rfl
       simp only [Act.put, List.setIfInBounds_toArray, List.set_cons_zero, List.set_cons_succ])
    | (refine SeqS.take (v := undef) (by first | assumption | trivial) (by kernel_rfl) (by decide +kernel) (by decide +kernel) (Or.inr ⟨by rfl, rfl⟩) ?_
       simp only [Act.put, List.setIfInBounds_toArray, List.set_cons_zero, List.set_cons_succ])
    | (refine SeqS.take1 (v := ?_) (by first | assumption | trivial) (by kernel_rfl) (by decide +kernel) (by decide +kernel) (Or.inl ⟨by rfl, ?_⟩) ?_
       rotate_left
       focus
         intro w' hb'
         go_simp
         with_reducible rfl
       simp only [Act.put, List.setIfInBounds_toArray, List.set_cons_zero, List.set_cons_succ])
    | (refine SeqS.take1 (v := undef) (by first | assumption | trivial) (by kernel_rfl) (by decide +kernel) (by decide +kernel) (Or.inr ⟨by rfl, rfl⟩) ?_
       simp only [Act.put, List.setIfInBounds_toArray, List.set_cons_zero, List.set_cons_succ])
    | (refine SeqS.take2 (v := ?_) (by first | assumption | trivial) (by kernel_rfl) (by decide +kernel) (by decide +kernel) (Or.inl ⟨by rfl, ?_⟩) ?_
       rotate_left
       focus
         intro w' hb'
         go_simp
         with_reducible rfl
       simp only [Act.put, List.setIfInBounds_toArray, List.set_cons_zero, List.set_cons_succ])
    | (refine SeqS.take2 (v := undef) (by first | assumption | trivial) (by kernel_rfl) (by decide +kernel) (by decide +kernel) (Or.inr ⟨by rfl, rfl⟩) ?_
       simp only [Act.put, List.setIfInBounds_toArray, List.set_cons_zero, List.set_cons_succ])
    | (refine SeqS.take3 (v := ?_) (by first | assumption | trivial) (by kernel_rfl) (by decide +kernel) (by decide +kernel) (Or.inl ⟨by rfl, ?_⟩) ?_
       rotate_left
       focus
         intro w' hb'
         go_simp
         with_reducible rfl
       simp only [Act.put, List.setIfInBounds_toArray, List.set_cons_zero, List.set_cons_succ])
    | (refine SeqS.take3 (v := undef) (by first | assumption | trivial) (by kernel_rfl) (by decide +kernel) (by decide +kernel) (Or.inr ⟨by rfl, rfl⟩) ?_
       simp only [Act.put, List.setIfInBounds_toArray, List.set_cons_zero, List.set_cons_succ]))
  refine SeqS.alone (by decide +kernel) (by rfl) (fun K1 hK1 => ?_)
  go_simp
  refine (hcH.out U hR1).mono ?_
  rintro r w2 ⟨a, c, rfl, hI, hx, hR2, hM2⟩
  have nfr : ¬ F w.heap.size := fun hf => Nat.lt_irrefl _ (hlt.out _ hf)
  have nfi : ¬ F G := fun hf => by have := hlt.out _ hf; have := hGH.out; omega
  have hr2 : Blk w2 w.heap.size 25 Zs := (hM2.2 _ hr1.lt nfr).trans hr1
  have hi2 : Blk w2 G 25 Zs := (hM2.2 _ hi1.lt nfi).trans hi1
  have hM : Moved F w w2 := hM2.after hB1
  clear hcH hx hr1 hi1 hR1 hB1 hM2
  go_simp
  refine hK1 _ _ trivial ?_
  clear hK1 K1
  try simp only [Act.put, List.setIfInBounds_toArray, List.set_cons_zero, List.set_cons_succ]
  refine SeqS.alone (by decide +kernel) (by rfl) (fun K1 hK1 => ?_)
  have CF : CopyFits w2 (some ⟨G, 0, none⟩) a K 16 G 0 Zs.length ((Y.take K).map (Value.int .u8)) := hI.copyFits (by show K = min K 16; omega) (fun _ => rfl) (by rw [hZl]; omega)
  have hKl : ((Y.take K).map (Value.int .u8)).length = K := by rw [List.length_map, List.length_take, hI.len]; omega
  have ov := pad_over 16 Y K hI.len hcap
  rw [hZH.out] at ov
  go_simp
  refine upon_copy 26 26 3 5 Try.underlying26 sizeU8s hi2 CF K hKl ?_
  intro W5 hi5' gr5
  have hi5 : Blk W5 G 25 ((padTo 16 Y).map (Value.int .u8)) := hi5'.cast ov
  have hr5 := hr2.grown gr5 (by intro e; injection e with e; have := hGH.out; omega)
  have hR5 := hR2.keep (fun b hb => gr5.block b (hR2.lt b hb) (by intro e; injection e with e; subst e; exact nfi hb)) gr5.size
  have hM5 : Moved F w W5 := ⟨hM.1.trans ⟨gr5.os, gr5.tape, gr5.output, gr5.size, fun i hi => absurd hi (Nat.not_lt_zero i)⟩, fun b hb hf => (gr5.block b (Nat.lt_of_lt_of_le hb hM.size) (by intro e; injection e with e; have := hGH.out; omega)).trans (hM.2 b hb hf)⟩
  have hPl : (padTo 16 Y).length = 16 := padTo_len (by rw [hI.len]; exact hcap)
  refine hK1 _ _ trivial ?_
  clear hK1 K1 hi5' gr5 hi2 hr2 hR2 hM CF hKl ov hI
  refine SeqS.done (by decide +kernel) ?_
  obtain ⟨X, hX⟩ : ∃ X, (padTo 16 Y).map (Value.int .u8) = X := ⟨_, rfl⟩
  have hXl : X.length = 16 := by rw [← hX, List.length_map, hPl]
  have HI : IsRow Try.prog 25 X.length := by rw [hXl]; exact rowHint9
  have HO1 := Lib.hid (show ∀ v ∈ X, v.oneCell' = true by rw [← hX]; exact ints_oneCell' _ _)
  have HOF := Lib.hid (show 0 + X.length ≤ Zs.length by rw [hXl, hZl]; decide)
  have HOV := Lib.hid (overV_all Zs X (by rw [hXl, hZl]))
  rw [hX] at hi5
  have hXH := Lib.hid hX
  clear hX hXl hZH hZl hPl
  go_wp2_with (first
    | ((refine wpList_load_blk rfl 25 (.tmp 3) rfl ?_ hi5 HI rfl ?_); rfl)
    | ((with_reducible refine wpList_store_part rfl 25 (.tmp 2) (.tmp 8) rfl ?_ ?_ hr5 HI HOF.out HO1.out ?_); rfl; rfl; intro w9 hR9 hg9))
  rw [HOV.out] at hR9
  (try simp only [Exit.inBlock, Exit.then])
  refine bodyPost_ret (results_blk rfl rfl hR9 HI) rfl ?_
  refine ⟨by rw [hXH.out], hR5.keep (fun b hb => hg9.block b (hR5.lt b hb) (by intro e; injection e with e; subst e; exact nfr hb)) hg9.size, ?_⟩
  exact ⟨hM5.1.trans ⟨hg9.os, hg9.tape, hg9.output, hg9.size, fun i hi => absurd hi (Nat.not_lt_zero i)⟩, fun b hb hf => (hg9.block b (Nat.lt_of_lt_of_le hb hM5.size) (by intro e; injection e with e; omega)).trans (hM5.2 b hb hf)⟩
end Go.Proofs.Ytaaflnmdaplfkaa

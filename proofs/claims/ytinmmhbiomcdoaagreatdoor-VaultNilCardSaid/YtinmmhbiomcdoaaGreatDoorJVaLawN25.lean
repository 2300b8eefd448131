/-
  Texts of stages that were proved on their own, joined: RpNum, RpCount. Each begins with its own words.
-/
import Derived.Test.YtinmmhbiomcdoaaGreatDoorJVaLawN20
import Derived.WalkLawsBesides
import Derived.Laws.Bits64b

/-
  What the program's Num comes to. New memory and the reader alone are written. Conditions: those of a reader in memory.
-/
namespace Go.Proofs.YtinmmhbiomcdoaaGreatDoor
open Go.RowKit

theorem or_low (a b : Int) (ha : 0 ≤ a) (hs : 256 * a + b < 18446744073709551616) (hb : 0 ≤ b ∧ b < 256) : bits BinOp.or IntKind.u64 (IntKind.u64.wrap (a * 256)) (IntKind.u64.wrap b) = 256 * a + b := by
  obtain ⟨m, rfl⟩ : ∃ m : Nat, a = m := ⟨a.toNat, by omega⟩
  obtain ⟨n, rfl⟩ : ∃ n : Nat, b = n := ⟨b.toNat, by omega⟩
  have h1 : IntKind.u64.wrap ((m : Int) * 256) = ((m * 256 : Nat) : Int) := by rw [IntKind.wrap_u64]; omega
  have h2 : IntKind.u64.wrap (n : Int) = (n : Int) := by rw [IntKind.wrap_u64]; omega
  rw [h1, h2, bits_or_u64_nat _ _ (by omega) (by omega)]
  have h3 : m * 256 ||| n = m * 256 + n := by
    have := Nat.shiftLeft_add_eq_or_of_lt (a := m) (b := n) (i := 8) (by omega)
    rw [Nat.shiftLeft_eq, show (2 : Nat) ^ 8 = 256 from rfl] at this
    omega
  rw [h3]
  omega

set_option maxRecDepth 100000 in
set_option maxHeartbeats 800000 in
theorem pNum_loop {w : World} {g : Nat} (A : Int) (k : Nat) (ys : List Int) (may : Bool) (R : World → Prop)
    (hmay : (may = true ∧ 1 ≤ A ∧ A ≤ 8) ∨ (may = false ∧ ¬ 1 ≤ A) ∨ (may = false ∧ 1 ≤ A ∧ ¬ A ≤ 8))
    (hc : Calls Tryz.prog 130 #[.pointer (some ⟨g, 0, none⟩), .string { data := #[97, 32, 110, 117, 109, 98, 101, 114] }, .bool may, .int .i64 A, .int .i64 1] w fun r w' => ∃ a c, r = .returned (.slice a k c) ∧ Ints .u8 w' a k c ys ∧ R w') (hk : k ≤ 8) (hy : ∀ x ∈ ys, 0 ≤ x ∧ x < 256) :
    Calls Tryz.prog 105 #[.pointer (some ⟨g, 0, none⟩), .int .i64 A] w fun r w' => r = .returned (.int .u64 (be ys)) ∧ R w' := by
  rcases hmay with ⟨rfl, h1, h8⟩ | ⟨rfl, h1⟩ | ⟨rfl, h1, h8⟩
  ·
    have hcH := Lib.hid hc
    clear hc
    go_enter Tryz.func105, Tryz.ntmps105
    go_wp2_with fail
    refine hcH.out.mono ?_
    rintro r w1 ⟨a, c, rfl, hI, hR⟩
    clear hcH
    go_wp2_with fail
    go_loopw [5, 18] (fun v i wr => ∃ j : Nat, j ≤ k ∧ v = .int .u64 (be (ys.take j)) ∧ i = .int .i64 j ∧ w1 = wr) (fun _ i _ => k - (intOf i).toNat)
    case atStart => exact ⟨0, Nat.zero_le _, rfl, rfl, rfl⟩
    case round =>
      obtain ⟨j, hj, rfl, rfl, rfl⟩ := hrel
      by_cases hlt : j < k
      · obtain ⟨q, o, rfl, hat⟩ := hI.at (by omega)
        have cj := hat j hlt
        have hki : (j : Int) < (k : Int) := by omega
        have hlen := hI.len
        have hstep := be_take ys j (by rw [hlen]; exact hlt)
        have hbt := be_lt (ys.take (j + 1)) (fun x hx => hy x (List.mem_of_mem_take hx)) (by rw [List.length_take]; omega)
        have hbk := be_lt (ys.take j) (fun x hx => hy x (List.mem_of_mem_take hx)) (by rw [List.length_take]; omega)
        have hx := getD_range (p := fun x => 0 ≤ x ∧ x < 256) hy j (by rw [hlen]; exact hlt)
        rw [hstep] at hbt
        have e1 := or_low (be (ys.take j)) (ys.getD j 0) hbk.1 hbt.2 hx
        rw [← hstep, List.getD_eq_getElem?_getD] at e1
        have e1H := Lib.hid e1
        have e2H := Lib.hid (show wrap64 ((j : Int) + 1) = ((j + 1 : Nat) : Int) by unfold wrap64; omega)
        clear e1 hstep hbt hbk hx hlen
        go_wp2
        rw [e1H.out]
        exact ⟨⟨j + 1, by omega, rfl, rfl, trivial⟩, by simp [intOf]; omega⟩
      · obtain rfl : j = k := by omega
        rw [List.take_of_length_le (by rw [hI.len]; exact Nat.le_refl _)]
        go_wp2
        go_ret
        exact ⟨rfl, hR⟩
  ·
    have hcH := Lib.hid hc
    clear hc
    go_enter Tryz.func105, Tryz.ntmps105
    go_wp2_with fail
    refine hcH.out.mono ?_
    rintro r w1 ⟨a, c, rfl, hI, hR⟩
    clear hcH
    go_wp2_with fail
    go_loopw [5, 18] (fun v i wr => ∃ j : Nat, j ≤ k ∧ v = .int .u64 (be (ys.take j)) ∧ i = .int .i64 j ∧ w1 = wr) (fun _ i _ => k - (intOf i).toNat)
    case atStart => exact ⟨0, Nat.zero_le _, rfl, rfl, rfl⟩
    case round =>
      obtain ⟨j, hj, rfl, rfl, rfl⟩ := hrel
      by_cases hlt : j < k
      · obtain ⟨q, o, rfl, hat⟩ := hI.at (by omega)
        have cj := hat j hlt
        have hki : (j : Int) < (k : Int) := by omega
        have hlen := hI.len
        have hstep := be_take ys j (by rw [hlen]; exact hlt)
        have hbt := be_lt (ys.take (j + 1)) (fun x hx => hy x (List.mem_of_mem_take hx)) (by rw [List.length_take]; omega)
        have hbk := be_lt (ys.take j) (fun x hx => hy x (List.mem_of_mem_take hx)) (by rw [List.length_take]; omega)
        have hx := getD_range (p := fun x => 0 ≤ x ∧ x < 256) hy j (by rw [hlen]; exact hlt)
        rw [hstep] at hbt
        have e1 := or_low (be (ys.take j)) (ys.getD j 0) hbk.1 hbt.2 hx
        rw [← hstep, List.getD_eq_getElem?_getD] at e1
        have e1H := Lib.hid e1
        have e2H := Lib.hid (show wrap64 ((j : Int) + 1) = ((j + 1 : Nat) : Int) by unfold wrap64; omega)
        clear e1 hstep hbt hbk hx hlen
        go_wp2
        rw [e1H.out]
        exact ⟨⟨j + 1, by omega, rfl, rfl, trivial⟩, by simp [intOf]; omega⟩
      · obtain rfl : j = k := by omega
        rw [List.take_of_length_le (by rw [hI.len]; exact Nat.le_refl _)]
        go_wp2
        go_ret
        exact ⟨rfl, hR⟩
  ·
    have hcH := Lib.hid hc
    clear hc
    go_enter Tryz.func105, Tryz.ntmps105
    go_wp2_with fail
    refine hcH.out.mono ?_
    rintro r w1 ⟨a, c, rfl, hI, hR⟩
    clear hcH
    go_wp2_with fail
    go_loopw [5, 18] (fun v i wr => ∃ j : Nat, j ≤ k ∧ v = .int .u64 (be (ys.take j)) ∧ i = .int .i64 j ∧ w1 = wr) (fun _ i _ => k - (intOf i).toNat)
    case atStart => exact ⟨0, Nat.zero_le _, rfl, rfl, rfl⟩
    case round =>
      obtain ⟨j, hj, rfl, rfl, rfl⟩ := hrel
      by_cases hlt : j < k
      · obtain ⟨q, o, rfl, hat⟩ := hI.at (by omega)
        have cj := hat j hlt
        have hki : (j : Int) < (k : Int) := by omega
        have hlen := hI.len
        have hstep := be_take ys j (by rw [hlen]; exact hlt)
        have hbt := be_lt (ys.take (j + 1)) (fun x hx => hy x (List.mem_of_mem_take hx)) (by rw [List.length_take]; omega)
        have hbk := be_lt (ys.take j) (fun x hx => hy x (List.mem_of_mem_take hx)) (by rw [List.length_take]; omega)
        have hx := getD_range (p := fun x => 0 ≤ x ∧ x < 256) hy j (by rw [hlen]; exact hlt)
        rw [hstep] at hbt
        have e1 := or_low (be (ys.take j)) (ys.getD j 0) hbk.1 hbt.2 hx
        rw [← hstep, List.getD_eq_getElem?_getD] at e1
        have e1H := Lib.hid e1
        have e2H := Lib.hid (show wrap64 ((j : Int) + 1) = ((j + 1 : Nat) : Int) by unfold wrap64; omega)
        clear e1 hstep hbt hbk hx hlen
        go_wp2
        rw [e1H.out]
        exact ⟨⟨j + 1, by omega, rfl, rfl, trivial⟩, by simp [intOf]; omega⟩
      · obtain rfl : j = k := by omega
        rw [List.take_of_length_le (by rw [hI.len]; exact Nat.le_refl _)]
        go_wp2
        go_ret
        exact ⟨rfl, hR⟩
theorem nx_num (n p : Nat) (e A : Int) (hp : p ≤ n) (may : Bool) (hmay : may = decide (1 ≤ A ∧ A ≤ 8)) :
    (nx n p e may A 1).1 = (if A < 1 ∨ 8 < A then p else (rdStep n p e A).1) ∧ (nx n p e may A 1).2.1 = (if A < 1 ∨ 8 < A then badOf e 1 else (rdStep n p e A).2.1) ∧ (nx n p e may A 1).2.2 = (if A < 1 ∨ 8 < A then 0 else (rdStep n p e A).2.2) := by
  by_cases h : A < 1 ∨ 8 < A
  · rw [if_pos h, if_pos h, if_pos h]
    have hm : may = false := by rw [hmay]; exact decide_eq_false (by omega)
    subst hm
    unfold nx badOf
    by_cases he : e ≠ 0
    · rw [if_pos he, if_neg he]
      exact ⟨rfl, rfl, rfl⟩
    · rw [if_neg he, if_pos rfl, if_pos (by omega)]
      exact ⟨rfl, rfl, rfl⟩
  · rw [if_neg h, if_neg h, if_neg h]
    have hm : may = decide (0 ≤ A) := by rw [hmay, decide_eq_true (by omega), decide_eq_true (by omega)]
    rw [hm, nx_bytes n p e A hp]
    exact ⟨rfl, rfl, rfl⟩

theorem pNum_any {F : Nat → Prop} {w : World} {g : Nat} {xs : List Int} {p : Nat} {e : Int} (A : Int) (h : RdAt F w g xs p e) :
    Calls Tryz.prog 105 #[.pointer (some ⟨g, 0, none⟩), .int .i64 A] w fun r w' => r = .returned (.int .u64 (rdNum xs p e A).2.2) ∧ RdAt F w' g xs (rdNum xs p e A).1 (rdNum xs p e A).2.1 ∧ Moved F w w' := by
  obtain ⟨may, hmay⟩ : ∃ may, may = decide (1 ≤ A ∧ A ≤ 8) := ⟨_, rfl⟩
  have hw := h.within
  obtain ⟨q1, q2, q3⟩ := nx_num xs.length p e A hw may hmay
  have hc := pNext_any { data := #[97, 32, 110, 117, 109, 98, 101, 114] } may A 1 h (Nat.le_refl _) (fun hm => by rw [hmay] at hm; have := of_decide_eq_true hm; omega)
  rw [q1, q2, q3] at hc
  have hm3 : (may = true ∧ 1 ≤ A ∧ A ≤ 8) ∨ (may = false ∧ ¬ 1 ≤ A) ∨ (may = false ∧ 1 ≤ A ∧ ¬ A ≤ 8) := by
    by_cases h1 : 1 ≤ A
    · by_cases h8 : A ≤ 8
      · exact .inl ⟨by rw [hmay]; exact decide_eq_true ⟨h1, h8⟩, h1, h8⟩
      · exact .inr (.inr ⟨by rw [hmay]; exact decide_eq_false (by omega), h1, h8⟩)
    · exact .inr (.inl ⟨by rw [hmay]; exact decide_eq_false (by omega), h1⟩)
  have hk8 : (if A < 1 ∨ 8 < A then 0 else (rdStep xs.length p e A).2.2) ≤ 8 := by
    split
    · exact Nat.zero_le _
    · unfold rdStep
      split
      · exact Nat.zero_le _
      split
      · exact Nat.zero_le _
      split
      · exact Nat.zero_le _
      · simp only; omega
  have hbe : be ((xs.drop p).take (if A < 1 ∨ 8 < A then 0 else (rdStep xs.length p e A).2.2)) = (rdNum xs p e A).2.2 := by
    unfold rdNum rdBytes
    by_cases hA : A < 1 ∨ 8 < A
    · rw [if_pos hA, if_pos hA]
      rfl
    · rw [if_neg hA, if_neg hA]
  have hp : (if A < 1 ∨ 8 < A then p else (rdStep xs.length p e A).1) = (rdNum xs p e A).1 := by
    unfold rdNum
    by_cases hA : A < 1 ∨ 8 < A
    · rw [if_pos hA, if_pos hA]
    · rw [if_neg hA, if_neg hA]
  have he : (if A < 1 ∨ 8 < A then badOf e 1 else (rdStep xs.length p e A).2.1) = (rdNum xs p e A).2.1 := by
    unfold rdNum
    by_cases hA : A < 1 ∨ 8 < A
    · rw [if_pos hA, if_pos hA]
    · rw [if_neg hA, if_neg hA]
  rw [hp, he] at hc
  rw [← hbe]
  obtain ⟨K, hK⟩ : ∃ K, (if A < 1 ∨ 8 < A then 0 else (rdStep xs.length p e A).2.2) = K := ⟨_, rfl⟩
  rw [hK] at hc hk8 ⊢
  obtain ⟨Y, hY⟩ : ∃ Y, (xs.drop p).take K = Y := ⟨_, rfl⟩
  have hyr : ∀ x ∈ Y, 0 ≤ x ∧ x < 256 := by
    intro x hx
    rw [← hY] at hx
    exact h.range x (List.mem_of_mem_drop (List.mem_of_mem_take hx))
  rw [hY] at hc ⊢
  exact pNum_loop A K Y may (fun w' => RdAt F w' g xs (rdNum xs p e A).1 (rdNum xs p e A).2.1 ∧ Moved F w w') hm3 (hc.mono fun r w' ⟨a, c, hr, hI, _, hR⟩ => ⟨a, c, hr, hI, hR⟩) hk8 hyr
end Go.Proofs.YtinmmhbiomcdoaaGreatDoor

/-
  What the program's Count comes to. New memory and the reader alone are written. Conditions: those of a reader in memory; the greatest count is an int.
-/
namespace Go.Proofs.YtinmmhbiomcdoaaGreatDoor
open Go.RowKit

set_option maxRecDepth 100000 in
set_option maxHeartbeats 800000 in
theorem pCount_neg {F : Nat → Prop} {w : World} {g : Nat} {xs : List Int} {p : Nat} {e : Int} (A M v : Int) (hM : ¬ 0 ≤ M)
    (hc : Calls Tryz.prog 105 #[.pointer (some ⟨g, 0, none⟩), .int .i64 A] w fun r w' => r = .returned (.int .u64 v) ∧ RdAt F w' g xs p e ∧ Moved F w w') :
    Calls Tryz.prog 141 #[.pointer (some ⟨g, 0, none⟩), .int .i64 A, .int .i64 M] w fun r w' => r = .returned (.int .i64 0) ∧ RdAt F w' g xs p (if e = 0 then 4 else e) ∧ Moved F w w' := by
  by_cases he : e = 0
  · subst he
    rw [if_pos rfl]
    have hcH := Lib.hid hc
    clear hc
    go_enter Tryz.func141, Tryz.ntmps141
    go_wp2_with fail
    refine hcH.out.mono ?_
    rintro r w1 ⟨rfl, hR, hM1⟩
    clear hcH
    have hc := pReads_any hR
    rw [show decide ((0 : Int) = 0) = true from rfl] at hc
    obtain ⟨a, n, c, fv, t, hb, hi, hf, hx⟩ := hR.is
    obtain ⟨c0, c1, c2, c3, c4⟩ := rdCells hb
    have z3 := hb.frozen 3
    have hbH := Lib.hid hb
    clear hb
    go_wp2_with fail
    refine hc.mono ?_
    rintro r w2 ⟨rfl, rfl⟩
    go_wp2
    go_ret
    have k1 := hbH.out.set 3 (.iface 222 (.agg #[.string { data := #[97, 32, 99, 111, 117, 110, 116] }, .int .i64 4]))
    have g1 := grown_setCell w1 g 3 (.iface 222 (.agg #[.string { data := #[97, 32, 99, 111, 117, 110, 116] }, .int .i64 4]))
    exact ⟨rfl, hR.write hi hx g1 k1 (.inr ⟨by decide, _, rfl, .inr (.inr (.inl rfl))⟩) hR.within, hM1.then (moved_set hR.own g1)⟩
  · rw [if_neg he]
    have hcH := Lib.hid hc
    clear hc
    go_enter Tryz.func141, Tryz.ntmps141
    go_wp2_with fail
    refine hcH.out.mono ?_
    rintro r w1 ⟨rfl, hR, hM1⟩
    clear hcH
    have hc := pReads_any hR
    rw [show decide (e = 0) = false from decide_eq_false he] at hc
    go_wp2_with fail
    refine hc.mono ?_
    rintro r w2 ⟨rfl, rfl⟩
    go_wp2
    go_ret
    exact ⟨rfl, hR, hM1⟩

set_option maxRecDepth 100000 in
set_option maxHeartbeats 800000 in
theorem pCount_ok {F : Nat → Prop} {w : World} {g : Nat} {xs : List Int} {p : Nat} {e : Int} (A M v : Int) (hM0 : 0 ≤ M) (hM9 : M < 9223372036854775808) (h0 : 0 ≤ v) (hv : v ≤ M)
    (hc : Calls Tryz.prog 105 #[.pointer (some ⟨g, 0, none⟩), .int .i64 A] w fun r w' => r = .returned (.int .u64 v) ∧ RdAt F w' g xs p e ∧ Moved F w w') :
    Calls Tryz.prog 141 #[.pointer (some ⟨g, 0, none⟩), .int .i64 A, .int .i64 M] w fun r w' => r = .returned (.int .i64 v) ∧ RdAt F w' g xs p e ∧ Moved F w w' := by
  have u1 : IntKind.u64.wrap M = M := by rw [IntKind.wrap_u64]; omega
  have u2H := Lib.hid (show wrap64 v = v by unfold wrap64; omega)
  clear hM9
  have hcH := Lib.hid hc
  clear hc
  go_enter Tryz.func141, Tryz.ntmps141
  go_wp2_with fail
  refine hcH.out.mono ?_
  rintro r w1 ⟨rfl, hR, hM1⟩
  clear hcH
  go_wp2
  go_ret
  exact ⟨show Ending.returned (.int .i64 (wrap64 v)) = .returned (.int .i64 v) by rw [u2H.out], hR, hM1⟩

set_option maxRecDepth 100000 in
set_option maxHeartbeats 800000 in
theorem pCount_form {F : Nat → Prop} {w : World} {g : Nat} {xs : List Int} {p : Nat} (A M v : Int) (hM0 : 0 ≤ M) (hM9 : M < 9223372036854775808) (hv : ¬ v ≤ M)
    (hc : Calls Tryz.prog 105 #[.pointer (some ⟨g, 0, none⟩), .int .i64 A] w fun r w' => r = .returned (.int .u64 v) ∧ RdAt F w' g xs p 0 ∧ Moved F w w') :
    Calls Tryz.prog 141 #[.pointer (some ⟨g, 0, none⟩), .int .i64 A, .int .i64 M] w fun r w' => r = .returned (.int .i64 0) ∧ RdAt F w' g xs p 4 ∧ Moved F w w' := by
  have u1 : IntKind.u64.wrap M = M := by rw [IntKind.wrap_u64]; omega
  clear hM9
  have hcH := Lib.hid hc
  clear hc
  go_enter Tryz.func141, Tryz.ntmps141
  go_wp2_with fail
  refine hcH.out.mono ?_
  rintro r w1 ⟨rfl, hR, hM1⟩
  clear hcH
  have hc := pReads_any hR
  rw [show decide ((0 : Int) = 0) = true from rfl] at hc
  obtain ⟨a, n, c, fv, t, hb, hi, hf, hx⟩ := hR.is
  obtain ⟨c0, c1, c2, c3, c4⟩ := rdCells hb
  have z3 := hb.frozen 3
  have hbH := Lib.hid hb
  clear hb
  go_wp2_with fail
  refine hc.mono ?_
  rintro r w2 ⟨rfl, rfl⟩
  go_wp2
  go_ret
  have k1 := hbH.out.set 3 (.iface 222 (.agg #[.string { data := #[97, 32, 99, 111, 117, 110, 116] }, .int .i64 4]))
  have g1 := grown_setCell w1 g 3 (.iface 222 (.agg #[.string { data := #[97, 32, 99, 111, 117, 110, 116] }, .int .i64 4]))
  exact ⟨rfl, hR.write hi hx g1 k1 (.inr ⟨by decide, _, rfl, .inr (.inr (.inl rfl))⟩) hR.within, hM1.then (moved_set hR.own g1)⟩

theorem rdNum_bad (xs : List Int) (p : Nat) (e A : Int) (h : (rdNum xs p e A).2.1 ≠ 0) : (rdNum xs p e A).2.2 = 0 := by
  unfold rdNum at h ⊢
  by_cases hA : A < 1 ∨ 8 < A
  · rw [if_pos hA]
  · rw [if_neg hA] at h ⊢
    have hk : (rdStep xs.length p e A).2.2 = 0 := by
      unfold rdStep at h ⊢
      split
      · rfl
      split
      · rfl
      split
      · rfl
      · rename_i h1 h2 h3
        rw [if_neg h1, if_neg h2, if_neg h3] at h
        exact absurd rfl h
    show be (rdBytes xs p e A) = 0
    unfold rdBytes
    rw [hk]
    rfl

theorem pCount_any {F : Nat → Prop} {w : World} {g : Nat} {xs : List Int} {p : Nat} {e : Int} (A M : Int) (hM9 : M < 9223372036854775808) (h : RdAt F w g xs p e) :
    Calls Tryz.prog 141 #[.pointer (some ⟨g, 0, none⟩), .int .i64 A, .int .i64 M] w fun r w' => r = .returned (.int .i64 (rdCount xs p e A M).2.2) ∧ RdAt F w' g xs (rdCount xs p e A M).1 (rdCount xs p e A M).2.1 ∧ Moved F w w' := by
  have hc := pNum_any A h
  have hv := rdNum_val h.range e A h.within
  have hbad := rdNum_bad xs p e A
  unfold rdCount
  generalize rdNum xs p e A = q at *
  obtain ⟨p', e', v⟩ := q
  dsimp only at hc hv hbad ⊢
  by_cases hM : 0 ≤ M
  · by_cases hle : v ≤ M
    · have := pCount_ok A M v hM hM9 hv.1 hle hc
      by_cases he : e' ≠ 0
      · rw [if_pos he]
        have hv0 := hbad he
        rw [hv0] at this
        exact this
      · rw [if_neg he, if_neg (by omega)]
        obtain rfl : e' = 0 := by omega
        exact this
    · have he : ¬ e' ≠ 0 := fun he => by have := hbad he; omega
      rw [if_neg he, if_pos (by omega)]
      obtain rfl : e' = 0 := by omega
      exact pCount_form A M v hM hM9 hle hc
  · have := pCount_neg A M v hM hc
    by_cases he : e' ≠ 0
    · rw [if_pos he]
      rw [if_neg he] at this
      exact this
    · rw [if_neg he, if_pos (by omega)]
      rw [if_pos (by omega)] at this
      exact this
end Go.Proofs.YtinmmhbiomcdoaaGreatDoor

/-
  Texts of stages that were proved on their own, joined: RpNum. Each begins with its own words.
-/
import Derived.Test.YtbiabjehdmddbaaGreatDoorJRlAll22
import Derived.WalkLawsBesides
import Derived.Laws.Bits64b

/-
  What the program's Num comes to. New memory and the reader alone are written. Conditions: those of a reader in memory.
-/
namespace Go.Proofs.YtbiabjehdmddbaaGreatDoor
open Go.RowKit

theorem or_low (a b : Int) (ha : 0 ≤ a) (hs : 256 * a + b < 18446744073709551616) (hb : 0 ≤ b ∧ b < 256) : bits BinOp.or IntKind.u64 (IntKind.u64.wrap (a * 256)) (IntKind.u64.wrap b) = 256 * a + b := by
  obtain ⟨m, rfl⟩ : ∃ m : Nat, a = m := ⟨a.toNat, by omega⟩
  obtain ⟨n, rfl⟩ : ∃ n : Nat, b = n := ⟨b.toNat, by omega⟩
  have h1 : IntKind.u64.wrap ((m : Int) * 256) = ((m * 256 : Nat) : Int) := by rw [IntKind.wrap_u64]; omega
  have h2 : IntKind.u64.wrap (n : Int) = (n : Int) := by rw [IntKind.wrap_u64]; omega
  rw [h1, h2, bits_or_u64_nat _ _ (by omega) (by omega)]
  have h3 : m * 256 ||| n = m * 256 + n := by
    have := Nat.shiftLeft_add_eq_or_of_lt (a := m) (b := n) (i := 8) (by omega)
    rw [Nat.shiftLeft_eq, show (2 : Nat) ^ 8 = 256 from rfl] at this
    omega
  rw [h3]
  omega

set_option maxRecDepth 100000 in
set_option maxHeartbeats 800000 in
theorem pNum_loop {w : World} {g : Nat} (A : Int) (k : Nat) (ys : List Int) (may : Bool) (R : World → Prop)
    (hmay : (may = true ∧ 1 ≤ A ∧ A ≤ 8) ∨ (may = false ∧ ¬ 1 ≤ A) ∨ (may = false ∧ 1 ≤ A ∧ ¬ A ≤ 8))
    (hc : Calls Tryz.prog 50 #[.pointer (some ⟨g, 0, none⟩), .string { data := #[97, 32, 110, 117, 109, 98, 101, 114] }, .bool may, .int .i64 A, .int .i64 1] w fun r w' => ∃ a c, r = .returned (.slice a k c) ∧ Ints .u8 w' a k c ys ∧ R w') (hk : k ≤ 8) (hy : ∀ x ∈ ys, 0 ≤ x ∧ x < 256) :
    Calls Tryz.prog 29 #[.pointer (some ⟨g, 0, none⟩), .int .i64 A] w fun r w' => r = .returned (.int .u64 (be ys)) ∧ R w' := by
  rcases hmay with ⟨rfl, h1, h8⟩ | ⟨rfl, h1⟩ | ⟨rfl, h1, h8⟩
  ·
    have hcH := Lib.hid hc
    clear hc
    go_enter Tryz.func29, Tryz.ntmps29
    go_wp2_with fail
    refine hcH.out.mono ?_
    rintro r w1 ⟨a, c, rfl, hI, hR⟩
    clear hcH
    go_wp2_with fail
    go_loopw [5, 18] (fun v i wr => ∃ j : Nat, j ≤ k ∧ v = .int .u64 (be (ys.take j)) ∧ i = .int .i64 j ∧ w1 = wr) (fun _ i _ => k - (intOf i).toNat)
    case atStart => exact ⟨0, Nat.zero_le _, rfl, rfl, rfl⟩
    case round =>
      obtain ⟨j, hj, rfl, rfl, rfl⟩ := hrel
      by_cases hlt : j < k
      · obtain ⟨q, o, rfl, hat⟩ := hI.at (by omega)
        have cj := hat j hlt
        have hki : (j : Int) < (k : Int) := by omega
        have hlen := hI.len
        have hstep := be_take ys j (by rw [hlen]; exact hlt)
        have hbt := be_lt (ys.take (j + 1)) (fun x hx => hy x (List.mem_of_mem_take hx)) (by rw [List.length_take]; omega)
        have hbk := be_lt (ys.take j) (fun x hx => hy x (List.mem_of_mem_take hx)) (by rw [List.length_take]; omega)
        have hx := getD_range (p := fun x => 0 ≤ x ∧ x < 256) hy j (by rw [hlen]; exact hlt)
        rw [hstep] at hbt
        have e1 := or_low (be (ys.take j)) (ys.getD j 0) hbk.1 hbt.2 hx
        rw [← hstep, List.getD_eq_getElem?_getD] at e1
        have e1H := Lib.hid e1
        have e2H := Lib.hid (show wrap64 ((j : Int) + 1) = ((j + 1 : Nat) : Int) by unfold wrap64; omega)
        clear e1 hstep hbt hbk hx hlen
        go_wp2
        rw [e1H.out]
        exact ⟨⟨j + 1, by omega, rfl, rfl, trivial⟩, by simp [intOf]; omega⟩
      · obtain rfl : j = k := by omega
        rw [List.take_of_length_le (by rw [hI.len]; exact Nat.le_refl _)]
        go_wp2
        go_ret
        exact ⟨rfl, hR⟩
  ·
    have hcH := Lib.hid hc
    clear hc
    go_enter Tryz.func29, Tryz.ntmps29
    go_wp2_with fail
    refine hcH.out.mono ?_
    rintro r w1 ⟨a, c, rfl, hI, hR⟩
    clear hcH
    go_wp2_with fail
    go_loopw [5, 18] (fun v i wr => ∃ j : Nat, j ≤ k ∧ v = .int .u64 (be (ys.take j)) ∧ i = .int .i64 j ∧ w1 = wr) (fun _ i _ => k - (intOf i).toNat)
    case atStart => exact ⟨0, Nat.zero_le _, rfl, rfl, rfl⟩
    case round =>
      obtain ⟨j, hj, rfl, rfl, rfl⟩ := hrel
      by_cases hlt : j < k
      · obtain ⟨q, o, rfl, hat⟩ := hI.at (by omega)
        have cj := hat j hlt
        have hki : (j : Int) < (k : Int) := by omega
        have hlen := hI.len
        have hstep := be_take ys j (by rw [hlen]; exact hlt)
        have hbt := be_lt (ys.take (j + 1)) (fun x hx => hy x (List.mem_of_mem_take hx)) (by rw [List.length_take]; omega)
        have hbk := be_lt (ys.take j) (fun x hx => hy x (List.mem_of_mem_take hx)) (by rw [List.length_take]; omega)
        have hx := getD_range (p := fun x => 0 ≤ x ∧ x < 256) hy j (by rw [hlen]; exact hlt)
        rw [hstep] at hbt
        have e1 := or_low (be (ys.take j)) (ys.getD j 0) hbk.1 hbt.2 hx
        rw [← hstep, List.getD_eq_getElem?_getD] at e1
        have e1H := Lib.hid e1
        have e2H := Lib.hid (show wrap64 ((j : Int) + 1) = ((j + 1 : Nat) : Int) by unfold wrap64; omega)
        clear e1 hstep hbt hbk hx hlen
        go_wp2
        rw [e1H.out]
        exact ⟨⟨j + 1, by omega, rfl, rfl, trivial⟩, by simp [intOf]; omega⟩
      · obtain rfl : j = k := by omega
        rw [List.take_of_length_le (by rw [hI.len]; exact Nat.le_refl _)]
        go_wp2
        go_ret
        exact ⟨rfl, hR⟩
  ·
    have hcH := Lib.hid hc
    clear hc
    go_enter Tryz.func29, Tryz.ntmps29
    go_wp2_with fail
    refine hcH.out.mono ?_
    rintro r w1 ⟨a, c, rfl, hI, hR⟩
    clear hcH
    go_wp2_with fail
    go_loopw [5, 18] (fun v i wr => ∃ j : Nat, j ≤ k ∧ v = .int .u64 (be (ys.take j)) ∧ i = .int .i64 j ∧ w1 = wr) (fun _ i _ => k - (intOf i).toNat)
    case atStart => exact ⟨0, Nat.zero_le _, rfl, rfl, rfl⟩
    case round =>
      obtain ⟨j, hj, rfl, rfl, rfl⟩ := hrel
      by_cases hlt : j < k
      · obtain ⟨q, o, rfl, hat⟩ := hI.at (by omega)
        have cj := hat j hlt
        have hki : (j : Int) < (k : Int) := by omega
        have hlen := hI.len
        have hstep := be_take ys j (by rw [hlen]; exact hlt)
        have hbt := be_lt (ys.take (j + 1)) (fun x hx => hy x (List.mem_of_mem_take hx)) (by rw [List.length_take]; omega)
        have hbk := be_lt (ys.take j) (fun x hx => hy x (List.mem_of_mem_take hx)) (by rw [List.length_take]; omega)
        have hx := getD_range (p := fun x => 0 ≤ x ∧ x < 256) hy j (by rw [hlen]; exact hlt)
        rw [hstep] at hbt
        have e1 := or_low (be (ys.take j)) (ys.getD j 0) hbk.1 hbt.2 hx
        rw [← hstep, List.getD_eq_getElem?_getD] at e1
        have e1H := Lib.hid e1
        have e2H := Lib.hid (show wrap64 ((j : Int) + 1) = ((j + 1 : Nat) : Int) by unfold wrap64; omega)
        clear e1 hstep hbt hbk hx hlen
        go_wp2
        rw [e1H.out]
        exact ⟨⟨j + 1, by omega, rfl, rfl, trivial⟩, by simp [intOf]; omega⟩
      · obtain rfl : j = k := by omega
        rw [List.take_of_length_le (by rw [hI.len]; exact Nat.le_refl _)]
        go_wp2
        go_ret
        exact ⟨rfl, hR⟩
theorem nx_num (n p : Nat) (e A : Int) (hp : p ≤ n) (may : Bool) (hmay : may = decide (1 ≤ A ∧ A ≤ 8)) :
    (nx n p e may A 1).1 = (if A < 1 ∨ 8 < A then p else (rdStep n p e A).1) ∧ (nx n p e may A 1).2.1 = (if A < 1 ∨ 8 < A then badOf e 1 else (rdStep n p e A).2.1) ∧ (nx n p e may A 1).2.2 = (if A < 1 ∨ 8 < A then 0 else (rdStep n p e A).2.2) := by
  by_cases h : A < 1 ∨ 8 < A
  · rw [if_pos h, if_pos h, if_pos h]
    have hm : may = false := by rw [hmay]; exact decide_eq_false (by omega)
    subst hm
    unfold nx badOf
    by_cases he : e ≠ 0
    · rw [if_pos he, if_neg he]
      exact ⟨rfl, rfl, rfl⟩
    · rw [if_neg he, if_pos rfl, if_pos (by omega)]
      exact ⟨rfl, rfl, rfl⟩
  · rw [if_neg h, if_neg h, if_neg h]
    have hm : may = decide (0 ≤ A) := by rw [hmay, decide_eq_true (by omega), decide_eq_true (by omega)]
    rw [hm, nx_bytes n p e A hp]
    exact ⟨rfl, rfl, rfl⟩

theorem pNum_any {F : Nat → Prop} {w : World} {g : Nat} {xs : List Int} {p : Nat} {e : Int} (A : Int) (h : RdAt F w g xs p e) :
    Calls Tryz.prog 29 #[.pointer (some ⟨g, 0, none⟩), .int .i64 A] w fun r w' => r = .returned (.int .u64 (rdNum xs p e A).2.2) ∧ RdAt F w' g xs (rdNum xs p e A).1 (rdNum xs p e A).2.1 ∧ Moved F w w' := by
  obtain ⟨may, hmay⟩ : ∃ may, may = decide (1 ≤ A ∧ A ≤ 8) := ⟨_, rfl⟩
  have hw := h.within
  obtain ⟨q1, q2, q3⟩ := nx_num xs.length p e A hw may hmay
  have hc := pNext_any { data := #[97, 32, 110, 117, 109, 98, 101, 114] } may A 1 h (Nat.le_refl _) (fun hm => by rw [hmay] at hm; have := of_decide_eq_true hm; omega)
  rw [q1, q2, q3] at hc
  have hm3 : (may = true ∧ 1 ≤ A ∧ A ≤ 8) ∨ (may = false ∧ ¬ 1 ≤ A) ∨ (may = false ∧ 1 ≤ A ∧ ¬ A ≤ 8) := by
    by_cases h1 : 1 ≤ A
    · by_cases h8 : A ≤ 8
      · exact .inl ⟨by rw [hmay]; exact decide_eq_true ⟨h1, h8⟩, h1, h8⟩
      · exact .inr (.inr ⟨by rw [hmay]; exact decide_eq_false (by omega), h1, h8⟩)
    · exact .inr (.inl ⟨by rw [hmay]; exact decide_eq_false (by omega), h1⟩)
  have hk8 : (if A < 1 ∨ 8 < A then 0 else (rdStep xs.length p e A).2.2) ≤ 8 := by
    split
    · exact Nat.zero_le _
    · unfold rdStep
      split
      · exact Nat.zero_le _
      split
      · exact Nat.zero_le _
      split
      · exact Nat.zero_le _
      · simp only; omega
  have hbe : be ((xs.drop p).take (if A < 1 ∨ 8 < A then 0 else (rdStep xs.length p e A).2.2)) = (rdNum xs p e A).2.2 := by
    unfold rdNum rdBytes
    by_cases hA : A < 1 ∨ 8 < A
    · rw [if_pos hA, if_pos hA]
      rfl
    · rw [if_neg hA, if_neg hA]
  have hp : (if A < 1 ∨ 8 < A then p else (rdStep xs.length p e A).1) = (rdNum xs p e A).1 := by
    unfold rdNum
    by_cases hA : A < 1 ∨ 8 < A
    · rw [if_pos hA, if_pos hA]
    · rw [if_neg hA, if_neg hA]
  have he : (if A < 1 ∨ 8 < A then badOf e 1 else (rdStep xs.length p e A).2.1) = (rdNum xs p e A).2.1 := by
    unfold rdNum
    by_cases hA : A < 1 ∨ 8 < A
    · rw [if_pos hA, if_pos hA]
    · rw [if_neg hA, if_neg hA]
  rw [hp, he] at hc
  rw [← hbe]
  obtain ⟨K, hK⟩ : ∃ K, (if A < 1 ∨ 8 < A then 0 else (rdStep xs.length p e A).2.2) = K := ⟨_, rfl⟩
  rw [hK] at hc hk8 ⊢
  obtain ⟨Y, hY⟩ : ∃ Y, (xs.drop p).take K = Y := ⟨_, rfl⟩
  have hyr : ∀ x ∈ Y, 0 ≤ x ∧ x < 256 := by
    intro x hx
    rw [← hY] at hx
    exact h.range x (List.mem_of_mem_drop (List.mem_of_mem_take hx))
  rw [hY] at hc ⊢
  exact pNum_loop A K Y may (fun w' => RdAt F w' g xs (rdNum xs p e A).1 (rdNum xs p e A).2.1 ∧ Moved F w w') hm3 (hc.mono fun r w' ⟨a, c, hr, hI, _, hR⟩ => ⟨a, c, hr, hI, hR⟩) hk8 hyr
end Go.Proofs.YtbiabjehdmddbaaGreatDoor

/-
  The document's own text of bytes and of an id, and what is read of a text (layer 12): half, Text, digit, Bytes. New memory alone is written. Conditions: at most a million signs.
-/
import Derived.Test.YtnfjmhppajdmaaaDoorHexStr
import Derived.Test.YtnfjmhppajdmaaaDoorRdMoved
import Derived.StillTailTactics
namespace Go.Proofs.YtnfjmhppajdmaaaDoor
open Go.RowKit

set_option maxRecDepth 100000 in
set_option maxHeartbeats 800000 in
theorem rHalf_any (n : Nat) (hn : n < 16) (w : World) : Calls Tryd.prog 23 #[.int .i64 (n : Int)] w fun q w' => q = .returned (.string (strOfNums [sgn n])) ∧ w = w' := by
  have hs := fun w => str_slice (P := Tryd.prog) hexS n (n + 1) (by omega) (by show n + 1 ≤ 16; omega) 9 Tryd.underlying9 w
  rw [hexS_half n hn, Int.natCast_add, show ((1 : Nat) : Int) = 1 from rfl] at hs
  unfold hexS at hs
  have hni : (n : Int) < 16 := by omega
  obtain ⟨S, hS⟩ : ∃ S, strOfNums [sgn n] = S := ⟨_, rfl⟩
  rw [hS] at hs ⊢
  clear hS hn
  go_enter Tryd.func23, Tryd.ntmps23
  go_wp2
  go_ret
  exact ⟨rfl, rfl⟩

theorem textB_take (xs : List Int) (j : Nat) (h : j < xs.length) : textB (xs.take (j + 1)) = textB (xs.take j) ++ ([sgn (xs.getD j 0 / 16)] ++ [sgn (xs.getD j 0 % 16)]) := by
  rw [List.take_succ_eq_append_getElem h, textB_append, List.getD_eq_getElem?_getD, List.getElem?_eq_getElem h]
  rfl

set_option maxRecDepth 100000 in
set_option maxHeartbeats 1000000 in
theorem rText_any (a : Option Addr) (n c : Nat) (xs : List Int) (w : World) (hI : Ints .u8 w a n c xs) (hr : okB xs) (hn : n ≤ 1000000) :
    Calls Tryd.prog 9 #[.slice a n c] w fun q w' => q = .returned (.string (strOfNums (textL xs))) ∧ Below w.heap.size w w' := by
  have hl := hI.len
  by_cases h0 : n = 0
  · have e : xs = [] := List.length_eq_zero_iff.1 (by omega)
    subst e
    have hni : (n : Int) = 0 := by omega
    rw [show strOfNums (textL []) = { data := #[45] } by decide +kernel]
    go_enter Tryd.func9, Tryd.ntmps9
    go_wp2
    go_ret
    exact ⟨rfl, Below.refl _ _⟩
  have e : textL xs = textB xs := if_neg (fun e => h0 (by rw [← hl, e]; rfl))
  rw [e]
  have hni : ((n : Int) == 0) = false := beq_false_of_ne (by omega)
  have hnI : (n : Int) ≤ 1000000 := by omega
  clear e h0 hn
  go_enter Tryd.func9, Tryd.ntmps9
  go_wp2_with fail
  go_loopw [3, 4] (fun s i wr => ∃ j : Nat, j ≤ n ∧ i = .int .i64 j ∧ s = .string (strOfNums (textB (xs.take j))) ∧ Below w.heap.size w wr) (fun _ i _ => n - (intOf i).toNat)
  case atStart => exact ⟨0, Nat.zero_le _, rfl, rfl, Below.refl _ _⟩
  case round =>
    obtain ⟨j, hj, rfl, rfl, hB⟩ := hrel
    by_cases hlt : j < n
    · have hji : (j : Int) < (n : Int) := by omega
      obtain ⟨w2, hw2⟩ : ∃ w2, wr.drew = w2 := ⟨_, rfl⟩
      have hB2 : Below w.heap.size w w2 := by rw [← hw2]; exact hB.drew
      obtain ⟨b, off, rfl, hcell⟩ := (hI.keep hB2).at (by omega)
      have hc := hcell j hlt
      have hv := getD_range (p := fun x => 0 ≤ x ∧ x < 256) hr j (by omega)
      have hst := textB_take xs j (by omega)
      obtain ⟨v, hvv⟩ : ∃ v, xs.getD j 0 = v := ⟨_, rfl⟩
      rw [hvv] at hc hv hst
      have hsz : (strOfNums (textB (xs.take j))).size ≤ 2000000 := by rw [strOfNums_size, textB_len, List.length_take]; omega
      obtain ⟨V, rfl⟩ : ∃ V : Nat, v = (V : Int) := ⟨v.toNat, by omega⟩
      have c1 := fun w => rHalf_any (V / 16) (by omega) w
      have c2 := fun w => rHalf_any (V % 16) (by omega) w
      have e1 : (V : Int) / 16 = ((V / 16 : Nat) : Int) := by omega
      have e2 : (V : Int) % 16 = ((V % 16 : Nat) : Int) := by omega
      have e3 : (V : Int).tdiv 16 = ((V / 16 : Nat) : Int) := by rw [Int.tdiv_eq_ediv_of_nonneg (by omega)]; omega
      have e4 : (V : Int).tmod 16 = ((V % 16 : Nat) : Int) := by rw [Int.tmod_eq_emod_of_nonneg (by omega)]; omega
      rw [e1, e2] at hst
      replace hst := congrArg strOfNums hst
      rw [← str_append, ← str_append, ← ByteArray.append_assoc] at hst
      obtain ⟨A, hA⟩ : ∃ A, V / 16 = A := ⟨_, rfl⟩
      obtain ⟨M, hM⟩ : ∃ M, V % 16 = M := ⟨_, rfl⟩
      rw [hA] at c1 e1 e3 hst
      rw [hM] at c2 e2 e4 hst
      obtain ⟨S0, hS0⟩ : ∃ S, strOfNums (textB (xs.take j)) = S := ⟨_, rfl⟩
      obtain ⟨S1, hS1⟩ : ∃ S, strOfNums [sgn (A : Int)] = S := ⟨_, rfl⟩
      obtain ⟨S2, hS2⟩ : ∃ S, strOfNums [sgn (M : Int)] = S := ⟨_, rfl⟩
      have z1 : S1.size = 1 := by rw [← hS1]; rfl
      have z2 : S2.size = 1 := by rw [← hS2]; rfl
      rw [hS0, hS1, hS2] at hst
      rw [hS0] at hsz ⊢
      rw [hS1] at c1
      rw [hS2] at c2
      have f1 : S0.size + S1.size ≤ 9223372036854775807 := by omega
      have f2 : (S0 ++ S1).size + S2.size ≤ 9223372036854775807 := by rw [ByteArray.size_append]; omega
      have k1 := fun w => run_string_add_sum (P := Tryd.prog) w S0 S1 f1
      have k2 := fun w => run_string_add_sum (P := Tryd.prog) w (S0 ++ S1) S2 f2
      have g1 : IntKind.i64.wrap (V : Int) = (V : Int) := by rw [IntKind.wrap_i64]; omega
      have g2 : IntKind.i64.wrap (A : Int) = (A : Int) := by rw [IntKind.wrap_i64]; omega
      have g3 : IntKind.i64.wrap (M : Int) = (M : Int) := by rw [IntKind.wrap_i64]; omega
      have hltH := Lib.hid hlt
      have hstH := Lib.hid hst
      clear f1 f2 hlt hj hst hvv hA hM hS0 hS1 hS2 hcell hI hB z1 z2 hsz hv
      go_wp2_with fail
      refine wp_region_still_tail 17 (by kernel_rfl) (by decide +kernel) ?_
      simp only [List.take_succ_cons, List.take_zero, List.drop_succ_cons, List.drop_zero]
      change wpStill _ _ wr.drew _ _ _
      rw [hw2]
      repeat still_step
      still_call ((c1 _).mono fun _ _ h => ⟨h.1, h.2.symm⟩)
      repeat still_step
      still_call ((c2 _).mono fun _ _ h => ⟨h.1, h.2.symm⟩)
      repeat still_step
      refine wpStill_nil ?_
      change wpList _ _ _ _ _ wr.drew
      rw [hw2]
      clear hw2
      go_wp2
      exact ⟨⟨j + 1, by have := hltH.out; omega, by congr 1, by rw [hstH.out], hB2⟩, by simp only [intOf]; have := hltH.out; omega⟩
    · obtain rfl : j = n := by omega
      have hji : ¬ (j : Int) < (j : Int) := by omega
      rw [List.take_of_length_le (by omega)]
      clear hlt hj
      go_wp2
      go_ret
      exact ⟨rfl, hB⟩

set_option maxRecDepth 100000 in
set_option maxHeartbeats 800000 in
theorem rDigit_any (c : Int) (hc : 0 ≤ c ∧ c < 256) (w : World) : Calls Tryd.prog 24 #[.int .u8 c] w fun q w' => q = .returned (.int .i64 (dig c)) ∧ w = w' := by
  have hx := fun i (h : i < 16) w => str_index (P := Tryd.prog) hexS i h 9 Tryd.underlying9 w
  have hxH := Lib.hid hx
  obtain ⟨D, hD⟩ : ∃ D, dig c = D := ⟨_, rfl⟩
  have hDH := Lib.hid hD
  rw [hD]
  clear hx hD
  go_enter Tryd.func24, Tryd.ntmps24
  go_wp2_with fail
  go_loopw [3] (fun i wr => ∃ j : Nat, j ≤ 16 ∧ i = .int .i64 j ∧ (∀ d : Nat, d < j → sgn d ≠ c) ∧ wr = w) (fun i _ => 16 - (intOf i).toNat)
  case atStart => exact ⟨0, Nat.zero_le _, rfl, fun d h => absurd h (Nat.not_lt_zero d), rfl⟩
  case round =>
    obtain ⟨j, hj, rfl, hno, hwr⟩ := hrel
    have hwr' := hwr.symm
    subst hwr'
    by_cases hlt : j < 16
    · have hji : (j : Int) < 16 := by omega
      have hx := hxH.out j hlt
      rw [hexS_at j hlt] at hx
      unfold hexS at hx
      have hltH := Lib.hid hlt
      have hnoH := Lib.hid hno
      by_cases he : sgn (j : Int) = c
      · have hd : dig c = (j : Int) := by rw [← he]; exact dig_sgn ⟨by omega, by omega⟩
        have hdH := Lib.hid hd
        obtain ⟨z, hz⟩ : ∃ z, sgn (j : Int) = z := ⟨_, rfl⟩
        rw [hz] at hx he
        clear hno hlt hj hz hd
        go_wp2
        go_ret
        exact ⟨by rw [← hDH.out, hdH.out]; rfl, rfl⟩
      · obtain ⟨z, hz⟩ : ∃ z, sgn (j : Int) = z := ⟨_, rfl⟩
        have hzH := Lib.hid hz
        rw [hz] at hx he
        have heH := Lib.hid he
        clear hno hlt hj hz
        go_wp2
        exact ⟨⟨j + 1, by have := hltH.out; omega, by congr 1, (fun d hd => by
          by_cases e : d = j
          · rw [e, hzH.out]; exact heH.out
          · exact hnoH.out d (by omega)), by trivial⟩, by simp only [intOf]; have := hltH.out; omega⟩
    · obtain rfl : j = 16 := by omega
      have hji : ¬ ((16 : Nat) : Int) < 16 := by omega
      have hd : dig c = -1 := by
        by_cases h : 0 ≤ dig c
        · exfalso
          have h2 := sgn_dig h
          have h3 := hno (dig c).toNat (by omega)
          rw [Int.toNat_of_nonneg h] at h3
          exact h3 h2.1
        · unfold dig at h ⊢
          repeat' split at h
          all_goals first | omega | (repeat' split) <;> omega
      have hdH := Lib.hid hd
      clear hlt hj hno hd
      go_wp2
      go_ret
      exact ⟨by rw [← hDH.out, hdH.out]; rfl, rfl⟩
end Go.Proofs.YtnfjmhppajdmaaaDoor

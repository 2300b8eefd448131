/-
  The names of kinds and errors (layer 15): the program's tables, nameOf, numberOf, KindName, ErrName, KindOf, ErrOf; slices.Index. New memory alone is written. No conditions.
-/
import Derived.Test.YtbiabjehdmddbaaDoorRplLine
import Derived.Test.YtbiabjehdmddbaaDoorBlocks
namespace Go.Proofs.YtbiabjehdmddbaaDoor
open Go.RowKit

/-- Names as strings in memory. -/
def strsV (ns : List (List Int)) : List Value := ns.map fun l => Value.string (strOfNums l)
theorem strsV_len (ns : List (List Int)) : (strsV ns).length = ns.length := List.length_map ..
theorem strsV_get (ns : List (List Int)) (j : Nat) (h : j < ns.length) : (strsV ns)[j]? = some (.string (strOfNums (ns.getD j []))) := by
  unfold strsV
  rw [List.getElem?_map, List.getElem?_eq_getElem h, List.getD_eq_getElem?_getD, List.getElem?_eq_getElem h]
  rfl
theorem strsV_cell {w : World} {g : Nat} {t : TypeId} {ns : List (List Int)} (h : Blk w g t (strsV ns)) (j : Nat) (hj : j < ns.length) : w.cell? ⟨g, j, none⟩ = some (.string (strOfNums (ns.getD j []))) := by rw [h.cell, strsV_get ns j hj]
theorem place_hit (s : List Int) : ∀ (ns : List (List Int)) (i j : Nat), j < ns.length → ns.getD j [] = s → (∀ k, k < j → ns.getD k [] ≠ s) → placeL s ns i = (((i + j : Nat) : Int), true)
  | [], _, _, h, _, _ => by cases h
  | x :: r, i, 0, _, h, _ => by
    have h' : x = s := h
    rw [placeL, if_pos h']
    rfl
  | x :: r, i, j + 1, hj, h, hno => by
    have h0 : x ≠ s := hno 0 (by omega)
    rw [placeL, if_neg h0, place_hit s r (i + 1) j (by simpa using hj) h (fun k hk => hno (k + 1) (by omega))]
    congr 2
    omega
theorem place_miss (s : List Int) (ns : List (List Int)) (h : ∀ k, k < ns.length → ns.getD k [] ≠ s) : placeL s ns 0 = (0, false) := by
  rcases placeL_spec s ns 0 with ⟨h1, _⟩ | ⟨j, h1, _, h3⟩
  · exact h1
  · exact absurd h3 (h j h1)
theorem place_ge (s : List Int) (ns : List (List Int)) : 0 ≤ (placeL s ns 0).1 ∧ ((placeL s ns 0).2 = false → (placeL s ns 0).1 = 0) := by
  rcases placeL_spec s ns 0 with ⟨h1, _⟩ | ⟨j, h1, h2, _⟩
  · rw [h1]; exact ⟨Int.le_refl _, fun _ => rfl⟩
  · rw [h2]; exact ⟨Int.natCast_nonneg _, fun h => by cases h⟩
theorem str_eqB (s : ByteArray) {x : List Int} (h : okB x) : (s.toList == (strOfNums x).toList) = decide (x = numsOf s) := by
  rw [toList_nums, nums_str h]
  exact decide_eq_decide.2 eq_comm
theorem str_eqB' (s : ByteArray) {x : List Int} (h : okB x) : ((strOfNums x).toList == s.toList) = decide (x = numsOf s) := by
  rw [toList_nums, nums_str h]

set_option maxRecDepth 100000 in
theorem rlKinds_any (w : World) : Calls Tryd.prog 29 #[] w fun q w' => q = .returned (.slice (some ⟨w.heap.size, 0, none⟩) 7 7) ∧ w' = w.alloc (.cells (strsV kindsL).toArray 9) := by
  go_enter Tryd.func29, Tryd.ntmps29
  go_wp2
  go_ret
  exact ⟨rfl, congrArg (fun c => w.alloc (.cells c 9)) (by kernel_rfl)⟩

set_option maxRecDepth 100000 in
theorem rlErrs_any (w : World) : Calls Tryd.prog 27 #[] w fun q w' => q = .returned (.slice (some ⟨w.heap.size, 0, none⟩) 21 21) ∧ w' = w.alloc (.cells (strsV errsL).toArray 9) := by
  go_enter Tryd.func27, Tryd.ntmps27
  go_wp2
  go_ret
  exact ⟨rfl, congrArg (fun c => w.alloc (.cells c 9)) (by kernel_rfl)⟩

set_option maxRecDepth 100000 in
set_option maxHeartbeats 1000000 in
theorem rlNameK_any (g N : Nat) (ns : List (List Int)) (n : Int) (w : World) (hN : ns.length = N) (hs : N ≤ 100) (hb : Blk w g 9 (strsV ns)) :
    Calls Tryd.prog 28 #[.slice (some ⟨g, 0, none⟩) N N, .int .i64 n] w fun q w' => q = .returned (.string (strOfNums (nameL ns n))) ∧ w' = w := by
  have hcell : ∀ j, j < N → w.cell? ⟨g, j, none⟩ = some (.string (strOfNums (ns.getD j []))) := fun j hj => strsV_cell hb j (by omega)
  have hcH := Lib.hid hcell
  have hNi : (N : Int) ≤ 100 := by omega
  have hNH := Lib.hid hN
  obtain ⟨R, hR⟩ : ∃ R, strOfNums (nameL ns n) = R := ⟨_, rfl⟩
  have hRH := Lib.hid hR
  rw [hR]
  clear hcell hb hs hN hR
  go_enter Tryd.func28, Tryd.ntmps28
  go_wp2_with fail
  go_loopw [9] (fun i wr => ∃ j : Nat, j ≤ N ∧ i = .int .i64 j ∧ (∀ k : Nat, k < j → (k : Int) ≠ n) ∧ wr = w) (fun i _ => N - (intOf i).toNat)
  case atStart => exact ⟨0, Nat.zero_le _, rfl, fun k hk => absurd hk (Nat.not_lt_zero _), rfl⟩
  case round =>
    obtain ⟨j, hj, rfl, hno, hwr⟩ := hrel
    have hwr' := hwr.symm
    subst hwr'
    by_cases hlt : j < N
    · have hji : (j : Int) < (N : Int) := by omega
      have hc := hcH.out j hlt
      obtain ⟨S, hS⟩ : ∃ S, strOfNums (ns.getD j []) = S := ⟨_, rfl⟩
      rw [hS] at hc
      by_cases hq : (j : Int) = n
      · have hqb : ((j : Int) == n) = true := beq_iff_eq.2 hq
        have e : S = R := by
          rw [← hRH.out]
          unfold nameL
          have := hNH.out
          rw [if_pos (by omega), show n.toNat = j by omega]
          exact hS.symm
        subst e
        clear hq hlt hj hno hS
        go_wp2
        go_ret
        exact ⟨rfl, rfl⟩
      · have hqb : ((j : Int) == n) = false := beq_false_of_ne hq
        have hltH := Lib.hid hlt
        have hnoH := Lib.hid (show ∀ k : Nat, k < j + 1 → (k : Int) ≠ n from fun k hk => by
          by_cases e : k = j
          · subst e; exact hq
          · exact hno k (by omega))
        clear hq hlt hj hno hS
        go_wp2
        exact ⟨⟨j + 1, by have := hltH.out; omega, by congr 1, hnoH.out, by trivial⟩, by simp only [intOf]; have := hltH.out; omega⟩
    · obtain rfl : j = N := by omega
      have hji : ¬ (j : Int) < (j : Int) := by omega
      have e : { data := #[63] } = R := by
        rw [← hRH.out]
        have e : nameL ns n = [63] := by
          unfold nameL
          have := hNH.out
          exact if_neg fun h => hno n.toNat (by omega) (by omega)
        rw [e]
        rfl
      subst e
      clear hlt hj hno
      go_wp2
      go_ret
      exact ⟨rfl, rfl⟩

set_option maxRecDepth 100000 in
set_option maxHeartbeats 1000000 in
theorem rlNameE_any (g N : Nat) (ns : List (List Int)) (n : Int) (w : World) (hN : ns.length = N) (hs : N ≤ 100) (hb : Blk w g 9 (strsV ns)) :
    Calls Tryd.prog 26 #[.slice (some ⟨g, 0, none⟩) N N, .int .i64 n] w fun q w' => q = .returned (.string (strOfNums (nameL ns n))) ∧ w' = w := by
  have hcell : ∀ j, j < N → w.cell? ⟨g, j, none⟩ = some (.string (strOfNums (ns.getD j []))) := fun j hj => strsV_cell hb j (by omega)
  have hcH := Lib.hid hcell
  have hNi : (N : Int) ≤ 100 := by omega
  have hNH := Lib.hid hN
  obtain ⟨R, hR⟩ : ∃ R, strOfNums (nameL ns n) = R := ⟨_, rfl⟩
  have hRH := Lib.hid hR
  rw [hR]
  clear hcell hb hs hN hR
  go_enter Tryd.func26, Tryd.ntmps26
  go_wp2_with fail
  go_loopw [9] (fun i wr => ∃ j : Nat, j ≤ N ∧ i = .int .i64 j ∧ (∀ k : Nat, k < j → (k : Int) ≠ n) ∧ wr = w) (fun i _ => N - (intOf i).toNat)
  case atStart => exact ⟨0, Nat.zero_le _, rfl, fun k hk => absurd hk (Nat.not_lt_zero _), rfl⟩
  case round =>
    obtain ⟨j, hj, rfl, hno, hwr⟩ := hrel
    have hwr' := hwr.symm
    subst hwr'
    by_cases hlt : j < N
    · have hji : (j : Int) < (N : Int) := by omega
      have hc := hcH.out j hlt
      obtain ⟨S, hS⟩ : ∃ S, strOfNums (ns.getD j []) = S := ⟨_, rfl⟩
      rw [hS] at hc
      by_cases hq : (j : Int) = n
      · have hqb : ((j : Int) == n) = true := beq_iff_eq.2 hq
        have e : S = R := by
          rw [← hRH.out]
          unfold nameL
          have := hNH.out
          rw [if_pos (by omega), show n.toNat = j by omega]
          exact hS.symm
        subst e
        clear hq hlt hj hno hS
        go_wp2
        go_ret
        exact ⟨rfl, rfl⟩
      · have hqb : ((j : Int) == n) = false := beq_false_of_ne hq
        have hltH := Lib.hid hlt
        have hnoH := Lib.hid (show ∀ k : Nat, k < j + 1 → (k : Int) ≠ n from fun k hk => by
          by_cases e : k = j
          · subst e; exact hq
          · exact hno k (by omega))
        clear hq hlt hj hno hS
        go_wp2
        exact ⟨⟨j + 1, by have := hltH.out; omega, by congr 1, hnoH.out, by trivial⟩, by simp only [intOf]; have := hltH.out; omega⟩
    · obtain rfl : j = N := by omega
      have hji : ¬ (j : Int) < (j : Int) := by omega
      have e : { data := #[63] } = R := by
        rw [← hRH.out]
        have e : nameL ns n = [63] := by
          unfold nameL
          have := hNH.out
          exact if_neg fun h => hno n.toNat (by omega) (by omega)
        rw [e]
        rfl
      subst e
      clear hlt hj hno
      go_wp2
      go_ret
      exact ⟨rfl, rfl⟩

set_option maxRecDepth 100000 in
set_option maxHeartbeats 1000000 in
theorem rlIndex_any (g N : Nat) (ns : List (List Int)) (s : ByteArray) (w : World) (hN : ns.length = N) (hs : N ≤ 100) (hok : ∀ x ∈ ns, okB x) (hb : Blk w g 9 (strsV ns)) :
    Calls Tryd.prog 39 #[.slice (some ⟨g, 0, none⟩) N N, .string s] w fun q w' => q = .returned (.int .i64 (if (placeL (numsOf s) ns 0).2 = true then (placeL (numsOf s) ns 0).1 else -1)) ∧ w' = w := by
  have hcell : ∀ j, j < N → w.cell? ⟨g, j, none⟩ = some (.string (strOfNums (ns.getD j []))) := fun j hj => strsV_cell hb j (by omega)
  have hcH := Lib.hid hcell
  have hNi : (N : Int) ≤ 100 := by omega
  have hNH := Lib.hid hN
  have hoH := Lib.hid (fun j (hj : j < N) => (hok (ns.getD j []) (by rw [List.getD_eq_getElem?_getD, List.getElem?_eq_getElem (by omega)]; exact List.getElem_mem _)))
  obtain ⟨R, hR⟩ : ∃ R, placeL (numsOf s) ns 0 = R := ⟨_, rfl⟩
  have hRH := Lib.hid hR
  rw [hR]
  obtain ⟨R1, R2⟩ := R
  dsimp only
  clear hcell hb hs hN hok hR
  go_enter Tryd.func39, Tryd.ntmps39
  go_wp2_with fail
  go_loopw [8] (fun i wr => ∃ j : Nat, j ≤ N ∧ i = .int .i64 j ∧ (∀ k : Nat, k < j → ns.getD k [] ≠ numsOf s) ∧ wr = w) (fun i _ => N - (intOf i).toNat)
  case atStart => exact ⟨0, Nat.zero_le _, rfl, fun k hk => absurd hk (Nat.not_lt_zero _), rfl⟩
  case round =>
    obtain ⟨j, hj, rfl, hno, hwr⟩ := hrel
    have hwr' := hwr.symm
    subst hwr'
    by_cases hlt : j < N
    · have hji : (j : Int) < (N : Int) := by omega
      have hc := hcH.out j hlt
      have hq := str_eqB s (hoH.out j hlt)
      by_cases he : ns.getD j [] = numsOf s
      · rw [decide_eq_true he] at hq
        have hph := place_hit (numsOf s) ns 0 j (by have := hNH.out; omega) he hno
        rw [hRH.out, Nat.zero_add] at hph
        have e1 : R1 = (j : Int) := congrArg Prod.fst hph
        have e2 : R2 = true := congrArg Prod.snd hph
        subst e1; subst e2
        obtain ⟨S, hS⟩ : ∃ S, strOfNums (ns.getD j []) = S := ⟨_, rfl⟩
        rw [hS] at hc hq
        clear he hlt hj hno hS hph
        go_wp2
        go_ret
        exact ⟨rfl, rfl⟩
      · rw [decide_eq_false he] at hq
        obtain ⟨S, hS⟩ : ∃ S, strOfNums (ns.getD j []) = S := ⟨_, rfl⟩
        rw [hS] at hc hq
        have hltH := Lib.hid hlt
        have hnoH := Lib.hid (show ∀ k : Nat, k < j + 1 → ns.getD k [] ≠ numsOf s from fun k hk => by
          by_cases e : k = j
          · subst e; exact he
          · exact hno k (by omega))
        clear he hlt hj hno hS
        go_wp2
        exact ⟨⟨j + 1, by have := hltH.out; omega, by congr 1, hnoH.out, by trivial⟩, by simp only [intOf]; have := hltH.out; omega⟩
    · obtain rfl : j = N := by omega
      have hji : ¬ (j : Int) < (j : Int) := by omega
      have hph := place_miss (numsOf s) ns (by rw [hNH.out]; exact hno)
      rw [hRH.out] at hph
      have e1 : R1 = 0 := congrArg Prod.fst hph
      have e2 : R2 = false := congrArg Prod.snd hph
      subst e1; subst e2
      clear hlt hj hno hph
      go_wp2
      go_ret
      exact ⟨rfl, rfl⟩

set_option maxRecDepth 100000 in
set_option maxHeartbeats 1000000 in
theorem rlNumK_any (g N : Nat) (ns : List (List Int)) (s : ByteArray) (w : World) (hN : ns.length = N) (hs : N ≤ 100) (hok : ∀ x ∈ ns, okB x) (hb : Blk w g 9 (strsV ns)) :
    Calls Tryd.prog 31 #[.slice (some ⟨g, 0, none⟩) N N, .string s] w fun q w' => q = .returned (.tuple #[.int .i64 (placeL (numsOf s) ns 0).1, .bool (placeL (numsOf s) ns 0).2]) ∧ w' = w := by
  have ci := rlIndex_any g N ns s w hN hs hok hb
  have hpg := place_ge (numsOf s) ns
  obtain ⟨R, hR⟩ : ∃ R, placeL (numsOf s) ns 0 = R := ⟨_, rfl⟩
  rw [hR] at ci hpg ⊢
  obtain ⟨p, f⟩ := R
  dsimp only at ci hpg ⊢
  obtain ⟨hp0, hpf⟩ := hpg
  clear hb hs hN hok hR
  cases f with
  | true =>
    rw [if_pos rfl] at ci
    have hp1 : ¬ p < 0 := by omega
    clear hpf
    go_enter Tryd.func31, Tryd.ntmps31
    go_wp2_with fail
    refine ci.mono ?_
    rintro q w1 ⟨rfl, rfl⟩
    go_wp2
    go_ret2
    exact ⟨rfl, rfl⟩
  | false =>
    rw [if_neg (by decide)] at ci
    obtain rfl := hpf rfl
    clear hpf
    go_enter Tryd.func31, Tryd.ntmps31
    go_wp2_with fail
    refine ci.mono ?_
    rintro q w1 ⟨rfl, rfl⟩
    go_wp2
    go_ret2
    exact ⟨rfl, rfl⟩

set_option maxRecDepth 100000 in
set_option maxHeartbeats 1000000 in
theorem rlNumE_any (g N : Nat) (ns : List (List Int)) (s : ByteArray) (w : World) (hN : ns.length = N) (hs : N ≤ 100) (hok : ∀ x ∈ ns, okB x) (hb : Blk w g 9 (strsV ns)) :
    Calls Tryd.prog 30 #[.slice (some ⟨g, 0, none⟩) N N, .string s] w fun q w' => q = .returned (.tuple #[.int .i64 (placeL (numsOf s) ns 0).1, .bool (placeL (numsOf s) ns 0).2]) ∧ w' = w := by
  have ci := rlIndex_any g N ns s w hN hs hok hb
  have hpg := place_ge (numsOf s) ns
  obtain ⟨R, hR⟩ : ∃ R, placeL (numsOf s) ns 0 = R := ⟨_, rfl⟩
  rw [hR] at ci hpg ⊢
  obtain ⟨p, f⟩ := R
  dsimp only at ci hpg ⊢
  obtain ⟨hp0, hpf⟩ := hpg
  clear hb hs hN hok hR
  cases f with
  | true =>
    rw [if_pos rfl] at ci
    have hp1 : ¬ p < 0 := by omega
    clear hpf
    go_enter Tryd.func30, Tryd.ntmps30
    go_wp2_with fail
    refine ci.mono ?_
    rintro q w1 ⟨rfl, rfl⟩
    go_wp2
    go_ret2
    exact ⟨rfl, rfl⟩
  | false =>
    rw [if_neg (by decide)] at ci
    obtain rfl := hpf rfl
    clear hpf
    go_enter Tryd.func30, Tryd.ntmps30
    go_wp2_with fail
    refine ci.mono ?_
    rintro q w1 ⟨rfl, rfl⟩
    go_wp2
    go_ret2
    exact ⟨rfl, rfl⟩

set_option maxRecDepth 100000 in
set_option maxHeartbeats 1000000 in
theorem rlKindName_any (n : Int) (w : World) : Calls Tryd.prog 10 #[.int .i64 n] w fun q w' => q = .returned (.string (strOfNums (nameL kindsL n))) ∧ Below w.heap.size w w' := by
  have c1 := rlKinds_any w
  have hB := below1 w (.cells (strsV kindsL).toArray 9)
  have c2 := rlNameK_any w.heap.size 7 kindsL n (w.alloc (.cells (strsV kindsL).toArray 9)) rfl (by decide) (Blk.new w _ _)
  obtain ⟨V, hV⟩ : ∃ V, w.alloc (.cells (strsV kindsL).toArray 9) = V := ⟨_, rfl⟩
  obtain ⟨S, hS⟩ : ∃ S, strOfNums (nameL kindsL n) = S := ⟨_, rfl⟩
  rw [hV] at c1 c2 hB
  rw [hS] at c2 ⊢
  clear hV hS
  go_enter Tryd.func10, Tryd.ntmps10
  go_wp2_with fail
  refine c1.mono ?_
  rintro q w1 ⟨rfl, rfl⟩
  go_wp2_with fail
  refine c2.mono ?_
  rintro q w2 ⟨rfl, rfl⟩
  go_wp2
  go_ret
  exact ⟨rfl, hB⟩

set_option maxRecDepth 100000 in
set_option maxHeartbeats 1000000 in
theorem rlErrName_any (n : Int) (w : World) : Calls Tryd.prog 9 #[.int .i64 n] w fun q w' => q = .returned (.string (strOfNums (nameL errsL n))) ∧ Below w.heap.size w w' := by
  have c1 := rlErrs_any w
  have hB := below1 w (.cells (strsV errsL).toArray 9)
  have c2 := rlNameE_any w.heap.size 21 errsL n (w.alloc (.cells (strsV errsL).toArray 9)) rfl (by decide) (Blk.new w _ _)
  obtain ⟨V, hV⟩ : ∃ V, w.alloc (.cells (strsV errsL).toArray 9) = V := ⟨_, rfl⟩
  obtain ⟨S, hS⟩ : ∃ S, strOfNums (nameL errsL n) = S := ⟨_, rfl⟩
  rw [hV] at c1 c2 hB
  rw [hS] at c2 ⊢
  clear hV hS
  go_enter Tryd.func9, Tryd.ntmps9
  go_wp2_with fail
  refine c1.mono ?_
  rintro q w1 ⟨rfl, rfl⟩
  go_wp2_with fail
  refine c2.mono ?_
  rintro q w2 ⟨rfl, rfl⟩
  go_wp2
  go_ret
  exact ⟨rfl, hB⟩

set_option maxRecDepth 100000 in
set_option maxHeartbeats 1000000 in
theorem rlKindOf_any (s : ByteArray) (w : World) : Calls Tryd.prog 16 #[.string s] w fun q w' => q = .returned (.tuple #[.int .i64 (placeL (numsOf s) kindsL 0).1, .bool (placeL (numsOf s) kindsL 0).2]) ∧ Below w.heap.size w w' := by
  have c1 := rlKinds_any w
  have hB := below1 w (.cells (strsV kindsL).toArray 9)
  have c2 := rlNumK_any w.heap.size 7 kindsL s (w.alloc (.cells (strsV kindsL).toArray 9)) rfl (by decide) kinds_b (Blk.new w _ _)
  obtain ⟨V, hV⟩ : ∃ V, w.alloc (.cells (strsV kindsL).toArray 9) = V := ⟨_, rfl⟩
  obtain ⟨R, hR⟩ : ∃ R, placeL (numsOf s) kindsL 0 = R := ⟨_, rfl⟩
  rw [hV] at c1 c2 hB
  rw [hR] at c2 ⊢
  obtain ⟨p, f⟩ := R
  dsimp only at c2 ⊢
  clear hV hR
  go_enter Tryd.func16, Tryd.ntmps16
  go_wp2_with fail
  refine c1.mono ?_
  rintro q w1 ⟨rfl, rfl⟩
  go_wp2_with fail
  refine c2.mono ?_
  rintro q w2 ⟨rfl, rfl⟩
  go_wp2
  go_ret2
  exact ⟨rfl, hB⟩

set_option maxRecDepth 100000 in
set_option maxHeartbeats 1000000 in
theorem rlErrOf_any (s : ByteArray) (w : World) : Calls Tryd.prog 14 #[.string s] w fun q w' => q = .returned (.tuple #[.int .i64 (placeL (numsOf s) errsL 0).1, .bool (placeL (numsOf s) errsL 0).2]) ∧ Below w.heap.size w w' := by
  have c1 := rlErrs_any w
  have hB := below1 w (.cells (strsV errsL).toArray 9)
  have c2 := rlNumE_any w.heap.size 21 errsL s (w.alloc (.cells (strsV errsL).toArray 9)) rfl (by decide) errs_b (Blk.new w _ _)
  obtain ⟨V, hV⟩ : ∃ V, w.alloc (.cells (strsV errsL).toArray 9) = V := ⟨_, rfl⟩
  obtain ⟨R, hR⟩ : ∃ R, placeL (numsOf s) errsL 0 = R := ⟨_, rfl⟩
  rw [hV] at c1 c2 hB
  rw [hR] at c2 ⊢
  obtain ⟨p, f⟩ := R
  dsimp only at c2 ⊢
  clear hV hR
  go_enter Tryd.func14, Tryd.ntmps14
  go_wp2_with fail
  refine c1.mono ?_
  rintro q w1 ⟨rfl, rfl⟩
  go_wp2_with fail
  refine c2.mono ?_
  rintro q w2 ⟨rfl, rfl⟩
  go_wp2
  go_ret2
  exact ⟨rfl, hB⟩
end Go.Proofs.YtbiabjehdmddbaaDoor

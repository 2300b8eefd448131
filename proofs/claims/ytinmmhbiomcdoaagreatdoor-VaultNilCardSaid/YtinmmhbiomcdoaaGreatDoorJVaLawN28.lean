/-
  Texts of stages that were proved on their own, joined: FrRef, FrOne, FrRows. Each begins with its own words.
-/
import Derived.Test.YtinmmhbiomcdoaaGreatDoorJVaLawN6
import Derived.Test.YtinmmhbiomcdoaaGreatDoorJVaLawN26
import Derived.Test.YtinmmhbiomcdoaaGreatDoorJVaLawN21
import Derived.Test.YtinmmhbiomcdoaaGreatDoorJVaLawN3
import Derived.Test.YtinmmhbiomcdoaaGreatDoorAppends
import Derived.Test.YtinmmhbiomcdoaaGreatDoorJVaLawN27
import Derived.Test.YtinmmhbiomcdoaaGreatDoorParts

/-
  The document's own frames (layer 19): Bytes, Encode, value, One. New memory alone is written. Conditions: bytes below 256; at most 2^47 many.
-/
namespace Go.Proofs.YtinmmhbiomcdoaaGreatDoor
open Go.RowKit

set_option maxRecDepth 100000 in
set_option maxHeartbeats 2000000 in
theorem r19Bytes_any (a : Option Addr) (n c : Nat) (xs : List Int) (w : World) (hI : Ints .u8 w a n c xs) (hr : ∀ x ∈ xs, 0 ≤ x ∧ x < 256) (hn : n ≤ 1000000) :
    Calls Tryz.prog 28 #[.slice a n c] w fun q w' => ∃ b d, q = .returned (.slice b (frB xs).length d) ∧ w'.ownsRow w.heap.size 5 1 (.slice b (frB xs).length d) (frB xs).length ((frB xs).map (Value.int .u8)) ∧ Below w.heap.size w w' := by
  obtain ⟨i0, hi, hz0, hz1, hz2⟩ := info_u8b
  have hl := hI.len
  have n64 : IntKind.u64.wrap (n : Int) = (n : Int) := by rw [IntKind.wrap_u64]; omega
  have hnum := rNumber_any (n : Int) 4 w (by decide)
  have hfl := frB_len xs
  have hm : frB xs = beL (n : Int) 4 ++ (beL (sumF xs) 4 ++ xs) := by unfold frB; rw [hl]
  have hsum : nv (crcOf 0#32 (bvs (beL (n : Int) 4 ++ xs))) = sumF xs := by unfold sumF; rw [hl]
  have hsr := sumF_range xs
  obtain ⟨V, hV⟩ : ∃ V, sumF xs = V := ⟨_, rfl⟩
  rw [hV] at hm hsum hsr
  have v64 : IntKind.u64.wrap V = V := by rw [IntKind.wrap_u64]; omega
  obtain ⟨M, hM⟩ : ∃ M, frB xs = M := ⟨_, rfl⟩
  rw [hM] at hm hfl
  rw [hM]
  have hmH := Lib.hid hm
  have hflH := Lib.hid hfl
  have hIH := Lib.hid hI
  have hlH := Lib.hid hl
  have hsumH := Lib.hid hsum
  have l4 : (beL (n : Int) 4).length = 4 := beL_len _ _
  have v4 : (beL V 4).length = 4 := beL_len _ _
  obtain ⟨N4, hN4⟩ : ∃ L, beL (n : Int) 4 = L := ⟨_, rfl⟩
  have hN4r : ∀ x ∈ N4, 0 ≤ x ∧ x < 256 := by rw [← hN4]; exact beL_range _ _
  rw [hN4] at hnum hmH hsumH l4
  clear hm hI hM hV hsum hl hfl hN4 hsr
  go_enter Tryz.func28, Tryz.ntmps28
  go_wp2_with fail
  refine hnum.mono ?_
  rintro q w1 ⟨b, d, rfl, ho1, b1⟩
  obtain ⟨b', d', hv, hI1⟩ := Ints.of_owns ho1
  injection hv with e1 _ e3
  subst e1; subst e3
  have q3 : Below w1.heap.size w1 (w1.alloc (.cells #[] 5)) := below1 _ _
  have I3 := hI1.keep q3
  clear hnum
  go_wp2_with (at_builtin; refine wpList_append_ints rfl (.tmp 9) (.tmp 10) 34 rfl w1.heap.size 5 i0 (.int .u8 0) 1 Tryz.underlying34 hi hz0 hz1 hz2 rfl rfl (World.ownsRow_made w1 #[] 0 (Nat.le_refl _) (Nat.zero_le _) rfl) rfl I3 ?_ ?_ q3.size ?_; (unfold maxLen; omega); (omega); intro v2 w2 hO2 hg2; refine RowKit.Hid.out ?_)
  refine Lib.hid ?_
  rw [List.nil_append, Nat.zero_add] at hO2
  have b2 : Below w1.heap.size w1 w2 := q3.grown hg2 q3.size (fun k hk => by injection hk with hk; rw [← hk]; exact Nat.le_refl _)
  have I2 := (hIH.out.keep b1).keep b2
  clear q3 I3 hg2
  go_wp2_with (at_builtin; refine wpList_append_ints rfl (.tmp 11) (.tmp 12) 34 rfl w1.heap.size 5 i0 (.int .u8 0) 1 Tryz.underlying34 hi hz0 hz1 hz2 rfl rfl hO2 rfl I2 ?_ ?_ b2.size ?_; (unfold maxLen; omega); (omega); intro v3 w3 hO3 hg3; refine RowKit.Hid.out ?_)
  refine Lib.hid ?_
  rw [← List.map_append] at hO3
  have b3 : Below w1.heap.size w1 w3 := b2.grown hg3 b2.size (fun k hk => (hO2.lt k hk).1)
  obtain ⟨b5, d5, hv5, hI5⟩ := Ints.of_owns hO3
  have hc := rOf_any b5 (4 + n) d5 (N4 ++ xs) w3 hI5 (fun x hx => (List.mem_append.1 hx).elim (hN4r x) (hr x)) (by omega)
  rw [hsumH.out] at hc
  clear I2 b2 hO2 hg3 hI5 hO3
  subst hv5
  go_wp2_with fail
  refine hc.mono ?_
  rintro q w4 ⟨rfl, rfl⟩
  have hnum2 := rNumber_any V 4 w3 (by decide)
  clear hc
  go_wp2_with fail
  refine hnum2.mono ?_
  rintro q w5 ⟨nb, nd, rfl, ho5, b5'⟩
  obtain ⟨nb', nd', hv, hI6⟩ := Ints.of_owns ho5
  injection hv with e1 _ e3
  subst e1; subst e3
  have b15 := b3.trans (b5'.mono b3.size)
  have hO5 := own_stay9 ho1 b15
  have hB5 := b1.trans (b15.mono b1.size)
  clear hnum2 ho5 b5' b3 b15 hI1 ho1
  go_wp2_with (at_builtin; refine wpList_append_ints rfl (.tmp 15) (.tmp 18) 34 rfl w.heap.size 5 i0 (.int .u8 0) 1 Tryz.underlying34 hi hz0 hz1 hz2 rfl rfl hO5 rfl hI6 ?_ ?_ hB5.size ?_; (unfold maxLen; omega); (omega); intro v7 w7 hO7 hg7; refine RowKit.Hid.out ?_)
  refine Lib.hid ?_
  rw [← List.map_append] at hO7
  have hB7 : Below w.heap.size w w7 := hB5.grown hg7 hB5.size (fun k hk => (hO5.lt k hk).1)
  have I7 := hIH.out.keep hB7
  clear hO5 hB5 hg7 hI6 b1
  go_wp2_with (at_builtin; refine wpList_append_ints rfl (.tmp 20) (.tmp 21) 34 rfl w.heap.size 5 i0 (.int .u8 0) 1 Tryz.underlying34 hi hz0 hz1 hz2 rfl rfl hO7 rfl I7 ?_ ?_ hB7.size ?_; (unfold maxLen; omega); (omega); intro v8 w8 hO8 hg8; refine RowKit.Hid.out ?_)
  refine Lib.hid ?_
  rw [← List.map_append, List.append_assoc, ← hmH.out, show 4 + 4 + n = M.length by have := hflH.out; have := hlH.out; omega] at hO8
  have hB8 : Below w.heap.size w w8 := hB7.grown hg8 hB7.size (fun k hk => (hO7.lt k hk).1)
  clear hO7 hB7 hg8 I7
  go_wp2
  go_ret
  obtain ⟨b8, d8, hv⟩ := own_slice32 hO8
  subst hv
  exact ⟨b8, d8, rfl, hO8, hB8⟩

set_option maxRecDepth 100000 in
set_option maxHeartbeats 1000000 in
theorem r19Encode_any (a : Option Addr) (n c : Nat) (xs : List Int) (w : World) (hI : Ints .u8 w a n c xs) (hr : ∀ x ∈ xs, 0 ≤ x ∧ x < 256) (hn : n ≤ 140737488355328) :
    Calls Tryz.prog 25 #[.slice a n c] w fun q w' => ∃ b d, q = .returned (.tuple #[.slice b (encF xs).1.length d, .int .i64 (encF xs).2]) ∧ w'.ownsRow w.heap.size 5 1 (.slice b (encF xs).1.length d) (encF xs).1.length ((encF xs).1.map (Value.int .u8)) ∧ Below w.heap.size w w' := by
  have hl := hI.len
  unfold encF
  rw [hl]
  by_cases hb : n < 1 ∨ 65536 < n
  · rw [if_pos hb]
    clear hI hr
    go_enter Tryz.func25, Tryz.ntmps25
    by_cases h0 : (n : Int) < 1
    · go_wp2
      go_ret2
      exact ⟨none, 0, rfl, World.ownsRow_nil _ _ _ _, Below.refl _ _⟩
    · have h1 : (65536 : Int) < (n : Int) := by omega
      go_wp2
      go_ret2
      exact ⟨none, 0, rfl, World.ownsRow_nil _ _ _ _, Below.refl _ _⟩
  · rw [if_neg hb]
    have h0 : ¬ (n : Int) < 1 := by omega
    have h1 : ¬ (65536 : Int) < (n : Int) := by omega
    have hS := r19Bytes_any a n c xs w hI hr (by omega)
    clear hI hr hb hl hn
    dsimp only
    go_enter Tryz.func25, Tryz.ntmps25
    go_wp2_with fail
    refine hS.mono ?_
    rintro q w1 ⟨b, d, rfl, ho, b1⟩
    clear hS
    go_wp2
    go_ret2
    exact ⟨b, d, rfl, ho, b1⟩

set_option maxRecDepth 100000 in
set_option maxHeartbeats 1000000 in
theorem r19value_any (a : Option Addr) (c : Nat) (xs : List Int) (w : World) (hI : Ints .u8 w a 4 c xs) (hr : ∀ x ∈ xs, 0 ≤ x ∧ x < 256) :
    Calls Tryz.prog 136 #[.slice a 4 c] w fun q w' => q = .returned (.int .i64 (be xs)) ∧ w = w' := by
  have hl := hI.len
  obtain ⟨b, off, rfl, hat⟩ := hI.at (by decide)
  have hlim : ∀ k, k ≤ 4 → 0 ≤ be (xs.take k) ∧ be (xs.take k) < 4294967296 := fun k hk => by
    have h1 := be_fold (xs.take k) 0 (fun x hx => hr x (List.mem_of_mem_take hx)) (Int.le_refl 0)
    refine ⟨h1.1, Int.lt_of_lt_of_le h1.2 ?_⟩
    rw [List.length_take, hl, show min k 4 = k by omega, Int.zero_add, Int.one_mul]
    have : ∀ k, k ≤ 4 → (256 : Int) ^ k ≤ 4294967296 := by decide
    exact this k hk
  go_enter Tryz.func136, Tryz.ntmps136
  go_wp2
  go_loopw [3, 4] (fun v i wr => ∃ k : Nat, k ≤ 4 ∧ i = .int .i64 k ∧ v = .int .i64 (be (xs.take k)) ∧ w = wr) (fun _ i _ => 4 - (intOf i).toNat)
  case atStart => exact ⟨0, by decide, rfl, rfl, rfl⟩
  case round =>
    obtain ⟨k, hk, rfl, rfl, rfl⟩ := hrel
    by_cases hlt : k < 4
    · have hki : (k : Int) < 4 := by omega
      have ck := hat k hlt
      have hst := be_take xs k (by omega)
      have h1 := hlim k hk
      have h2 := hlim (k + 1) hlt
      have hx := getD_range (p := fun x => 0 ≤ x ∧ x < 256) hr k (by omega)
      obtain ⟨u, hu⟩ : ∃ u, xs.getD k 0 = u := ⟨_, rfl⟩
      obtain ⟨A0, hA0⟩ : ∃ u, be (xs.take k) = u := ⟨_, rfl⟩
      obtain ⟨A1, hA1⟩ : ∃ u, be (xs.take (k + 1)) = u := ⟨_, rfl⟩
      rw [hu] at ck hx hst
      rw [hA0] at h1 hst ⊢
      rw [hA1] at h2 hst
      have w1 : wrap64 (256 * A0) = 256 * A0 := by unfold wrap64; omega
      have w2 : wrap64 (256 * A0 + u) = 256 * A0 + u := by unfold wrap64; omega
      have w3 : wrap64 u = u := by unfold wrap64; omega
      have hstH := Lib.hid hst
      have hA1H := Lib.hid hA1
      have hltH := Lib.hid hlt
      clear hat hst hu hA0 hA1 hlim h1 h2 hk hlt
      go_wp2
      exact ⟨⟨k + 1, by have := hltH.out; omega, by congr 1, by rw [hA1H.out, hstH.out, w2], by trivial⟩, by simp only [intOf]; have := hltH.out; omega⟩
    · obtain rfl : k = 4 := by omega
      rw [List.take_of_length_le (by omega)]
      clear hat hlim hlt hk
      go_wp2
      go_ret
      exact ⟨rfl, rfl⟩
end Go.Proofs.YtinmmhbiomcdoaaGreatDoor

/-
  The document's own One (layer 19). New memory alone is written. Conditions: bytes below 256; at most 2^47 many.
-/
namespace Go.Proofs.YtinmmhbiomcdoaaGreatDoor
open Go.RowKit

/-- The bytes are a frame's just where the sum fits. -/
theorem fr_eq19 {xs : List Int} (hr : ∀ x ∈ xs, 0 ≤ x ∧ x < 256) {v : Nat} (h4 : ¬ xs.length < 4) (hv : be (xs.take 4) = (v : Int)) (h8 : 8 + v ≤ xs.length) :
    (frB ((xs.drop 8).take v) = xs.take (8 + v)) ↔ be ((xs.drop 4).take 4) = sumF ((xs.drop 8).take v) := by
  have htl : (xs.take 4).length = 4 := by rw [List.length_take]; omega
  have hml : ((xs.drop 4).take 4).length = 4 := by rw [List.length_take, List.length_drop]; omega
  have hbl : ((xs.drop 8).take v).length = v := by rw [List.length_take, List.length_drop]; omega
  have hb := beL_be (xs.take 4) (fun x hx => hr x (List.mem_of_mem_take hx))
  rw [htl, hv] at hb
  have hm := beL_be ((xs.drop 4).take 4) (fun x hx => hr x (List.mem_of_mem_drop (List.mem_of_mem_take hx)))
  rw [hml] at hm
  have hsp : xs.take (8 + v) = xs.take 4 ++ ((xs.drop 4).take 4 ++ (xs.drop 8).take v) := by
    rw [show 8 + v = 4 + (4 + v) by omega, List.take_add, List.take_add, List.drop_drop]
  unfold frB
  rw [hbl, hb, hsp]
  constructor
  · intro h
    have h2 := List.append_cancel_left h
    have h3 := List.append_cancel_right h2
    rw [← h3, be_sum4]
  · intro h
    rw [← h, hm]

set_option maxRecDepth 100000 in
set_option maxHeartbeats 2000000 in
theorem r19One_any (a : Option Addr) (n c : Nat) (xs : List Int) (w : World) (hI : Ints .u8 w a n c xs) (hr : ∀ x ∈ xs, 0 ≤ x ∧ x < 256) (hn : n ≤ 140737488355328) :
    Calls Tryz.prog 121 #[.slice a n c] w (OneEnd xs w) := by
  obtain ⟨i0, hi, hz0, hz1, hz2⟩ := info_u8b
  have hl := hI.len
  have hcl := hI.2.1
  have hni : (n : Int) ≤ 140737488355328 := by omega
  by_cases h4 : xs.length < 4
  · have honeH := Lib.hid (show oneF xs = ([], 0, 2) by unfold oneF; rw [if_pos h4])
    have h4i : (n : Int) < 4 := by omega
    clear h4 hl hI hr
    go_enter Tryz.func121, Tryz.ntmps121
    go_wp2_with fail
    go_ret3
    exact ⟨none, 0, by rw [honeH.out]; rfl, by rw [honeH.out]; exact World.ownsRow_nil _ _ _ _, Below.refl _ _⟩
  have h4i : ¬ (n : Int) < 4 := by omega
  have ht : ∀ x ∈ xs.take 4, 0 ≤ x ∧ x < 256 := fun x hx => hr x (List.mem_of_mem_take hx)
  have s11 : ∀ wx : World, (Instr.sliceAt 34 (.slice a n c) none (some (.int .i64 4)) none).run Tryz.prog wx = .ok (.slice a 4 c) wx := fun wx => sl_to19 a 4 (by omega) wx
  have hval := r19value_any a c (xs.take 4) w (ints_to19 hI (by omega)) ht
  have hbr := be_lt (xs.take 4) ht (by rw [List.length_take]; omega)
  by_cases hq : be (xs.take 4) < 1 ∨ 65536 < be (xs.take 4)
  · have honeH := Lib.hid (show oneF xs = ([], 0, 4) by unfold oneF; rw [if_neg h4, if_pos hq])
    obtain ⟨V, hV⟩ : ∃ V, be (xs.take 4) = V := ⟨_, rfl⟩
    rw [hV] at hval hq
    clear h4 hl hI hr ht hbr hV
    go_enter Tryz.func121, Tryz.ntmps121
    go_wp2_with fail
    refine hval.mono ?_
    rintro q w1 ⟨rfl, rfl⟩
    clear hval
    by_cases hq1 : V < 1
    · go_wp2_with fail
      go_ret3
      exact ⟨none, 0, by rw [honeH.out]; rfl, by rw [honeH.out]; exact World.ownsRow_nil _ _ _ _, Below.refl _ _⟩
    · have hq2 : 65536 < V := by omega
      go_wp2_with fail
      go_ret3
      exact ⟨none, 0, by rw [honeH.out]; rfl, by rw [honeH.out]; exact World.ownsRow_nil _ _ _ _, Below.refl _ _⟩
  obtain ⟨v, hv⟩ : ∃ v : Nat, be (xs.take 4) = (v : Int) := ⟨(be (xs.take 4)).toNat, by omega⟩
  have hv1 : ¬ (v : Int) < 1 := by omega
  have hv2 : ¬ (65536 : Int) < (v : Int) := by omega
  rw [hv] at hval
  have h8w : wrap64 (8 + (v : Int)) = 8 + (v : Int) := by unfold wrap64; omega
  have h8W : IntKind.i64.wrap (8 + (v : Int)) = 8 + (v : Int) := by rw [IntKind.wrap_i64]; omega
  by_cases h8 : xs.length < 8 + v
  · have honeH := Lib.hid (show oneF xs = ([], 0, 2) by unfold oneF; rw [if_neg h4, if_neg hq, hv, if_pos (by omega)])
    have h8i : (n : Int) < 8 + (v : Int) := by omega
    clear h4 hl hI hr ht hbr hv hq h8
    go_enter Tryz.func121, Tryz.ntmps121
    go_wp2_with fail
    refine hval.mono ?_
    rintro q w1 ⟨rfl, rfl⟩
    clear hval
    go_wp2_with fail
    go_ret3
    exact ⟨none, 0, by rw [honeH.out]; rfl, by rw [honeH.out]; exact World.ownsRow_nil _ _ _ _, Below.refl _ _⟩
  have h8i : ¬ (n : Int) < 8 + (v : Int) := by omega
  have hiff := fr_eq19 hr h4 hv (by omega)
  have s28 : ∀ wx : World, (Instr.sliceAt 34 (.slice a n c) (some (.int .i64 8)) (some (.int .i64 (8 + (v : Int)))) none).run Tryz.prog wx = .ok (.slice (cutAddr a c 8) v (c - 8)) wx := fun wx => by
    have h := sl_in19 (n := n) (c := c) a 8 (8 + v) (by omega) (by omega) wx
    rw [show 8 + v - 8 = v by omega] at h
    exact h
  have s36 : ∀ wx : World, (Instr.sliceAt 34 (.slice a n c) none (some (.int .i64 (8 + (v : Int)))) none).run Tryz.prog wx = .ok (.slice a (8 + v) c) wx := fun wx => sl_to19 a (8 + v) (by omega) wx
  have q3 : Below w.heap.size w (w.alloc (.cells #[] 5)) := below1 _ _
  have I3 := ints_in19 (hI.keep q3) v (by omega)
  have hbr19 : ∀ x ∈ (xs.drop 8).take v, 0 ≤ x ∧ x < 256 := fun x hx => hr x (List.mem_of_mem_drop (List.mem_of_mem_take hx))
  have hbl : ((xs.drop 8).take v).length = v := by rw [List.length_take, List.length_drop]; omega
  have hTH := Lib.hid (fun w' (h : Below w.heap.size w w') => ints_to19 (hI.keep h) (u := 8 + v) (by omega))
  have hstq := str_eq (frB_range hbr19) (ys := xs.take (8 + v)) (fun x hx => hr x (List.mem_of_mem_take hx))
  have hone0 : ∀ D, decide (frB ((xs.drop 8).take v) = xs.take (8 + v)) = D → oneF xs = if D = true then ((xs.drop 8).take v, 8 + v, 0) else ([], 0, 9) := by
    intro D hD
    unfold oneF
    rw [if_neg h4, if_neg hq, hv, if_neg (by omega), Int.toNat_natCast]
    by_cases hf : frB ((xs.drop 8).take v) = xs.take (8 + v)
    · rw [if_pos (hiff.1 hf), if_pos (by rw [← hD]; exact decide_eq_true hf)]
    · rw [if_neg (fun h => hf (hiff.2 h)), if_neg (by rw [← hD, decide_eq_false hf]; decide)]
  obtain ⟨Y, hY⟩ : ∃ Y, (xs.drop 8).take v = Y := ⟨_, rfl⟩
  rw [hY] at I3 hbr19 hbl hstq hone0
  obtain ⟨T, hT⟩ : ∃ T, xs.take (8 + v) = T := ⟨_, rfl⟩
  rw [hT] at hTH hstq hone0
  have hfl := frB_len Y
  obtain ⟨M, hM⟩ : ∃ M, frB Y = M := ⟨_, rfl⟩
  have hby := fun b d w' (h : Ints .u8 w' b v d Y) => r19Bytes_any b v d Y w' h hbr19 (by omega)
  rw [hM] at hstq hone0 hfl hby
  obtain ⟨D, hD⟩ : ∃ D, decide (M = T) = D := ⟨_, rfl⟩
  rw [hD] at hstq
  have honeT := Lib.hid (show D = true → oneF xs = (Y, 8 + v, 0) from fun h => by rw [hone0 D hD, if_pos h])
  have honeF := Lib.hid (show D = false → oneF xs = ([], 0, 9) from fun h => by rw [hone0 D hD, if_neg (by rw [h]; decide)])
  have hblH := Lib.hid hbl
  have hv16 := Lib.hid (show v ≤ 65536 by omega)
  clear h4 hl hI hr ht hbr hv hq h8 hiff hY hT hM hD hone0 hbr19 hbl hfl
  go_enter Tryz.func121, Tryz.ntmps121
  go_wp2_with fail
  refine hval.mono ?_
  rintro q w1 ⟨rfl, rfl⟩
  clear hval
  go_wp2_with (at_builtin; refine wpList_append_ints rfl (.tmp 24) (.tmp 28) 34 rfl w.heap.size 5 i0 (.int .u8 0) 1 Tryz.underlying34 hi hz0 hz1 hz2 rfl rfl (World.ownsRow_made w #[] 0 (Nat.le_refl _) (Nat.zero_le _) rfl) rfl I3 ?_ ?_ q3.size ?_; (have := hv16.out; unfold maxLen; omega); (have := hv16.out; omega); intro v2 w2 hO2 hg2; refine RowKit.Hid.out ?_)
  refine Lib.hid ?_
  rw [List.nil_append, Nat.zero_add] at hO2
  have b2 : Below w.heap.size w w2 := q3.grown hg2 q3.size (fun k hk => by injection hk with hk; rw [← hk]; exact Nat.le_refl _)
  obtain ⟨b5, d5, hv5, hI5⟩ := Ints.of_owns hO2
  subst hv5
  clear q3 I3 hg2
  go_wp2_with fail
  have b3 : Below w2.heap.size w2 w2.drew := (Below.refl _ _).drew
  obtain ⟨W, hW⟩ : ∃ W, w2.drew = W := ⟨_, rfl⟩
  have hIW := hI5.keep b3
  rw [hW] at b3 hIW
  refine region_seqS (fun w' => Below w2.heap.size w2 w') (by kernel_rfl) (by rw [hW]; exact b3) ?_
  simp only [pairs, Nat.reduceAdd]
  rw [hW]
  have hst := Lib.hid (fun w' (h : Below w2.heap.size w2 w') => (hTH.out w' (b2.trans (h.mono b2.size))).string (P := Tryz.prog) 34 9 5 Tryz.underlying34 Tryz.underlying5 Tryz.underlying9)
  clear hW hI5
  repeat (first
    | (refine SeqS.take (v := ?_) (by first | assumption | trivial) (by kernel_rfl) (by decide +kernel) (by decide +kernel) (Or.inl ⟨by rfl, ?_⟩) ?_
       rotate_left
       focus
         intro w' hb'
         go_simp
         with_reducible rfl
       simp only [Act.put, List.setIfInBounds_toArray, List.set_cons_zero, List.set_cons_succ])
    | (refine SeqS.take (v := ?_) (by first | assumption | trivial) (by kernel_rfl) (by decide +kernel) (by decide +kernel) (Or.inl ⟨by rfl, ?_⟩) ?_
       rotate_left
       focus
         intro w' hb'
         have d0 := s36 w'
         go_simp
         with_reducible rfl
       simp only [Act.put, List.setIfInBounds_toArray, List.set_cons_zero, List.set_cons_succ])
    | (refine SeqS.take (v := ?_) (by first | assumption | trivial) (by kernel_rfl) (by decide +kernel) (by decide +kernel) (Or.inl ⟨by rfl, ?_⟩) ?_
       rotate_left
       focus
         intro w' hb'
         have d0 := hst.out w' hb'
         go_simp
         with_reducible rfl
       simp only [Act.put, List.setIfInBounds_toArray, List.set_cons_zero, List.set_cons_succ])
    | (refine SeqS.take (v := undef) (by first | assumption | trivial) (by kernel_rfl) (by decide +kernel) (by decide +kernel) (Or.inr ⟨by rfl, rfl⟩) ?_
       simp only [Act.put, List.setIfInBounds_toArray, List.set_cons_zero, List.set_cons_succ])
    | (refine SeqS.take1 (v := ?_) (by first | assumption | trivial) (by kernel_rfl) (by decide +kernel) (by decide +kernel) (Or.inl ⟨by rfl, ?_⟩) ?_
       rotate_left
       focus
         intro w' hb'
         go_simp
         with_reducible rfl
       simp only [Act.put, List.setIfInBounds_toArray, List.set_cons_zero, List.set_cons_succ])
    | (refine SeqS.take1 (v := ?_) (by first | assumption | trivial) (by kernel_rfl) (by decide +kernel) (by decide +kernel) (Or.inl ⟨by rfl, ?_⟩) ?_
       rotate_left
       focus
         intro w' hb'
         have d0 := s36 w'
         go_simp
         with_reducible rfl
       simp only [Act.put, List.setIfInBounds_toArray, List.set_cons_zero, List.set_cons_succ])
    | (refine SeqS.take1 (v := ?_) (by first | assumption | trivial) (by kernel_rfl) (by decide +kernel) (by decide +kernel) (Or.inl ⟨by rfl, ?_⟩) ?_
       rotate_left
       focus
         intro w' hb'
         have d0 := hst.out w' hb'
         go_simp
         with_reducible rfl
       simp only [Act.put, List.setIfInBounds_toArray, List.set_cons_zero, List.set_cons_succ])
    | (refine SeqS.take1 (v := undef) (by first | assumption | trivial) (by kernel_rfl) (by decide +kernel) (by decide +kernel) (Or.inr ⟨by rfl, rfl⟩) ?_
       simp only [Act.put, List.setIfInBounds_toArray, List.set_cons_zero, List.set_cons_succ])
    | (refine SeqS.take2 (v := ?_) (by first | assumption | trivial) (by kernel_rfl) (by decide +kernel) (by decide +kernel) (Or.inl ⟨by rfl, ?_⟩) ?_
       rotate_left
       focus
         intro w' hb'
         go_simp
         with_reducible rfl
       simp only [Act.put, List.setIfInBounds_toArray, List.set_cons_zero, List.set_cons_succ])
    | (refine SeqS.take2 (v := ?_) (by first | assumption | trivial) (by kernel_rfl) (by decide +kernel) (by decide +kernel) (Or.inl ⟨by rfl, ?_⟩) ?_
       rotate_left
       focus
         intro w' hb'
         have d0 := s36 w'
         go_simp
         with_reducible rfl
       simp only [Act.put, List.setIfInBounds_toArray, List.set_cons_zero, List.set_cons_succ])
    | (refine SeqS.take2 (v := ?_) (by first | assumption | trivial) (by kernel_rfl) (by decide +kernel) (by decide +kernel) (Or.inl ⟨by rfl, ?_⟩) ?_
       rotate_left
       focus
         intro w' hb'
         have d0 := hst.out w' hb'
         go_simp
         with_reducible rfl
       simp only [Act.put, List.setIfInBounds_toArray, List.set_cons_zero, List.set_cons_succ])
    | (refine SeqS.take2 (v := undef) (by first | assumption | trivial) (by kernel_rfl) (by decide +kernel) (by decide +kernel) (Or.inr ⟨by rfl, rfl⟩) ?_
       simp only [Act.put, List.setIfInBounds_toArray, List.set_cons_zero, List.set_cons_succ])
    | (refine SeqS.take3 (v := ?_) (by first | assumption | trivial) (by kernel_rfl) (by decide +kernel) (by decide +kernel) (Or.inl ⟨by rfl, ?_⟩) ?_
       rotate_left
       focus
         intro w' hb'
         go_simp
         with_reducible rfl
       simp only [Act.put, List.setIfInBounds_toArray, List.set_cons_zero, List.set_cons_succ])
    | (refine SeqS.take3 (v := ?_) (by first | assumption | trivial) (by kernel_rfl) (by decide +kernel) (by decide +kernel) (Or.inl ⟨by rfl, ?_⟩) ?_
       rotate_left
       focus
         intro w' hb'
         have d0 := s36 w'
         go_simp
         with_reducible rfl
       simp only [Act.put, List.setIfInBounds_toArray, List.set_cons_zero, List.set_cons_succ])
    | (refine SeqS.take3 (v := ?_) (by first | assumption | trivial) (by kernel_rfl) (by decide +kernel) (by decide +kernel) (Or.inl ⟨by rfl, ?_⟩) ?_
       rotate_left
       focus
         intro w' hb'
         have d0 := hst.out w' hb'
         go_simp
         with_reducible rfl
       simp only [Act.put, List.setIfInBounds_toArray, List.set_cons_zero, List.set_cons_succ])
    | (refine SeqS.take3 (v := undef) (by first | assumption | trivial) (by kernel_rfl) (by decide +kernel) (by decide +kernel) (Or.inr ⟨by rfl, rfl⟩) ?_
       simp only [Act.put, List.setIfInBounds_toArray, List.set_cons_zero, List.set_cons_succ]))
  refine SeqS.alone (by decide +kernel) (by rfl) (fun K hK => ?_)
  go_simp
  go_at_call 28
  refine (hby b5 d5 W hIW).mono ?_
  rintro q w4 ⟨b6, d6, rfl, ho6, b6'⟩
  go_simp
  have S4 := b3.trans (b6'.mono b3.size)
  refine hK _ _ S4 ?_
  clear hK K hIW
  obtain ⟨b7, d7, hv7, hI7⟩ := Ints.of_owns ho6
  injection hv7 with e1 _ e3
  subst e1; subst e3
  have hst2 := hI7.string (P := Tryz.prog) 34 9 5 Tryz.underlying34 Tryz.underlying5 Tryz.underlying9
  clear ho6 b6' b3 hby
  refine SeqS.alone (by decide +kernel) (by rfl) (fun K hK => ?_)
  go_simp
  refine hK _ _ S4 ?_
  clear hK K hst2 hI7
  repeat (first
    | (refine SeqS.take (v := ?_) (by first | assumption | trivial) (by kernel_rfl) (by decide +kernel) (by decide +kernel) (Or.inl ⟨by rfl, ?_⟩) ?_
       rotate_left
       focus
         intro w' hb'
         go_simp
         with_reducible rfl
       simp only [Act.put, List.setIfInBounds_toArray, List.set_cons_zero, List.set_cons_succ])
    | (refine SeqS.take (v := undef) (by first | assumption | trivial) (by kernel_rfl) (by decide +kernel) (by decide +kernel) (Or.inr ⟨by rfl, rfl⟩) ?_
       simp only [Act.put, List.setIfInBounds_toArray, List.set_cons_zero, List.set_cons_succ])
    | (refine SeqS.take1 (v := ?_) (by first | assumption | trivial) (by kernel_rfl) (by decide +kernel) (by decide +kernel) (Or.inl ⟨by rfl, ?_⟩) ?_
       rotate_left
       focus
         intro w' hb'
         go_simp
         with_reducible rfl
       simp only [Act.put, List.setIfInBounds_toArray, List.set_cons_zero, List.set_cons_succ])
    | (refine SeqS.take1 (v := undef) (by first | assumption | trivial) (by kernel_rfl) (by decide +kernel) (by decide +kernel) (Or.inr ⟨by rfl, rfl⟩) ?_
       simp only [Act.put, List.setIfInBounds_toArray, List.set_cons_zero, List.set_cons_succ])
    | (refine SeqS.take2 (v := ?_) (by first | assumption | trivial) (by kernel_rfl) (by decide +kernel) (by decide +kernel) (Or.inl ⟨by rfl, ?_⟩) ?_
       rotate_left
       focus
         intro w' hb'
         go_simp
         with_reducible rfl
       simp only [Act.put, List.setIfInBounds_toArray, List.set_cons_zero, List.set_cons_succ])
    | (refine SeqS.take2 (v := undef) (by first | assumption | trivial) (by kernel_rfl) (by decide +kernel) (by decide +kernel) (Or.inr ⟨by rfl, rfl⟩) ?_
       simp only [Act.put, List.setIfInBounds_toArray, List.set_cons_zero, List.set_cons_succ]))
  refine SeqS.done (by decide +kernel) ?_
  have hB4 := b2.trans (S4.mono b2.size)
  have hO4 := own_stay9 hO2 S4
  clear hO2 b2 S4 hst
  cases D with
  | true =>
    have honeH := Lib.hid (honeT.out rfl)
    clear honeT honeF
    go_wp2_with fail
    go_ret3
    refine ⟨b5, d5, ?_, ?_, hB4⟩
    · rw [honeH.out]
      show _ = Ending.returned (.tuple #[.slice b5 Y.length d5, .int .i64 ((8 + v : Nat) : Int), .int .i64 0])
      rw [hblH.out, show ((8 + v : Nat) : Int) = 8 + (v : Int) by omega]
      rfl
    · rw [honeH.out]
      show w4.ownsRow w.heap.size _ 1 (.slice b5 Y.length d5) Y.length _
      rw [hblH.out]
      exact hO4
  | false =>
    have honeH := Lib.hid (honeF.out rfl)
    clear honeT honeF
    go_wp2_with fail
    go_ret3
    exact ⟨none, 0, by rw [honeH.out]; rfl, by rw [honeH.out]; exact World.ownsRow_nil _ _ _ _, hB4⟩
end Go.Proofs.YtinmmhbiomcdoaaGreatDoor

/-
  Slices of slices of bytes that a call makes piece by piece ('RowsO'): what they hold, what leaves them as they are, one more; the document's own Scan and Same (layer 19). New memory alone is written. Conditions: bytes below 256; at most 2^30 many.
-/
namespace Go.Proofs.YtinmmhbiomcdoaaGreatDoor
open Go.RowKit

/-- A slice of bytes that lies below B, or in a block of bytes. -/
def ElemAt (w : World) (B : Nat) (a : Option Addr) (n c : Nat) (p : List Int) : Prop :=
  Ints .u8 w a n c p ∧ ∀ x, a = some x → 0 < n → x.block < w.heap.size ∧ (x.block < B ∨ ∃ cur, w.heap[x.block]? = some (.cells cur 5 (0, 0)))
theorem ElemAt.of_owns {w : World} {B B' : Nat} {a : Option Addr} {n c : Nat} {p : List Int} (h : w.ownsRow B' 5 1 (.slice a n c) n (p.map (Value.int .u8))) : ElemAt w B a n c p := by
  obtain ⟨a', c', hv, hI⟩ := Ints.of_owns h
  injection hv with e1 _ e3
  subst e1; subst e3
  refine ⟨hI, fun x hx h0 => ⟨hI.isIn.2 x hx h0, .inr ?_⟩⟩
  rcases h.2 with ⟨hv, _⟩ | ⟨g, cap, cur, hv, _, hg, _⟩
  · injection hv with e1 e2 _
    omega
  · injection hv with e1 _ _
    rw [hx] at e1
    injection e1 with e1
    exact ⟨cur, by rw [e1]; exact hg⟩
theorem ElemAt.low {w : World} {B : Nat} {a : Option Addr} {n c : Nat} {p : List Int} (hI : Ints .u8 w a n c p) (h : ∀ x, a = some x → 0 < n → x.block < B) : ElemAt w B a n c p :=
  ⟨hI, fun x hx h0 => ⟨hI.isIn.2 x hx h0, .inl (h x hx h0)⟩⟩
theorem ElemAt.stay {w w' : World} {B : Nat} {a : Option Addr} {n c : Nat} {p : List Int} (h : ElemAt w B a n c p) (hs : w.heap.size ≤ w'.heap.size) (hk : ∀ b, b < w.heap.size → (b < B ∨ ∃ cur, w.heap[b]? = some (.cells cur 5 (0, 0))) → w'.heap[b]? = w.heap[b]?) : ElemAt w' B a n c p := by
  obtain ⟨hI, hx⟩ := h
  refine ⟨⟨hI.1, hI.2.1, ?_⟩, fun x h1 h2 => ?_⟩
  · rcases hI.2.2 with h0 | ⟨b, off, ha, hc⟩
    · exact .inl h0
    · by_cases hn : n = 0
      · exact .inl hn
      refine .inr ⟨b, off, ha, fun i hi => ?_⟩
      obtain ⟨h1, h2⟩ := hx _ ha (by omega)
      rw [← hc i hi]
      simp only [World.cell?, hk b h1 h2]
  · obtain ⟨h3, h4⟩ := hx x h1 h2
    refine ⟨Nat.lt_of_lt_of_le h3 hs, ?_⟩
    rw [hk _ h3 h4]
    exact h4
/-- A slice of such slices, of the call's own: its row lies from B on, what it points to below E, or in blocks of bytes. -/
def RowsO (w : World) (B E : Nat) (v : Value) (ps : List (List Int)) : Prop :=
  ∃ SL : List Value, w.ownsRow B 34 1 v ps.length SL ∧ ∀ i, i < ps.length → ∃ a n c, SL[i]? = some (.slice a n c) ∧ ElemAt w E a n c (ps.getD i [])
theorem RowsO.nil (w : World) (B E : Nat) : RowsO w B E (.slice none 0 0) [] := ⟨[], World.ownsRow_nil _ _ _ _, fun i hi => by cases hi⟩
theorem RowsO.low {w : World} {B B' E : Nat} {v : Value} {ps : List (List Int)} (h : RowsO w B E v ps) (hB : B' ≤ B) : RowsO w B' E v ps := by
  obtain ⟨SL, ho, hx⟩ := h
  exact ⟨SL, own_low9 ho hB, hx⟩
theorem RowsO.stay {w w' : World} {B E : Nat} {v : Value} {ps : List (List Int)} (h : RowsO w B E v ps) (hs : w.heap.size ≤ w'.heap.size) (hk : ∀ b, b < w.heap.size → (b < E ∨ ∃ cur t, w.heap[b]? = some (.cells cur t (0, 0)) ∧ (t = 5 ∨ (t = 34 ∧ B ≤ b))) → w'.heap[b]? = w.heap[b]?) : RowsO w' B E v ps := by
  obtain ⟨SL, ho, hx⟩ := h
  refine ⟨SL, own_same ho fun b hb => hk b (ho.lt b hb).2 (.inr ?_), fun i hi => ?_⟩
  · rcases ho.2 with ⟨hv, _⟩ | ⟨g, cap, cur, hv, hB, hg, _⟩
    · rw [hv] at hb; cases hb
    · rw [hv] at hb
      injection hb with hb
      subst hb
      exact ⟨cur, _, hg, .inr ⟨rfl, hB⟩⟩
  · obtain ⟨a, n, c, h1, h2⟩ := hx i hi
    exact ⟨a, n, c, h1, h2.stay hs fun b hb h3 => hk b hb (h3.imp id fun ⟨cur, h4⟩ => ⟨cur, _, h4, .inl rfl⟩)⟩
theorem RowsO.keep {w w' : World} {B E : Nat} {v : Value} {ps : List (List Int)} (h : RowsO w B E v ps) (hb : Below w.heap.size w w') : RowsO w' B E v ps := h.stay hb.size fun b hlt _ => hb.block b hlt
/-- One more. -/
theorem RowsO.snoc {w w' : World} {B E : Nat} {v v' : Value} {ps : List (List Int)} {SL : List Value} {a : Option Addr} {n c : Nat} {p : List Int} (hE : E ≤ B) (ho : w.ownsRow B 34 1 v ps.length SL) (hx : ∀ i, i < ps.length → ∃ a n c, SL[i]? = some (.slice a n c) ∧ ElemAt w E a n c (ps.getD i []))
    (hg : w.grownBy w' v.ownBlock) (he : ElemAt w E a n c p) (ho' : w'.ownsRow B 34 1 v' (ps.length + 1) (SL ++ [.slice a n c])) : RowsO w' B E v' (ps ++ [p]) := by
  have hk : ∀ b, b < w.heap.size → (b < E ∨ ∃ cur, w.heap[b]? = some (.cells cur 5 (0, 0))) → w'.heap[b]? = w.heap[b]? := fun b hb h => hg.block b hb fun e => by
    rcases ho.2 with ⟨hv, _⟩ | ⟨g, cap, cur, hv, hB, hgg, _⟩
    · rw [hv] at e; cases e
    · rw [hv] at e
      injection e with e
      have e' : b = g := e
      subst e'
      rcases h with h | ⟨cur', h⟩
      · omega
      · rw [hgg] at h
        injection h with h
        injection h with _ h _
        exact absurd h (by decide)
  have hl := ho.1
  rw [Nat.mul_one] at hl
  refine ⟨SL ++ [.slice a n c], by rw [List.length_append]; exact ho', fun i hi => ?_⟩
  rw [List.length_append, List.length_singleton] at hi
  by_cases hlt : i < ps.length
  · obtain ⟨a', n', c', h1, h2⟩ := hx i hlt
    refine ⟨a', n', c', by rw [List.getElem?_append_left (by omega)]; exact h1, ?_⟩
    rw [List.getD_eq_getElem?_getD, List.getElem?_append_left hlt, ← List.getD_eq_getElem?_getD]
    exact h2.stay hg.size hk
  · obtain rfl : i = ps.length := by omega
    refine ⟨a, n, c, by rw [List.getElem?_append_right (by omega), hl]; simp, ?_⟩
    rw [List.getD_eq_getElem?_getD, List.getElem?_append_right (Nat.le_refl _), Nat.sub_self]
    exact he.stay hg.size hk
theorem RowsO.parts {w : World} {B E : Nat} {v : Value} {ps : List (List Int)} (h : RowsO w B E v ps) : ∃ a c, v = .slice a ps.length c ∧ Parts w a ps.length c ps := by
  obtain ⟨SL, ho, hx⟩ := h
  rcases ho.2 with ⟨hv, h0⟩ | ⟨g, cap, cur, hv, hB, hg, hc, _, _, ht⟩
  · refine ⟨none, 0, by rw [hv, h0], rfl, by omega, .inl h0⟩
  · refine ⟨some ⟨g, 0, none⟩, cap, hv, rfl, hc, .inr ⟨g, 0, rfl, fun i hi => ?_⟩⟩
    obtain ⟨a, n, c, h1, h2⟩ := hx i hi
    refine ⟨a, n, c, ?_, h2.1⟩
    rw [Nat.zero_add, cell_of_row w g i cur 34 (0, 0) hg, ← Array.getElem?_toList]
    rw [Nat.mul_one] at ht
    rw [← List.getElem?_take_of_lt hi, ht]
    exact h1
theorem meas19 (n P SZ : Nat) (h1 : 1 ≤ SZ) (h2 : P + SZ ≤ n) : n + 1 - (intOf (.int .i64 ((P : Int) + (SZ : Int)))).toNat < n + 1 - (intOf (.int .i64 (P : Int))).toNat := by
  simp only [intOf]
  omega
theorem few19 {k n P : Nat} (h : 9 * k ≤ P) (hP : P ≤ n) (hn : n ≤ 1000000000) : k + 1 ≤ maxLen ∧ (k + 1) * 24 ≤ 140737488355328 := by
  unfold maxLen
  omega
theorem pos19 {P SZ L : Nat} (h : P + SZ = P + (8 + L)) : 1 ≤ SZ := by omega
theorem wrap_sum19 (a b : Nat) (h : a + b ≤ 1000000000) : wrap64 ((a : Int) + (b : Int)) = (a : Int) + (b : Int) := by unfold wrap64; omega
theorem info_sl19 : ∃ i, Tryz.prog.info? 34 = some i ∧ i.zero = some (.slice none 0 0) ∧ i.size = 1 ∧ i.bytes = 24 := by
  have h : (Tryz.prog.info? 34).map (fun i => (i.zero, i.size, i.bytes)) = some (some (.slice none 0 0), 1, 24) := by kernel_rfl
  cases hq : Tryz.prog.info? 34 with
  | none => simp [hq] at h
  | some i => rw [hq] at h; simp at h; exact ⟨i, rfl, h.1, h.2.1, h.2.2⟩
/-- What One ends in, with letters for what it tells. -/
theorem oneEnd_is {xs : List Int} {w : World} {q : Ending} {w' : World} (h : OneEnd xs w q w') {bd : List Int} {sz : Nat} {e : Int} (h1 : (oneF xs).1 = bd) (h2 : (oneF xs).2.1 = sz) (h3 : (oneF xs).2.2 = e) :
    ∃ b d, q = .returned (.tuple #[.slice b bd.length d, .int .i64 (sz : Int), .int .i64 e]) ∧ w'.ownsRow w.heap.size 5 1 (.slice b bd.length d) bd.length (bd.map (Value.int .u8)) ∧ Below w.heap.size w w' := by
  subst h1; subst h2; subst h3
  exact h

set_option maxRecDepth 100000 in
set_option maxHeartbeats 2000000 in
theorem r19Scan_any (a : Option Addr) (n c : Nat) (xs : List Int) (K : Nat) (hF : Fr xs K) (w : World) (hI : Ints .u8 w a n c xs) (hr : ∀ x ∈ xs, 0 ≤ x ∧ x < 256) (hn : n ≤ 1000000000) :
    Calls Tryz.prog 80 #[.slice a n c] w fun q w' => ∃ v, q = .returned (.tuple #[v, .int .i64 ((atF xs K : Nat) : Int)]) ∧ RowsO w' w.heap.size 0 v (bodiesF xs K) ∧ Below w.heap.size w w' := by
  obtain ⟨i1, ji, jz0, jz1, jz2⟩ := info_sl19
  have hl := hI.len
  have hIH := Lib.hid hI
  have hFH := Lib.hid hF
  have hrH := Lib.hid hr
  have hnH := Lib.hid hn
  have hlH := Lib.hid hl
  clear hI hF hr hn hl
  go_enter Tryz.func80, Tryz.ntmps80
  go_wp2
  go_loopw [4, 5] (fun v i wr => ∃ k : Nat, k ≤ K ∧ i = .int .i64 ((atF xs k : Nat) : Int) ∧ RowsO wr w.heap.size 0 v (bodiesF xs k) ∧ Below w.heap.size w wr) (fun _ i _ => n + 1 - (intOf i).toNat)
  case atStart => exact ⟨0, Nat.zero_le _, rfl, RowsO.nil _ _ _, Below.refl _ _⟩
  case round =>
    obtain ⟨k, hk, rfl, hO, hB⟩ := hrel
    have hat := (hFH.out.at hk).2
    have hat9 := (hFH.out.at hk).1
    rw [hlH.out] at hat
    obtain ⟨P, hP⟩ : ∃ P, atF xs k = P := ⟨_, rfl⟩
    have hone := r19One_any (cutAddr a c P) (n - P) (c - P) (xs.drop P) wr ((hIH.out.keep hB).cutAt P (by omega)) (fun x hx => hrH.out x (List.mem_of_mem_drop hx)) (by have := hnH.out; omega)
    have sN : ∀ wx : World, (Instr.sliceAt 34 (.slice a n c) (some (.int .i64 (P : Int))) none none).run Tryz.prog wx = .ok (.slice (cutAddr a c P) (n - P) (c - P)) wx := fun wx => run_cut 34 5 Tryz.underlying34 sizeU8s wx a n c .i64 P (by omega)
    obtain ⟨BD, hBD⟩ : ∃ b, bodyF xs k = b := ⟨_, rfl⟩
    obtain ⟨E, hE⟩ : ∃ b, errF xs k = b := ⟨_, rfl⟩
    obtain ⟨SZ, hSZ⟩ : ∃ b, (oneF (xs.drop P)).2.1 = b := ⟨_, rfl⟩
    have hone2 := Lib.hid (fun q w' (h : OneEnd (xs.drop P) wr q w') => oneEnd_is (bd := BD) (sz := SZ) (e := E) h (by rw [← hP]; exact hBD) hSZ (by rw [← hP]; exact hE))
    have hPs := Lib.hid (show atF xs (k + 1) = P + SZ by rw [← hSZ, ← hP]; rfl)
    have hkH := Lib.hid hk
    rw [hP] at hat hat9 ⊢
    have hni : (n : Int) ≤ 1000000000 := by have := hnH.out; omega
    have hPi : (P : Int) ≤ (n : Int) := by omega
    by_cases hlt : k < K
    · obtain rfl : E = 0 := by rw [← hE]; exact hFH.out.ok k hlt
      have hnx := (hFH.out.at (k := k + 1) hlt).2
      have hbd := (hFH.out.body hlt)
      rw [hPs.out, hlH.out] at hnx
      have hsw : wrap64 ((P : Int) + (SZ : Int)) = (P : Int) + (SZ : Int) := wrap_sum19 P SZ (Nat.le_trans hnx hnH.out)
      have hb9 := hbd.2.2.1
      rw [hPs.out, hP] at hb9
      have hms := Lib.hid (meas19 n P SZ (pos19 hb9) hnx)
      have hfw := Lib.hid (few19 hat9 hat hnH.out)
      have hBDH := Lib.hid hBD
      have hltH := Lib.hid hlt
      clear hBD hE hSZ hP hbd hnx hlt hk hat9 hb9
      go_wp2_with fail
      refine hone.mono ?_
      intro q w2 hq
      obtain ⟨b, d, rfl, ho, b2⟩ := hone2.out q w2 hq
      have hO2 := hO.keep b2
      have hB2 := hB.trans (b2.mono hB.size)
      have hel : ElemAt w2 0 b BD.length d BD := ElemAt.of_owns ho
      clear hone hone2 hq ho b2 hO hB
      obtain ⟨SL, ho2, hx2⟩ := hO2
      rw [bodiesF_len] at ho2
      have ho3 := ho2.alloc (.cells #[.slice b BD.length d] 34)
      have hB3 := hB2.alloc hB2.size (.cells #[.slice b BD.length d] 34)
      have hg3 := World.grownBy_alloc w2 (.cells #[.slice b BD.length d] 34) none
      have hel3 := hel.stay hg3.size (fun q hq _ => hg3.block q hq (by simp))
      have hx3 : ∀ i, i < (bodiesF xs k).length → ∃ a n c, SL[i]? = some (.slice a n c) ∧ ElemAt (w2.alloc (.cells #[.slice b BD.length d] 34)) 0 a n c ((bodiesF xs k).getD i []) := fun i hi => by
        obtain ⟨a', n', c', h1, h2⟩ := hx2 i hi
        exact ⟨a', n', c', h1, h2.stay hg3.size (fun q hq _ => hg3.block q hq (by simp))⟩
      clear hx2 ho2 hel hg3 hB2
      go_wp2_with (at_builtin; refine wpList_append_own _ rfl _ _ 44 rfl w.heap.size 34 i1 (.slice none 0 0) 1 24 Tryz.underlying44 ji jz0 jz1 jz2 rfl (by decide) _ _ _ rfl ho3 ⟨w2.heap.size, 0, none⟩ 1 1 [.slice b BD.length d] rfl rfl ?c1 ?c2 ?c3 ?c4 ?c5 ?_)
      case c1 =>
        intro t u ht
        rcases t with _ | t
        · obtain rfl : u = .slice b BD.length d := by simpa using ht.symm
          exact World.cell?_alloc_at (w := w2) #[.slice b BD.length d] 34 w2.heap.size 0 rfl
        · simp at ht
      case c2 => simp [Value.oneCell']
      case c3 => exact hfw.out.1
      case c4 => exact hfw.out.2
      case c5 => exact hB3.size
      intro v4 w4 ho4 hg4 _
      have hO4 : RowsO w4 w.heap.size 0 v4 (bodiesF xs k ++ [BD]) := RowsO.snoc (Nat.zero_le _) (by rw [bodiesF_len]; exact ho3) hx3 hg4 hel3 (by rw [bodiesF_len]; exact ho4)
      rw [← hBDH.out, ← bodiesF_succ] at hO4
      have hB4 : Below w.heap.size w w4 := hB3.grown hg4 hB3.size (fun j hj => (ho3.lt j hj).1)
      clear ho3 hx3 hg4 hel3 ho4 hB3
      go_wp2
      refine ⟨⟨k + 1, hltH.out, ?_, hO4, hB4⟩, ?_⟩
      · rw [hPs.out]
        congr 1
      · rw [hsw]
        exact hms.out
    · obtain rfl : k = K := by omega
      have hE0 : ¬ E = 0 := by rw [← hE]; exact hFH.out.stop
      have hEb : (E != 0) = true := bne_iff_ne.2 hE0
      have hPH := Lib.hid hP
      clear hBD hE hSZ hP hlt hk hat9
      go_wp2_with fail
      refine hone.mono ?_
      intro q w2 hq
      obtain ⟨b, d, rfl, ho, b2⟩ := hone2.out q w2 hq
      have hO2 := hO.keep b2
      have hB2 := hB.trans (b2.mono hB.size)
      clear hone hone2 hq ho b2 hO hB
      go_wp2
      go_ret2
      refine ⟨_, ?_, hO2, hB2⟩
      rw [hPH.out]
      rfl

set_option maxRecDepth 100000 in
set_option maxHeartbeats 2000000 in
theorem r19Same_any (a b : Option Addr) (n c d : Nat) (ps : List (List Int)) (w : World) (h1 : Parts w a n c ps) (h2 : Parts w b n d ps) (hr : ∀ p ∈ ps, ∀ x ∈ p, 0 ≤ x ∧ x < 256) (hn : n ≤ 1000000000) :
    Calls Tryz.prog 57 #[.slice a n c, .slice b n d] w fun q w' => q = .returned (.bool true) ∧ Below w.heap.size w w' := by
  have hl := Lib.hid h1.len
  have H1 := Lib.hid h1
  have H2 := Lib.hid h2
  have hnH := Lib.hid hn
  have hrH := Lib.hid hr
  clear h1 h2 hn hr
  go_enter Tryz.func57, Tryz.ntmps57
  go_wp2
  go_loopw [5] (fun i wr => ∃ k : Nat, k ≤ n ∧ i = .int .i64 k ∧ Below w.heap.size w wr) (fun i _ => n - (intOf i).toNat)
  case atStart => exact ⟨0, Nat.zero_le _, rfl, Below.refl _ _⟩
  case round =>
    obtain ⟨k, hk, rfl, hB⟩ := hrel
    by_cases hlt : k < n
    · have hki : (k : Int) < (n : Int) := by omega
      have hni : (n : Int) ≤ 1000000000 := by have := hnH.out; omega
      obtain ⟨b1, o1, rfl, at1⟩ := (H1.out.keep hB).at (by omega)
      obtain ⟨b2, o2, rfl, at2⟩ := (H2.out.keep hB).at (by omega)
      obtain ⟨A1, m1, c1, cell1, I1⟩ := at1 k hlt
      obtain ⟨A2, m2, c2, cell2, I2⟩ := at2 k hlt
      have hpr := getD_mem_range hrH.out k
      obtain ⟨p, hp⟩ : ∃ p, ps.getD k [] = p := ⟨_, rfl⟩
      rw [hp] at I1 I2 hpr
      have hsame : ((strOfNums p).toList == (strOfNums p).toList) = true := by rw [str_eq hpr hpr]; simp
      have g1 := Lib.hid (fun w' (h : Below wr.heap.size wr w') => (show w'.cell? ⟨b1, o1 + k, none⟩ = some (.slice A1 m1 c1) by rw [h.cell (World.block_lt_of_cell? wr _ cell1)]; exact cell1))
      have g2 := Lib.hid (fun w' (h : Below wr.heap.size wr w') => (show w'.cell? ⟨b2, o2 + k, none⟩ = some (.slice A2 m2 c2) by rw [h.cell (World.block_lt_of_cell? wr _ cell2)]; exact cell2))
      have s1 := Lib.hid (fun w' (h : Below wr.heap.size wr w') => (I1.keep h).string (P := Tryz.prog) 34 9 5 Tryz.underlying34 Tryz.underlying5 Tryz.underlying9)
      have s2 := Lib.hid (fun w' (h : Below wr.heap.size wr w') => (I2.keep h).string (P := Tryz.prog) 34 9 5 Tryz.underlying34 Tryz.underlying5 Tryz.underlying9)
      have hltH := Lib.hid hlt
      clear at1 at2 cell1 cell2 I1 I2 hp hpr hlt hk
      go_wp2_with fail
      refine region_seqS (fun w' => Below wr.heap.size wr w') (by kernel_rfl) (Below.refl _ _).drew ?_
      simp only [pairs, Nat.reduceAdd]
      have b0 : Below wr.heap.size wr wr.drew := (Below.refl _ _).drew
      repeat (first
        | (refine SeqS.take (v := ?_) (by first | assumption | trivial) (by kernel_rfl) (by decide +kernel) (by decide +kernel) (Or.inl ⟨by rfl, ?_⟩) ?_
           rotate_left
           focus
             intro w' hb'
             go_simp
             with_reducible rfl
           simp only [Act.put, List.setIfInBounds_toArray, List.set_cons_zero, List.set_cons_succ])
        | (refine SeqS.take (v := ?_) (by first | assumption | trivial) (by kernel_rfl) (by decide +kernel) (by decide +kernel) (Or.inl ⟨by rfl, ?_⟩) ?_
           rotate_left
           focus
             intro w' hb'
             have d0 := g1.out w' hb'
             go_simp
             with_reducible rfl
           simp only [Act.put, List.setIfInBounds_toArray, List.set_cons_zero, List.set_cons_succ])
        | (refine SeqS.take (v := ?_) (by first | assumption | trivial) (by kernel_rfl) (by decide +kernel) (by decide +kernel) (Or.inl ⟨by rfl, ?_⟩) ?_
           rotate_left
           focus
             intro w' hb'
             have d0 := g2.out w' hb'
             go_simp
             with_reducible rfl
           simp only [Act.put, List.setIfInBounds_toArray, List.set_cons_zero, List.set_cons_succ])
        | (refine SeqS.take (v := ?_) (by first | assumption | trivial) (by kernel_rfl) (by decide +kernel) (by decide +kernel) (Or.inl ⟨by rfl, ?_⟩) ?_
           rotate_left
           focus
             intro w' hb'
             have d0 := s1.out w' hb'
             go_simp
             with_reducible rfl
           simp only [Act.put, List.setIfInBounds_toArray, List.set_cons_zero, List.set_cons_succ])
        | (refine SeqS.take (v := ?_) (by first | assumption | trivial) (by kernel_rfl) (by decide +kernel) (by decide +kernel) (Or.inl ⟨by rfl, ?_⟩) ?_
           rotate_left
           focus
             intro w' hb'
             have d0 := s2.out w' hb'
             go_simp
             with_reducible rfl
           simp only [Act.put, List.setIfInBounds_toArray, List.set_cons_zero, List.set_cons_succ])
        | (refine SeqS.take (v := undef) (by first | assumption | trivial) (by kernel_rfl) (by decide +kernel) (by decide +kernel) (Or.inr ⟨by rfl, rfl⟩) ?_
           simp only [Act.put, List.setIfInBounds_toArray, List.set_cons_zero, List.set_cons_succ])
        | (refine SeqS.take1 (v := ?_) (by first | assumption | trivial) (by kernel_rfl) (by decide +kernel) (by decide +kernel) (Or.inl ⟨by rfl, ?_⟩) ?_
           rotate_left
           focus
             intro w' hb'
             go_simp
             with_reducible rfl
           simp only [Act.put, List.setIfInBounds_toArray, List.set_cons_zero, List.set_cons_succ])
        | (refine SeqS.take1 (v := ?_) (by first | assumption | trivial) (by kernel_rfl) (by decide +kernel) (by decide +kernel) (Or.inl ⟨by rfl, ?_⟩) ?_
           rotate_left
           focus
             intro w' hb'
             have d0 := g1.out w' hb'
             go_simp
             with_reducible rfl
           simp only [Act.put, List.setIfInBounds_toArray, List.set_cons_zero, List.set_cons_succ])
        | (refine SeqS.take1 (v := ?_) (by first | assumption | trivial) (by kernel_rfl) (by decide +kernel) (by decide +kernel) (Or.inl ⟨by rfl, ?_⟩) ?_
           rotate_left
           focus
             intro w' hb'
             have d0 := g2.out w' hb'
             go_simp
             with_reducible rfl
           simp only [Act.put, List.setIfInBounds_toArray, List.set_cons_zero, List.set_cons_succ])
        | (refine SeqS.take1 (v := ?_) (by first | assumption | trivial) (by kernel_rfl) (by decide +kernel) (by decide +kernel) (Or.inl ⟨by rfl, ?_⟩) ?_
           rotate_left
           focus
             intro w' hb'
             have d0 := s1.out w' hb'
             go_simp
             with_reducible rfl
           simp only [Act.put, List.setIfInBounds_toArray, List.set_cons_zero, List.set_cons_succ])
        | (refine SeqS.take1 (v := ?_) (by first | assumption | trivial) (by kernel_rfl) (by decide +kernel) (by decide +kernel) (Or.inl ⟨by rfl, ?_⟩) ?_
           rotate_left
           focus
             intro w' hb'
             have d0 := s2.out w' hb'
             go_simp
             with_reducible rfl
           simp only [Act.put, List.setIfInBounds_toArray, List.set_cons_zero, List.set_cons_succ])
        | (refine SeqS.take1 (v := undef) (by first | assumption | trivial) (by kernel_rfl) (by decide +kernel) (by decide +kernel) (Or.inr ⟨by rfl, rfl⟩) ?_
           simp only [Act.put, List.setIfInBounds_toArray, List.set_cons_zero, List.set_cons_succ])
        | (refine SeqS.take2 (v := ?_) (by first | assumption | trivial) (by kernel_rfl) (by decide +kernel) (by decide +kernel) (Or.inl ⟨by rfl, ?_⟩) ?_
           rotate_left
           focus
             intro w' hb'
             go_simp
             with_reducible rfl
           simp only [Act.put, List.setIfInBounds_toArray, List.set_cons_zero, List.set_cons_succ])
        | (refine SeqS.take2 (v := ?_) (by first | assumption | trivial) (by kernel_rfl) (by decide +kernel) (by decide +kernel) (Or.inl ⟨by rfl, ?_⟩) ?_
           rotate_left
           focus
             intro w' hb'
             have d0 := g1.out w' hb'
             go_simp
             with_reducible rfl
           simp only [Act.put, List.setIfInBounds_toArray, List.set_cons_zero, List.set_cons_succ])
        | (refine SeqS.take2 (v := ?_) (by first | assumption | trivial) (by kernel_rfl) (by decide +kernel) (by decide +kernel) (Or.inl ⟨by rfl, ?_⟩) ?_
           rotate_left
           focus
             intro w' hb'
             have d0 := g2.out w' hb'
             go_simp
             with_reducible rfl
           simp only [Act.put, List.setIfInBounds_toArray, List.set_cons_zero, List.set_cons_succ])
        | (refine SeqS.take2 (v := ?_) (by first | assumption | trivial) (by kernel_rfl) (by decide +kernel) (by decide +kernel) (Or.inl ⟨by rfl, ?_⟩) ?_
           rotate_left
           focus
             intro w' hb'
             have d0 := s1.out w' hb'
             go_simp
             with_reducible rfl
           simp only [Act.put, List.setIfInBounds_toArray, List.set_cons_zero, List.set_cons_succ])
        | (refine SeqS.take2 (v := ?_) (by first | assumption | trivial) (by kernel_rfl) (by decide +kernel) (by decide +kernel) (Or.inl ⟨by rfl, ?_⟩) ?_
           rotate_left
           focus
             intro w' hb'
             have d0 := s2.out w' hb'
             go_simp
             with_reducible rfl
           simp only [Act.put, List.setIfInBounds_toArray, List.set_cons_zero, List.set_cons_succ])
        | (refine SeqS.take2 (v := undef) (by first | assumption | trivial) (by kernel_rfl) (by decide +kernel) (by decide +kernel) (Or.inr ⟨by rfl, rfl⟩) ?_
           simp only [Act.put, List.setIfInBounds_toArray, List.set_cons_zero, List.set_cons_succ])
        | (refine SeqS.take3 (v := ?_) (by first | assumption | trivial) (by kernel_rfl) (by decide +kernel) (by decide +kernel) (Or.inl ⟨by rfl, ?_⟩) ?_
           rotate_left
           focus
             intro w' hb'
             go_simp
             with_reducible rfl
           simp only [Act.put, List.setIfInBounds_toArray, List.set_cons_zero, List.set_cons_succ])
        | (refine SeqS.take3 (v := ?_) (by first | assumption | trivial) (by kernel_rfl) (by decide +kernel) (by decide +kernel) (Or.inl ⟨by rfl, ?_⟩) ?_
           rotate_left
           focus
             intro w' hb'
             have d0 := g1.out w' hb'
             go_simp
             with_reducible rfl
           simp only [Act.put, List.setIfInBounds_toArray, List.set_cons_zero, List.set_cons_succ])
        | (refine SeqS.take3 (v := ?_) (by first | assumption | trivial) (by kernel_rfl) (by decide +kernel) (by decide +kernel) (Or.inl ⟨by rfl, ?_⟩) ?_
           rotate_left
           focus
             intro w' hb'
             have d0 := g2.out w' hb'
             go_simp
             with_reducible rfl
           simp only [Act.put, List.setIfInBounds_toArray, List.set_cons_zero, List.set_cons_succ])
        | (refine SeqS.take3 (v := ?_) (by first | assumption | trivial) (by kernel_rfl) (by decide +kernel) (by decide +kernel) (Or.inl ⟨by rfl, ?_⟩) ?_
           rotate_left
           focus
             intro w' hb'
             have d0 := s1.out w' hb'
             go_simp
             with_reducible rfl
           simp only [Act.put, List.setIfInBounds_toArray, List.set_cons_zero, List.set_cons_succ])
        | (refine SeqS.take3 (v := ?_) (by first | assumption | trivial) (by kernel_rfl) (by decide +kernel) (by decide +kernel) (Or.inl ⟨by rfl, ?_⟩) ?_
           rotate_left
           focus
             intro w' hb'
             have d0 := s2.out w' hb'
             go_simp
             with_reducible rfl
           simp only [Act.put, List.setIfInBounds_toArray, List.set_cons_zero, List.set_cons_succ])
        | (refine SeqS.take3 (v := undef) (by first | assumption | trivial) (by kernel_rfl) (by decide +kernel) (by decide +kernel) (Or.inr ⟨by rfl, rfl⟩) ?_
           simp only [Act.put, List.setIfInBounds_toArray, List.set_cons_zero, List.set_cons_succ]))
      refine SeqS.done (by decide +kernel) ?_
      have hB2 := hB.drew
      clear g1 g2 s1 s2 b0 hB
      go_wp2_with fail
      exact ⟨⟨k + 1, by have := hltH.out; omega, by congr 1, hB2⟩, by simp only [intOf]; have := hltH.out; omega⟩
    · obtain rfl : k = n := by omega
      go_wp2
      go_ret
      exact ⟨rfl, hB⟩
end Go.Proofs.YtinmmhbiomcdoaaGreatDoor

/-
  Texts of stages that were proved on their own, joined: CpTab, CpMore. Each begins with its own words.
-/
import Derived.Test.YtinmmhbiomcdoaaGreatDoorJVaLawN4
import Derived.Test.YtinmmhbiomcdoaaGreatDoorJVaLawN22
import Derived.Test.YtinmmhbiomcdoaaGreatDoorSteps

/-
  The package's table of half bytes ('Glob11': its variable holds the moves by four bits), and movedHalf. Nothing is written.
-/
namespace Go.Proofs.YtinmmhbiomcdoaaGreatDoor
open Go.RowKit

/-- A row of sums in memory. -/
def rowZ (n : Nat) (f : Nat → Int) : List Value := (List.range n).map fun i => .int .u32 (f i)
theorem rowZ_len (n : Nat) (f : Nat → Int) : (rowZ n f).length = n := by simp [rowZ]
theorem rowZ_at (n : Nat) (f : Nat → Int) (i : Nat) (hi : i < n) : (rowZ n f)[i]? = some (.int .u32 (f i)) := by
  unfold rowZ
  rw [List.getElem?_map, List.getElem?_range hi]
  rfl
theorem rowZ_set (n : Nat) (f : Nat → Int) (i : Nat) (v : Int) : (rowZ n f).set i (.int .u32 v) = rowZ n (fun j => if j = i then v else f j) := by
  apply List.ext_getElem?
  intro j
  by_cases hj : j < n
  · rw [rowZ_at n _ j hj, List.getElem?_set]
    by_cases h : i = j
    · subst h
      rw [if_pos rfl, if_pos rfl, if_pos (by rw [rowZ_len]; exact hj)]
    · rw [if_neg h, rowZ_at n f j hj, if_neg (fun e => h e.symm)]
  · rw [List.getElem?_eq_none (by rw [List.length_set, rowZ_len]; omega), List.getElem?_eq_none (by rw [rowZ_len]; omega)]
theorem rowZ_congr {n : Nat} {f g : Nat → Int} (h : ∀ i, i < n → f i = g i) : rowZ n f = rowZ n g := by
  unfold rowZ
  exact List.map_congr_left fun i hi => by rw [h i (List.mem_range.1 hi)]
/-- The first j of a row are as they will be, the others 0. -/
def fst (j : Nat) (f : Nat → Int) : Nat → Int := fun i => if i < j then f i else 0
theorem fst_set (n j : Nat) (f : Nat → Int) : (rowZ n (fst j f)).set j (.int .u32 (f j)) = rowZ n (fst (j + 1) f) := by
  rw [rowZ_set]
  refine rowZ_congr fun i _ => ?_
  unfold fst
  by_cases h : i = j
  · subst h
    rw [if_pos rfl, if_pos (by omega)]
  · rw [if_neg h]
    by_cases l : i < j
    · rw [if_pos l, if_pos (by omega)]
    · rw [if_neg l, if_neg (by omega)]
theorem fst_all (n : Nat) (f : Nat → Int) : rowZ n (fst n f) = rowZ n f := rowZ_congr fun i hi => by unfold fst; rw [if_pos hi]
theorem rowZ_one (n : Nat) (f : Nat → Int) : ∀ v ∈ rowZ n f, v.oneCell' = true := by
  intro v hv
  unfold rowZ at hv
  obtain ⟨i, _, rfl⟩ := List.mem_map.1 hv
  rfl


/-- The package's variable holds what half a byte becomes. -/
def Glob11 (w : World) : Prop := ∀ i, i < 16 → w.cell? ⟨3, i, none⟩ = some (.int .u32 (tabN 4 i))
theorem Glob11.lt {w : World} (h : Glob11 w) : 3 < w.heap.size := World.block_lt_of_cell? w _ (h 0 (by omega))
theorem Glob11.keep {B : Nat} {w w' : World} (h : Glob11 w) (hb : Below B w w') (hB : w.heap.size ≤ B) : Glob11 w' :=
  fun i hi => by rw [hb.cell (Nat.lt_of_lt_of_le h.lt hB)]; exact h i hi

theorem half_step (X : BitVec 32) : bits .xor .u32 (nv X / 2 ^ 4) (tabN 4 (X.toNat % 16)) = nv (mvn 4 X) := by
  rw [← low_step X 4 (by decide), bits_xor, bits_xor, BitVec.xor_comm]
theorem low15 (X : BitVec 32) : bits .and .u32 (nv X) 15 = ((X.toNat % 16 : Nat) : Int) := by
  rw [bits_and, bv_nv, show bv 15 = 15#32 by decide]
  unfold nv
  rw [BitVec.toNat_and, show (15#32 : BitVec 32).toNat = 2 ^ 4 - 1 from rfl, Nat.and_two_pow_sub_one_eq_mod]

set_option maxRecDepth 100000 in
set_option maxHeartbeats 800000 in
theorem cHalf_any (X : BitVec 32) (w : World) (hG : Glob11 w) : Calls Tryz.prog 148 #[.int .u32 (nv X)] w fun q w' => q = .returned (.int .u32 (nv (mvn 4 X))) ∧ w = w' := by
  have hs := half_step X
  have hl := low15 X
  have hi : X.toNat % 16 < 16 := Nat.mod_lt _ (by decide)
  have h0 := nv_lo X
  have h1 := nv_hi X
  obtain ⟨i, hie⟩ : ∃ i, X.toNat % 16 = i := ⟨_, rfl⟩
  rw [hie] at hs hl hi
  have hc := hG i hi
  have hiI : (i : Int) < 16 := by omega
  obtain ⟨t, ht⟩ : ∃ t, tabN 4 i = t := ⟨_, rfl⟩
  rw [ht] at hs hc
  rw [show (2 : Int) ^ 4 = 16 from rfl] at hs
  obtain ⟨x, hx⟩ : ∃ x, nv X = x := ⟨_, rfl⟩
  rw [hx] at hs hl h0 h1 ⊢
  clear hx ht hie hi
  go_enter Tryz.func148, Tryz.ntmps148
  go_wp2
  go_ret
  exact ⟨by rw [← hs]; rfl, rfl⟩
end Go.Proofs.YtinmmhbiomcdoaaGreatDoor

/-
  More by the table of half bytes, Of by More. Nothing is written. Conditions: bytes below 256, at most a million bytes and parts.
-/
namespace Go.Proofs.YtinmmhbiomcdoaaGreatDoor
open Go.RowKit

theorem not_xor (X : BitVec 32) : bits .xor .u32 IntKind.u32.max (nv X) = nv (X ^^^ 4294967295#32) := by
  rw [show IntKind.u32.max = 4294967295 from rfl, bits_xor, bv_nv, show bv 4294967295 = 4294967295#32 by decide, BitVec.xor_comm]

theorem mvn44 (X : BitVec 32) : mvn 4 (mvn 4 X) = mvn 8 X := by rw [← mvn_add]

set_option maxRecDepth 100000 in
set_option maxHeartbeats 1000000 in
theorem cMore_any (S : BitVec 32) (a : Option Addr) (n c : Nat) (xs : List Int) (w : World) (hG : Glob11 w) (hI : Ints .u8 w a n c xs) (hr : ∀ x ∈ xs, 0 ≤ x ∧ x < 256) (hn : n ≤ 1000000) :
    Calls Tryz.prog 137 #[.int .u32 (nv S), .slice a n c] w fun q w' => q = .returned (.int .u32 (nv (crcOf S (bvs xs)))) ∧ w = w' := by
  have hlen := hI.len
  have hnI : (n : Int) ≤ 1000000 := by omega
  have hS := not_xor S
  obtain ⟨s, hs⟩ : ∃ s, nv S = s := ⟨_, rfl⟩
  have s0 := nv_lo S
  have s1 := nv_hi S
  rw [hs] at hS s0 s1 ⊢
  obtain ⟨T, hT⟩ : ∃ T, S ^^^ 4294967295#32 = T := ⟨_, rfl⟩
  rw [hT] at hS
  have hTH := Lib.hid hT
  have hmv := Lib.hid (fun X => cHalf_any X w hG)
  clear hs hT hG
  go_enter Tryz.func137, Tryz.ntmps137
  go_wp2_with fail
  go_loopw [5, 12] (fun s i wr => ∃ j : Nat, j ≤ n ∧ i = .int .i64 j ∧ s = .int .u32 (nv (more T (bvs (xs.take j)))) ∧ w = wr) (fun _ i _ => n - (intOf i).toNat)
  case atStart => exact ⟨0, Nat.zero_le _, rfl, rfl, rfl⟩
  case round =>
    obtain ⟨j, hj, rfl, rfl, hwr⟩ := hrel
    subst hwr
    by_cases hlt : j < n
    · have hji : (j : Int) < (n : Int) := by omega
      obtain ⟨b, off, rfl, hcell⟩ := hI.at (by omega)
      have hc := hcell j hlt
      have hv := getD_range (p := fun x => 0 ≤ x ∧ x < 256) hr j (by rw [hlen]; exact hlt)
      have hmt := more_take T xs j (by rw [hlen]; exact hlt)
      obtain ⟨v, hvv⟩ : ∃ v, xs.getD j 0 = v := ⟨_, rfl⟩
      rw [hvv] at hc hv hmt
      obtain ⟨M, hM⟩ : ∃ M, more T (bvs (xs.take j)) = M := ⟨_, rfl⟩
      rw [hM] at hmt ⊢
      have hx := xor_nv M v
      have c1 := hmv.out (M ^^^ bv v)
      have c2 := hmv.out (mvn 4 (M ^^^ bv v))
      rw [mvn44, ← hmt] at c2
      have m0 := nv_lo M
      have m1 := nv_hi M
      obtain ⟨y, hy⟩ : ∃ y, nv M = y := ⟨_, rfl⟩
      rw [hy] at hx m0 m1 ⊢
      obtain ⟨y1, hy1⟩ : ∃ y1, nv (M ^^^ bv v) = y1 := ⟨_, rfl⟩
      rw [hy1] at hx c1
      obtain ⟨y2, hy2⟩ : ∃ y2, nv (mvn 4 (M ^^^ bv v)) = y2 := ⟨_, rfl⟩
      rw [hy2] at c1 c2
      have hltH := Lib.hid hlt
      clear hlt hj hcell hvv hM hmt hy hy1 hy2 hI
      go_wp2_with fail
      refine c1.mono ?_
      rintro q w1 ⟨rfl, rfl⟩
      clear c1
      go_wp2_with fail
      refine c2.mono ?_
      rintro q w1 ⟨rfl, rfl⟩
      clear c2
      go_wp2
      exact ⟨⟨j + 1, by have := hltH.out; omega, by congr 1, rfl, by trivial⟩, by simp only [intOf]; have := hltH.out; omega⟩
    · obtain rfl : j = n := by omega
      have hji : ¬ (j : Int) < (j : Int) := by omega
      rw [List.take_of_length_le (by omega)]
      have hfin := not_xor (more T (bvs xs))
      obtain ⟨y, hy⟩ : ∃ y, nv (more T (bvs xs)) = y := ⟨_, rfl⟩
      rw [hy] at hfin ⊢
      clear hlt hj hy
      go_wp2
      go_ret
      exact ⟨by rw [← hTH.out]; rfl, rfl⟩

set_option maxRecDepth 100000 in
set_option maxHeartbeats 1000000 in
theorem cOf_any (a : Option Addr) (n c : Nat) (ps : List (List Int)) (w : World) (hG : Glob11 w) (hP : Parts w a n c ps) (hr : ∀ p ∈ ps, ∀ y ∈ p, 0 ≤ y ∧ y < 256) (hn : n + ps.flatten.length ≤ 1000000) :
    Calls Tryz.prog 123 #[.slice a n c] w fun q w' => q = .returned (.int .u32 (nv (crcOf 0#32 (bvs ps.flatten)))) ∧ w = w' := by
  have hll := fun j => flatten_take_le ps j
  have hst := fun j (h : j < ps.length) => flatten_snoc ps j h
  have hpl := hP.len
  have hnI : (n : Int) ≤ 1000000 := by omega
  have hnH := Lib.hid hn
  clear hn
  have hcm := Lib.hid (fun S A m d xs hJ hgr hml => cMore_any S A m d xs w hG hJ hgr hml)
  clear hG
  go_enter Tryz.func123, Tryz.ntmps123
  go_wp2_with fail
  go_loopw [3, 8] (fun x i wr => ∃ j : Nat, j ≤ n ∧ i = .int .i64 j ∧ x = .int .u32 (nv (crcOf 0#32 (bvs (ps.take j).flatten))) ∧ w = wr) (fun _ i _ => n - (intOf i).toNat)
  case atStart => exact ⟨0, Nat.zero_le _, rfl, by rw [List.take_zero, List.flatten_nil, crc_none], rfl⟩
  case round =>
    obtain ⟨j, hj, rfl, rfl, hwr⟩ := hrel
    subst hwr
    by_cases hlt : j < n
    · have hji : (j : Int) < (n : Int) := by omega
      obtain ⟨b, off, rfl, hat⟩ := hP.at (by omega)
      obtain ⟨A, m, d, hc, hJ⟩ := hat j hlt
      have hfl := hst j (by omega)
      have hl1 := hll (j + 1)
      have hJl := hJ.len
      have hml : m ≤ 1000000 := by
        have := hnH.out
        rw [hfl, List.length_append] at hl1
        omega
      have hgr := getD_mem_range hr j
      have hc2 := hcm.out (crcOf 0#32 (bvs (ps.take j).flatten)) A m d (ps.getD j []) hJ hgr hml
      rw [← crcOf_append, ← bvs_append, ← hfl] at hc2
      obtain ⟨x, hx⟩ : ∃ x, nv (crcOf 0#32 (bvs (ps.take j).flatten)) = x := ⟨_, rfl⟩
      rw [hx] at hc2 ⊢
      have hltH := Lib.hid hlt
      clear hlt hj hat hx hfl hl1 hJl hgr
      go_wp2_with fail
      refine hc2.mono ?_
      rintro q w3 ⟨rfl, rfl⟩
      clear hc2 hJ hc
      go_wp2
      exact ⟨⟨j + 1, by have := hltH.out; omega, by congr 1, rfl, by trivial⟩, by simp only [intOf]; have := hltH.out; omega⟩
    · obtain rfl : j = n := by omega
      have hji : ¬ (j : Int) < (j : Int) := by omega
      rw [List.take_of_length_le (by rw [hpl]; exact Nat.le_refl _)]
      clear hlt hj
      go_wp2
      go_ret
      exact ⟨rfl, rfl⟩
end Go.Proofs.YtinmmhbiomcdoaaGreatDoor

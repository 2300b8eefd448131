/-
  The package's table of half bytes ('Glob11': its variable holds the moves by four bits), and movedHalf. Nothing is written.
-/
import Derived.Test.YtlningdlddnnkaaDoorCrcTab
import Derived.Test.YtlningdlddnnkaaDoorCrcProg
import Derived.Test.YtlningdlddnnkaaDoorSteps
namespace Go.Proofs.YtlningdlddnnkaaDoor
open Go.RowKit

/-- A row of sums in memory. -/
def rowZ (n : Nat) (f : Nat → Int) : List Value := (List.range n).map fun i => .int .u32 (f i)
theorem rowZ_len (n : Nat) (f : Nat → Int) : (rowZ n f).length = n := by simp [rowZ]
theorem rowZ_at (n : Nat) (f : Nat → Int) (i : Nat) (hi : i < n) : (rowZ n f)[i]? = some (.int .u32 (f i)) := by
  unfold rowZ
  rw [List.getElem?_map, List.getElem?_range hi]
  rfl
theorem rowZ_set (n : Nat) (f : Nat → Int) (i : Nat) (v : Int) : (rowZ n f).set i (.int .u32 v) = rowZ n (fun j => if j = i then v else f j) := by
  apply List.ext_getElem?
  intro j
  by_cases hj : j < n
  · rw [rowZ_at n _ j hj, List.getElem?_set]
    by_cases h : i = j
    · subst h
      rw [if_pos rfl, if_pos rfl, if_pos (by rw [rowZ_len]; exact hj)]
    · rw [if_neg h, rowZ_at n f j hj, if_neg (fun e => h e.symm)]
  · rw [List.getElem?_eq_none (by rw [List.length_set, rowZ_len]; omega), List.getElem?_eq_none (by rw [rowZ_len]; omega)]
theorem rowZ_congr {n : Nat} {f g : Nat → Int} (h : ∀ i, i < n → f i = g i) : rowZ n f = rowZ n g := by
  unfold rowZ
  exact List.map_congr_left fun i hi => by rw [h i (List.mem_range.1 hi)]
/-- The first j of a row are as they will be, the others 0. -/
def fst (j : Nat) (f : Nat → Int) : Nat → Int := fun i => if i < j then f i else 0
theorem fst_set (n j : Nat) (f : Nat → Int) : (rowZ n (fst j f)).set j (.int .u32 (f j)) = rowZ n (fst (j + 1) f) := by
  rw [rowZ_set]
  refine rowZ_congr fun i _ => ?_
  unfold fst
  by_cases h : i = j
  · subst h
    rw [if_pos rfl, if_pos (by omega)]
  · rw [if_neg h]
    by_cases l : i < j
    · rw [if_pos l, if_pos (by omega)]
    · rw [if_neg l, if_neg (by omega)]
theorem fst_all (n : Nat) (f : Nat → Int) : rowZ n (fst n f) = rowZ n f := rowZ_congr fun i hi => by unfold fst; rw [if_pos hi]
theorem rowZ_one (n : Nat) (f : Nat → Int) : ∀ v ∈ rowZ n f, v.oneCell' = true := by
  intro v hv
  unfold rowZ at hv
  obtain ⟨i, _, rfl⟩ := List.mem_map.1 hv
  rfl


/-- The package's variable holds what half a byte becomes. -/
def Glob11 (w : World) : Prop := ∀ i, i < 16 → w.cell? ⟨0, i, none⟩ = some (.int .u32 (tabN 4 i))
theorem Glob11.lt {w : World} (h : Glob11 w) : 0 < w.heap.size := World.block_lt_of_cell? w _ (h 0 (by omega))
theorem Glob11.keep {B : Nat} {w w' : World} (h : Glob11 w) (hb : Below B w w') (hB : w.heap.size ≤ B) : Glob11 w' :=
  fun i hi => by rw [hb.cell (Nat.lt_of_lt_of_le h.lt hB)]; exact h i hi

theorem half_step (X : BitVec 32) : bits .xor .u32 (nv X / 2 ^ 4) (tabN 4 (X.toNat % 16)) = nv (mvn 4 X) := by
  rw [← low_step X 4 (by decide), bits_xor, bits_xor, BitVec.xor_comm]
theorem low15 (X : BitVec 32) : bits .and .u32 (nv X) 15 = ((X.toNat % 16 : Nat) : Int) := by
  rw [bits_and, bv_nv, show bv 15 = 15#32 by decide]
  unfold nv
  rw [BitVec.toNat_and, show (15#32 : BitVec 32).toNat = 2 ^ 4 - 1 from rfl, Nat.and_two_pow_sub_one_eq_mod]

set_option maxRecDepth 100000 in
set_option maxHeartbeats 800000 in
theorem cHalf_any (X : BitVec 32) (w : World) (hG : Glob11 w) : Calls Tryd.prog 17 #[.int .u32 (nv X)] w fun q w' => q = .returned (.int .u32 (nv (mvn 4 X))) ∧ w = w' := by
  have hs := half_step X
  have hl := low15 X
  have hi : X.toNat % 16 < 16 := Nat.mod_lt _ (by decide)
  have h0 := nv_lo X
  have h1 := nv_hi X
  obtain ⟨i, hie⟩ : ∃ i, X.toNat % 16 = i := ⟨_, rfl⟩
  rw [hie] at hs hl hi
  have hc := hG i hi
  have hiI : (i : Int) < 16 := by omega
  obtain ⟨t, ht⟩ : ∃ t, tabN 4 i = t := ⟨_, rfl⟩
  rw [ht] at hs hc
  rw [show (2 : Int) ^ 4 = 16 from rfl] at hs
  obtain ⟨x, hx⟩ : ∃ x, nv X = x := ⟨_, rfl⟩
  rw [hx] at hs hl h0 h1 ⊢
  clear hx ht hie hi
  go_enter Tryd.func17, Tryd.ntmps17
  go_wp2
  go_ret
  exact ⟨by rw [← hs]; rfl, rfl⟩
end Go.Proofs.YtlningdlddnnkaaDoor

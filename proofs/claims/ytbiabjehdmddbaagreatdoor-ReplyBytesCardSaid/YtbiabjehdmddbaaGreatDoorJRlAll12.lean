/-
  Texts of stages that were proved on their own, joined: HexRef, HexRefB, HexRefI, HexRefN. Each begins with its own words.
-/
import Derived.Test.YtbiabjehdmddbaaGreatDoorJRlAll1
import Derived.Test.YtbiabjehdmddbaaGreatDoorJRlAll11
import Derived.StillTailTactics
import Derived.Test.YtbiabjehdmddbaaGreatDoorJRlAll2
import Derived.Test.YtbiabjehdmddbaaGreatDoorJRlAll9

/-
  The document's own text of bytes and of an id, and what is read of a text (layer 12): half, Text, digit, Bytes. New memory alone is written. Conditions: at most a million signs.
-/
namespace Go.Proofs.YtbiabjehdmddbaaGreatDoor
open Go.RowKit

set_option maxRecDepth 100000 in
set_option maxHeartbeats 800000 in
theorem rHalf_any (n : Nat) (hn : n < 16) (w : World) : Calls Tryz.prog 49 #[.int .i64 (n : Int)] w fun q w' => q = .returned (.string (strOfNums [sgn n])) ∧ w = w' := by
  have hs := fun w => str_slice (P := Tryz.prog) hexS n (n + 1) (by omega) (by show n + 1 ≤ 16; omega) 9 Tryz.underlying9 w
  rw [hexS_half n hn, Int.natCast_add, show ((1 : Nat) : Int) = 1 from rfl] at hs
  unfold hexS at hs
  have hni : (n : Int) < 16 := by omega
  obtain ⟨S, hS⟩ : ∃ S, strOfNums [sgn n] = S := ⟨_, rfl⟩
  rw [hS] at hs ⊢
  clear hS hn
  go_enter Tryz.func49, Tryz.ntmps49
  go_wp2
  go_ret
  exact ⟨rfl, rfl⟩

theorem textB_take (xs : List Int) (j : Nat) (h : j < xs.length) : textB (xs.take (j + 1)) = textB (xs.take j) ++ ([sgn (xs.getD j 0 / 16)] ++ [sgn (xs.getD j 0 % 16)]) := by
  rw [List.take_succ_eq_append_getElem h, textB_append, List.getD_eq_getElem?_getD, List.getElem?_eq_getElem h]
  rfl
end Go.Proofs.YtbiabjehdmddbaaGreatDoor

/-
  The document's own reading of a text as bytes (layer 12): Bytes. New memory alone is written. Conditions: at most a million signs.
-/
namespace Go.Proofs.YtbiabjehdmddbaaGreatDoor
open Go.RowKit

theorem drop_two (ss : List Int) (i : Nat) (h : i + 1 < ss.length) : ss.drop i = ss.getD i 0 :: ss.getD (i + 1) 0 :: ss.drop (i + 2) := by
  rw [List.drop_eq_getElem_cons (by omega), List.drop_eq_getElem_cons h, List.getD_eq_getElem?_getD, List.getD_eq_getElem?_getD, List.getElem?_eq_getElem (by omega), List.getElem?_eq_getElem h]
  rfl
/-- What stands behind j bytes: the rest alone is still to be read. -/
def Mid (ss : List Int) (i : Nat) (ys : List Int) : Prop := ofB ss = (ofB (ss.drop i)).map (fun l => ys ++ l)
theorem Mid.start (ss : List Int) : Mid ss 0 [] := by unfold Mid; simp
theorem Mid.none {ss ys : List Int} {i : Nat} (h : Mid ss i ys) (hi : i + 1 < ss.length) (hd : dig (ss.getD i 0) < 0 ∨ dig (ss.getD (i + 1) 0) < 0) : ofB ss = none := by
  unfold Mid at h
  rw [h, drop_two ss i hi, ofB, if_pos hd]
  rfl
theorem Mid.step {ss ys : List Int} {i : Nat} (h : Mid ss i ys) (hi : i + 1 < ss.length) (hd : ¬ (dig (ss.getD i 0) < 0 ∨ dig (ss.getD (i + 1) 0) < 0)) : Mid ss (i + 2) (ys ++ [16 * dig (ss.getD i 0) + dig (ss.getD (i + 1) 0)]) := by
  unfold Mid at h ⊢
  rw [h, drop_two ss i hi, ofB, if_neg hd, Option.map_map]
  congr 1
  funext l
  simp
theorem Mid.done {ss ys : List Int} {i : Nat} (h : Mid ss i ys) (hi : ss.length ≤ i) : ofB ss = some ys := by
  unfold Mid at h
  rw [h, List.drop_eq_nil_of_le hi]
  simp [ofB]
theorem unText_nil : unText [] = ([], 4) := rfl
theorem unText_dash : unText [45] = ([], 0) := rfl
theorem unText_some {ss ys : List Int} (h1 : ss ≠ [45]) (h2 : ss ≠ []) (h : ofB ss = some ys) : unText ss = (ys, 0) := by
  unfold unText ofL
  rw [if_neg h1, if_neg h2, h]
theorem unText_none {ss : List Int} (h1 : ss ≠ [45]) (h2 : ss ≠ []) (h : ofB ss = none) : unText ss = ([], 4) := by
  unfold unText ofL
  rw [if_neg h1, if_neg h2, h]
theorem dig_lt (c : Int) : dig c < 16 := by unfold dig; repeat' split <;> try omega
theorem dig_ge (c : Int) : -1 ≤ dig c := by unfold dig; repeat' split <;> try omega

theorem WrInts {w : World} {B : Nat} {e : TypeId} {a : Option Addr} {n c : Nat} {xs : List Int} (h : w.ownsRow B e 1 (.slice a n c) n (xs.map (Value.int .u8))) : Ints .u8 w a n c xs := by
  obtain ⟨a5, c5, hv, hi⟩ := Ints.of_owns h
  injection hv with e1 _ e2
  subst e1; subst e2
  exact hi
end Go.Proofs.YtbiabjehdmddbaaGreatDoor

/-
  The document's own text of an id, and its reading of a text as an id (layer 12): Id, IdOf. New memory alone is written. Conditions: at most a million signs.
-/
namespace Go.Proofs.YtbiabjehdmddbaaGreatDoor
open Go.RowKit

theorem slice_to12 {P : Program} {t e : TypeId} {n g off : Nat} (hu : P.underlying t = some (.array n e)) (hs : (P.info? e).map (·.size) = some 1) (h : Nat) (hh : h ≤ n) (w : World) :
    (Instr.sliceAt t (.pointer (some ⟨g, off, none⟩)) none (some (.int .i64 (h : Int))) none).run P w = .ok (.slice (some ⟨g, off, none⟩) h n) w := by
  have hn : P.arrayLen t = n := by simp [Program.arrayLen, hu]
  have he : P.elem t = e := by simp [Program.elem, hu]
  have hrun := run_sliceAt_array_h w t ⟨g, off, none⟩ (by rw [hn, he]; exact hu) .i64 (h : Int) (by omega) (by rw [hn]; omega)
  have hsz : (sizeOf e).run P w = .ok 1 w := by
    cases hq : P.info? e with
    | none => simp [hq] at hs
    | some i => simp [sizeOf, typeInfo, hq, (by simpa [hq] using hs : i.size = 1)]
  rw [hn, he, hsz] at hrun
  rw [hrun]
  unfold slicedAt
  have : (⟨g, off, none⟩ : Addr).add (0 * 1) = ⟨g, off, none⟩ := by simp [Addr.add_mid]
  simp [this]
theorem cell_far (w : World) (p a : Addr) (v : Value) (h : a.block ≠ p.block) : (w.setCell p v).cell? a = w.cell? a := World.cell?_of_block (w := w) (Below.heap_setCell w p v a.block h)
theorem cutN_step {xs : List Int} {n : Nat} (h1 : 1 < n) (h0 : xs.getD (n - 1) 0 = 0) : cutN xs n = cutN xs (n - 1) := by
  obtain ⟨k, rfl⟩ : ∃ k, n = k + 1 := ⟨n - 1, by omega⟩
  rw [cutN, if_pos ⟨by omega, h0⟩]
  rfl
theorem cutN_stop {xs : List Int} {n : Nat} (hn : 0 < n) (h : ¬ (1 < n ∧ xs.getD (n - 1) 0 = 0)) : cutN xs n = n := by
  obtain ⟨k, rfl⟩ : ∃ k, n = k + 1 := ⟨n - 1, by omega⟩
  rw [cutN, if_neg (fun e => h ⟨by omega, e.2⟩)]
theorem blk_take {w : World} {g : Nat} {t : TypeId} {xs : List Int} {m n : Nat} (h : Blk w g t (xs.map (Value.int .u8))) (hl : xs.length = m) (hn : n ≤ m) : Ints .u8 w (some ⟨g, 0, none⟩) n m (xs.take n) := by
  refine ⟨by rw [List.length_take]; omega, hn, .inr ⟨g, 0, rfl, fun i hi => ?_⟩⟩
  rw [Nat.zero_add, h.cell, List.getElem?_map, List.getElem?_eq_getElem (by omega), List.getD_eq_getElem?_getD, List.getElem?_take_of_lt hi, List.getElem?_eq_getElem (by omega)]
  rfl
end Go.Proofs.YtbiabjehdmddbaaGreatDoor

/-
  The document's own text of a number, and its reading of a text as a number (layer 12): Num, NumOf. Nothing is written. Conditions: numbers below 2^64, at most a million signs.
-/
namespace Go.Proofs.YtbiabjehdmddbaaGreatDoor
open Go.RowKit

set_option maxRecDepth 100000 in
set_option maxHeartbeats 1000000 in
theorem rNum_any (n : Nat) : ∀ (w : World), n < 18446744073709551616 → Calls Tryz.prog 27 #[.int .u64 (n : Int)] w fun q w' => q = .returned (.string (strOfNums (numL n))) ∧ w = w' := by
  induction n using Nat.strongRecOn with
  | ind n ih =>
    intro w hn
    by_cases h : n < 10
    · have hh := rHalf_any n (by omega) w
      rw [numL_small h]
      rw [show sgn (n : Int) = 48 + (n : Int) from if_pos (by omega)] at hh
      obtain ⟨S, hS⟩ : ∃ S, strOfNums [48 + (n : Int)] = S := ⟨_, rfl⟩
      rw [hS] at hh ⊢
      have hni : (n : Int) < 10 := by omega
      clear ih hn h hS
      go_enter Tryz.func27, Tryz.ntmps27
      go_wp2_with fail
      refine hh.mono ?_
      rintro q w1 ⟨rfl, rfl⟩
      go_wp2
      go_ret
      exact ⟨rfl, rfl⟩
    · have hr := ih (n / 10) (by omega) w (by omega)
      have hh := rHalf_any (n % 10) (by omega) w
      rw [show sgn ((n % 10 : Nat) : Int) = 48 + ((n % 10 : Nat) : Int) from if_pos (by omega)] at hh
      rw [numL_big h, ← str_append]
      have hz := numL_size (n / 10) 19 (by omega)
      have z1 : (strOfNums (numL (n / 10))).size ≤ 20 := by rw [strOfNums_size]; omega
      obtain ⟨S, hS⟩ : ∃ S, strOfNums (numL (n / 10)) = S := ⟨_, rfl⟩
      obtain ⟨T, hT⟩ : ∃ T, strOfNums [48 + ((n % 10 : Nat) : Int)] = T := ⟨_, rfl⟩
      have z2 : T.size = 1 := by rw [← hT]; rfl
      rw [hS] at hr z1
      rw [hT] at hh
      rw [hS, hT]
      have k1 := fun w => run_string_add_sum (P := Tryz.prog) w S T (by omega)
      obtain ⟨A, hA⟩ : ∃ A, n / 10 = A := ⟨_, rfl⟩
      obtain ⟨B, hB⟩ : ∃ B, n % 10 = B := ⟨_, rfl⟩
      rw [hA] at hr
      rw [hB] at hh
      have e1 : (n : Int) / 10 = (A : Int) := by omega
      have e2 : (n : Int) % 10 = (B : Int) := by omega
      have hni : ¬ (n : Int) < 10 := by omega
      have hB10 : (B : Int) < 10 := by omega
      obtain ⟨N, hN⟩ : ∃ N : Int, (n : Int) = N := ⟨_, rfl⟩
      have q1 : N.tdiv 10 = (A : Int) := by rw [Int.tdiv_eq_ediv_of_nonneg (by omega)]; omega
      have q2 : N.tmod 10 = (B : Int) := by rw [Int.tmod_eq_emod_of_nonneg (by omega)]; omega
      have q3 : IntKind.u64.wrap (A : Int) = (A : Int) := by rw [IntKind.wrap_u64]; omega
      have q4 : IntKind.u64.wrap (B : Int) = (B : Int) := by rw [IntKind.wrap_u64]; omega
      have q5 : IntKind.i64.wrap (B : Int) = (B : Int) := by rw [IntKind.wrap_i64]; omega
      rw [hN] at e1 e2 hni ⊢
      clear ih hn h hS hT hA hB hz hN z1 z2
      go_enter Tryz.func27, Tryz.ntmps27
      go_wp2_with fail
      refine hr.mono ?_
      rintro q w1 ⟨rfl, rfl⟩
      go_wp2_with fail
      refine hh.mono ?_
      rintro q w1 ⟨rfl, rfl⟩
      go_wp2
      go_ret
      exact ⟨rfl, rfl⟩

theorem valL_take (ss : List Int) (j : Nat) (h : j < ss.length) : valL (ss.take (j + 1)) = 10 * valL (ss.take j) + (ss.getD j 0 - 48).toNat := by
  rw [List.take_succ_eq_append_getElem h, valL_snoc, List.getD_eq_getElem?_getD, List.getElem?_eq_getElem h]
  rfl
theorem valL_append (a b : List Int) : valL a ≤ valL (a ++ b) := by
  have h : valL (a ++ b) = b.foldl valF (valL a) := by unfold valL; rw [List.foldl_append]
  rw [h, valL_cons_fold]
  have := Nat.le_mul_of_pos_right (valL a) (Nat.pow_pos (n := b.length) (show 0 < 10 by decide))
  omega
theorem valL_take_le (ss : List Int) (j : Nat) : valL (ss.take j) ≤ valL ss := by
  have h := valL_append (ss.take j) (ss.drop j)
  rwa [List.take_append_drop] at h
end Go.Proofs.YtbiabjehdmddbaaGreatDoor

/-
  Texts of stages that were proved on their own, joined: BkRead, KcRead. Each begins with its own words.
-/
import Derived.Test.YtaaflnmdaplfkaaJKcAll4
import Derived.Test.YtaaflnmdaplfkaaJKcAll11
import Derived.Test.YtaaflnmdaplfkaaJKcAll10

/-
  Reading a block with layer 9's reader, as plain functions: what the steps come to is what the block of the bytes is. No Go function is spoken of. Conditions: bytes below 256.
-/
namespace Go.Proofs.Ytaaflnmdaplfkaa
open Go.RowKit

def bd1 (xs : List Int) : Nat × Int × Nat := rdStep xs.length 0 0 32
def bdH (xs : List Int) : List Int := padTo 32 (rdBytes xs 0 0 32)
def bd2 (xs : List Int) : Nat × Int × Nat := rdStep xs.length (bd1 xs).1 (bd1 xs).2.1 32
def bdP (xs : List Int) : List Int := padTo 32 (rdBytes xs (bd1 xs).1 (bd1 xs).2.1 32)
def bd3 (xs : List Int) : Nat × Int × Int := rdCount xs (bd2 xs).1 (bd2 xs).2.1 1 32
def bd4 (xs : List Int) : Nat × Int × Nat := rdIds xs.length (bd3 xs).1 (bd3 xs).2.1 (bd3 xs).2.2
def bdZ (xs : List Int) : List Int := (xs.drop (bd3 xs).1).take (32 * (bd4 xs).2.2)
theorem pad32_len (xs : List Int) (p : Nat) (e : Int) : (padTo 32 (rdBytes xs p e 32)).length = 32 := by
  refine padTo_len ?_
  unfold rdBytes
  rw [List.length_take]
  exact Nat.le_trans (Nat.min_le_left _ _) (rdStep_cap _ _ _ 32)
theorem bdH_len (xs : List Int) : (bdH xs).length = 32 := pad32_len _ _ _
theorem bdP_len (xs : List Int) : (bdP xs).length = 32 := pad32_len _ _ _
theorem rdIds_bad {n p : Nat} {e A : Int} (h : e ≠ 0) : rdIds n p e A = (p, e, 0) := by unfold rdIds; rw [if_pos h]
theorem bd_bad2 {xs : List Int} {p : Nat} {E : Int} (hE : E ≠ 0) (h : (bd2 xs).1 = p ∧ (bd2 xs).2.1 = E) : bd4 xs = (p, E, 0) := by
  have h3 : bd3 xs = (p, E, 0) := by unfold bd3; rw [h.1, h.2, rdC_bad (by decide) hE]
  unfold bd4
  rw [h3, rdIds_bad hE]
theorem bd_bad1 {xs : List Int} {p : Nat} {E : Int} (hE : E ≠ 0) (h : (bd1 xs).1 = p ∧ (bd1 xs).2.1 = E) : bd4 xs = (p, E, 0) :=
  bd_bad2 hE (by unfold bd2; rw [h.1, h.2, rdStep_bad hE]; exact ⟨rfl, rfl⟩)
theorem pad_full {zs : List Int} (h : zs.length = 32) : padTo 32 zs = zs := by
  unfold padTo
  rw [h]
  exact List.append_nil _
theorem bk_read {xs : List Int} (hr : okB xs) :
    ∃ E, doneOf xs.length (bd4 xs).1 (bd4 xs).2.1 = E ∧ (E ≠ 0 → decK xs = (noBlk, E)) ∧ (E = 0 → blkOf xs (bd4 xs).2.2 = ⟨bdH xs, bdP xs, (bd4 xs).2.2, bdZ xs⟩ ∧ BlkOk ⟨bdH xs, bdP xs, (bd4 xs).2.2, bdZ xs⟩ ∧ (bd4 xs).2.2 ≤ 32 ∧ decK xs = if rightK (blkOf xs (bd4 xs).2.2) = true then (blkOf xs (bd4 xs).2.2, 0) else (noBlk, 4)) := by
  refine ⟨_, rfl, ?_⟩
  by_cases h32 : xs.length < 32
  · have h4 := bd_bad1 (xs := xs) (p := 0) (show (2 : Int) ≠ 0 by decide) (by unfold bd1; rw [rdStep_few (by decide) (by omega)]; exact ⟨rfl, rfl⟩)
    rw [h4, doneOf_bad (show (2 : Int) ≠ 0 by decide)]
    exact ⟨fun _ => by unfold decK; rw [if_pos (by omega)], fun e => absurd e (show (2 : Int) ≠ 0 by decide)⟩
  have h1 : bd1 xs = (32, 0, 32) := by unfold bd1; rw [rdStep_fits (by decide) (by omega)]; rfl
  by_cases h64 : xs.length < 64
  · have h4 := bd_bad2 (xs := xs) (p := 32) (show (2 : Int) ≠ 0 by decide) (by unfold bd2; rw [h1, rdStep_few (by decide) (by show (xs.length : Int) - ((32 : Nat) : Int) < 32; omega)]; exact ⟨rfl, rfl⟩)
    rw [h4, doneOf_bad (show (2 : Int) ≠ 0 by decide)]
    exact ⟨fun _ => by unfold decK; rw [if_pos (by omega)], fun e => absurd e (show (2 : Int) ≠ 0 by decide)⟩
  have h2 : bd2 xs = (64, 0, 32) := by unfold bd2; rw [h1, rdStep_fits (by decide) (by show (32 : Int) ≤ (xs.length : Int) - ((32 : Nat) : Int); omega)]; rfl
  by_cases h65 : xs.length < 65
  · have h3 : bd3 xs = (64, 2, 0) := by unfold bd3 rdCount; rw [h2, rdN_few (by decide) (by show (xs.length : Int) - ((64 : Nat) : Int) < 1; omega), if_pos (by decide)]
    have h4 : bd4 xs = (64, 2, 0) := by unfold bd4; rw [h3, rdIds_bad (by decide)]
    rw [h4, doneOf_bad (show (2 : Int) ≠ 0 by decide)]
    exact ⟨fun _ => by unfold decK; rw [if_pos (by omega)], fun e => absurd e (show (2 : Int) ≠ 0 by decide)⟩
  have hb : 0 ≤ xs.getD 64 0 ∧ xs.getD 64 0 < 256 := by
    rw [List.getD_eq_getElem?_getD, List.getElem?_eq_getElem (by omega)]
    exact hr _ (List.getElem_mem (by omega))
  have hN1 : rdNum xs 64 0 1 = (65, 0, xs.getD 64 0) := by
    rw [rdN_fits (by decide) (by show (1 : Int) ≤ (xs.length : Int) - ((64 : Nat) : Int); omega)]
    have : (xs.drop 64).take (1 : Int).toNat = [xs.getD 64 0] := by
      rw [show (1 : Int).toNat = 1 from rfl, List.drop_eq_getElem_cons (by omega), List.take_succ_cons, List.take_zero, List.getD_eq_getElem?_getD, List.getElem?_eq_getElem (by omega)]
      rfl
    rw [this]
    show (64 + 1, (0 : Int), be [xs.getD 64 0]) = _
    unfold be
    simp
  obtain ⟨N, hN⟩ : ∃ N : Nat, xs.getD 64 0 = (N : Int) := ⟨(xs.getD 64 0).toNat, by omega⟩
  rw [hN] at hN1 hb
  have hM : decK xs = if (32 : Int) < N then (noBlk, 4) else if xs.length < 65 + 32 * N then (noBlk, 2) else if 65 + 32 * N < xs.length then (noBlk, 3) else if rightK (blkOf xs N) = true then (blkOf xs N, 0) else (noBlk, 4) := by
    unfold decK
    rw [hN, Int.toNat_natCast, if_neg h65]
  by_cases hbig : (32 : Int) < N
  · have h3 : bd3 xs = (65, 4, 0) := by unfold bd3 rdCount; rw [h2, hN1, if_neg (show ¬ (0 : Int) ≠ 0 by decide), if_pos (by right; exact hbig)]
    have h4 : bd4 xs = (65, 4, 0) := by unfold bd4; rw [h3, rdIds_bad (by decide)]
    rw [h4, doneOf_bad (show (4 : Int) ≠ 0 by decide)]
    exact ⟨fun _ => by rw [hM, if_pos hbig], fun e => absurd e (show (4 : Int) ≠ 0 by decide)⟩
  rw [if_neg hbig] at hM
  have h3 : bd3 xs = (65, 0, (N : Int)) := by unfold bd3 rdCount; rw [h2, hN1, if_neg (show ¬ (0 : Int) ≠ 0 by decide), if_neg (by show ¬ ((32 : Int) < 0 ∨ 32 < (N : Int)); omega)]
  by_cases hs : xs.length < 65 + 32 * N
  · have h4 : bd4 xs = (65, 2, 0) := by
      unfold bd4 rdIds
      rw [h3]
      dsimp only
      rw [if_neg (by decide), if_neg (by omega), if_pos (by omega)]
    rw [h4, doneOf_bad (show (2 : Int) ≠ 0 by decide)]
    exact ⟨fun _ => by rw [hM, if_pos hs], fun e => absurd e (show (2 : Int) ≠ 0 by decide)⟩
  rw [if_neg hs] at hM
  have h4 : bd4 xs = (65 + 32 * N, 0, N) := by
    unfold bd4 rdIds
    rw [h3]
    dsimp only
    rw [if_neg (by decide), if_neg (by omega), if_neg (by omega), Int.toNat_natCast]
  rw [h4]
  dsimp only
  rw [doneOf_ok]
  refine ⟨fun e => ?_, fun e => ?_⟩
  · by_cases hl : 65 + 32 * N < xs.length
    · rw [if_pos hl, hM, if_pos hl]
    · rw [if_neg hl] at e
      exact absurd rfl e
  · by_cases hl : 65 + 32 * N < xs.length
    · rw [if_pos hl] at e
      exact absurd e (by decide)
    · rw [if_neg hl] at hM
      have eH : bdH xs = xs.take 32 := by
        unfold bdH rdBytes
        rw [show rdStep xs.length 0 0 32 = (32, 0, 32) from h1]
        exact pad_full (by rw [List.length_take]; simp; omega)
      have eP : bdP xs = (xs.drop 32).take 32 := by
        unfold bdP rdBytes
        rw [h1]
        dsimp only
        rw [show rdStep xs.length 32 0 32 = (64, 0, 32) by rw [← h2]; unfold bd2; rw [h1]]
        exact pad_full (by rw [List.length_take, List.length_drop]; simp; omega)
      have eZ : bdZ xs = xs.drop 65 := by
        unfold bdZ
        rw [h3, h4]
        exact List.take_of_length_le (by rw [List.length_drop]; simp; omega)
      rw [eH, eP, eZ]
      refine ⟨rfl, ⟨?_, ?_, ?_, ?_, ?_, ?_⟩, by omega, hM⟩
      · show (xs.take 32).length = 32; rw [List.length_take]; omega
      · show ((xs.drop 32).take 32).length = 32; rw [List.length_take, List.length_drop]; omega
      · show (xs.drop 65).length = 32 * N; rw [List.length_drop]; omega
      · exact fun x h => hr x (List.mem_of_mem_take h)
      · exact fun x h => hr x (List.mem_of_mem_drop (List.mem_of_mem_take h))
      · exact fun x h => hr x (List.mem_of_mem_drop h)
end Go.Proofs.Ytaaflnmdaplfkaa

/-
  Reading a record with layer 9's reader, as plain functions: what the steps of each kind come to is what the record of the bytes is. No Go function is spoken of. Conditions: bytes below 256.
-/
namespace Go.Proofs.Ytaaflnmdaplfkaa
open Go.RowKit

theorem num8 {xs : List Int} (hr : okB xs) (p : Nat) (e : Int) : 0 ≤ (rdNum xs p e 1).2.2 ∧ (rdNum xs p e 1).2.2 < 256 := by
  by_cases he : e = 0
  · subst he
    by_cases h : (1 : Int) ≤ (xs.length : Int) - p
    · rw [rdN_fits (by decide) h]
      have hb := be_range ((xs.drop p).take 1) 1 (by rw [List.length_take, List.length_drop]; omega) (fun x hx => hr x (List.mem_of_mem_drop (List.mem_of_mem_take hx)))
      exact ⟨hb.1, by have := hb.2; show be ((xs.drop p).take 1) < 256; omega⟩
    · rw [rdN_few (by decide) (by omega)]; exact ⟨Int.le_refl 0, (by decide : (0 : Int) < 256)⟩
  · rw [rdN_bad (by decide) he]; exact ⟨Int.le_refl 0, (by decide : (0 : Int) < 256)⟩
def krO (xs : List Int) : Nat × Int × Int := rdNum xs (rdOne xs 4).1 (rdOne xs 4).2.1 1
def krA (xs : List Int) : Int := min ((xs.length : Int) - ((up4 xs).1 : Int)) 600
def krU (xs : List Int) : Nat × Int × Nat := rdStep xs.length (up4 xs).1 (up4 xs).2.1 (krA xs)
def krB (xs : List Int) : List Int := rdBytes xs (up4 xs).1 (up4 xs).2.1 (krA xs)
def krD (xs : List Int) : Nat × Int × Nat := rdStep xs.length (rdNum xs 0 0 1).1 (rdNum xs 0 0 1).2.1 32
def krH (xs : List Int) : List Int := padTo 32 (rdBytes xs (rdNum xs 0 0 1).1 (rdNum xs 0 0 1).2.1 32)
theorem krH_len (xs : List Int) : (krH xs).length = 32 := pad32_len _ _ _
theorem decRec_other {xs : List Int} (h : ¬ (kindOf xs = 1 ∨ kindOf xs = 2 ∨ kindOf xs = 4 ∨ kindOf xs = 5 ∨ kindOf xs = 6)) : ∃ E, E ≠ 0 ∧ badOf (rdNum xs 0 0 1).2.1 4 = E ∧ decRec xs = (noRec, E) := by
  match xs, h with
  | [], _ => exact ⟨2, by decide, by rw [first_nil]; rfl, rfl⟩
  | k :: r, h =>
    rw [kindOf_cons] at h
    exact ⟨4, by decide, by rw [first_cons]; rfl, by rw [decRec, if_neg (by omega), if_neg (by omega), if_neg (by omega), if_neg (by omega), if_neg (by omega)]⟩
theorem decRec_open {xs : List Int} (hr : okB xs) (h : kindOf xs = 1) :
    ∃ E, doneOf xs.length (krO xs).1 (krO xs).2.1 = E ∧ (E ≠ 0 → decRec xs = (noRec, E)) ∧ (E = 0 → decRec xs = if rightRec ⟨⟨1, (rdOne xs 4).2.2, 0, (krO xs).2.2, z16, []⟩, noBlk⟩ = true then (⟨⟨1, (rdOne xs 4).2.2, 0, (krO xs).2.2, z16, []⟩, noBlk⟩, 0) else (noRec, 4)) := by
  obtain ⟨r, hx⟩ := kind_cons (xs := xs) (by omega)
  rw [h] at hx
  subst hx
  have hrr : okB r := fun x hx => hr x (by simp [hx])
  have h1 := rdOne_cons 1 r 4
  refine ⟨_, rfl, ?_⟩
  by_cases h4 : r.length < 4
  · rw [rdN_few (by decide) (by simp only [List.length_cons]; omega)] at h1
    have h5 : krO (1 :: r) = (1, 2, 0) := by unfold krO; rw [h1, rdN_bad (by decide) (by decide)]
    rw [h5, doneOf_bad (by decide)]
    exact ⟨fun _ => by rw [decRec, if_neg (by decide), if_pos rfl, if_pos (by omega)], fun e => absurd e (by decide)⟩
  rw [rdN_fits (by decide) (by simp only [List.length_cons]; omega)] at h1
  by_cases h5 : r.length < 5
  · have h5' : krO (1 :: r) = (5, 2, 0) := by unfold krO; rw [h1, rdN_few (by decide) (by simp only [List.length_cons]; show _ - ((1 + 4 : Nat) : Int) < _; omega)]; rfl
    rw [h5', doneOf_bad (by decide)]
    exact ⟨fun _ => by rw [decRec, if_neg (by decide), if_pos rfl, if_pos h5], fun e => absurd e (by decide)⟩
  have h5' : krO (1 :: r) = (6, 0, r.getD 4 0) := by
    unfold krO
    rw [h1, rdN_fits (by decide) (by simp only [List.length_cons]; show _ ≤ _ - ((1 + 4 : Nat) : Int); omega)]
    have e : be (((1 :: r).drop (1 + (4 : Int).toNat)).take (1 : Int).toNat) = r.getD 4 0 := by
      show be ((r.drop 4).take 1) = _
      rw [List.drop_eq_getElem_cons (by omega), List.take_succ_cons, List.take_zero, List.getD_eq_getElem?_getD, List.getElem?_eq_getElem (by omega)]
      unfold be
      simp
    rw [e]
    rfl
  have hS : (rdOne (1 :: r) 4).2.2 = be (r.take 4) := by rw [h1]; rfl
  rw [h5']
  dsimp only
  rw [doneOf_ok, hS]
  refine ⟨fun e => ?_, fun e => ?_⟩
  · by_cases hl : 5 < r.length
    · rw [if_pos (by simp only [List.length_cons]; omega), decRec, if_neg (by decide), if_pos rfl, if_neg h5, if_pos hl]
    · rw [if_neg (by simp only [List.length_cons]; omega)] at e
      exact absurd rfl e
  · by_cases hl : 5 < r.length
    · rw [if_pos (by simp only [List.length_cons]; omega)] at e
      exact absurd e (by decide)
    · rw [decRec, if_neg (by decide), if_pos rfl, if_neg h5, if_neg hl]
      by_cases hq : 1 ≤ r.getD 4 0 ∧ r.getD 4 0 ≤ 64
      · rw [if_pos hq, if_pos (right_1 _ _ hq)]
      · rw [if_neg hq, if_neg (fun e => hq ?_)]
        rw [rightRec_own, Bool.and_eq_true] at e
        have := e.1
        unfold mayC at this
        dsimp only at this
        rw [if_pos rfl, Bool.and_eq_true, decide_eq_true_eq, decide_eq_true_eq] at this
        exact this
theorem decRec_close {xs : List Int} (hr : okB xs) (h : kindOf xs = 4) :
    ∃ E, doneOf xs.length (rdOne xs 4).1 (rdOne xs 4).2.1 = E ∧ (E ≠ 0 → decRec xs = (noRec, E)) ∧ (E = 0 → decRec xs = (⟨⟨4, (rdOne xs 4).2.2, 0, 0, z16, []⟩, noBlk⟩, 0)) := by
  obtain ⟨r, hx⟩ := kind_cons (xs := xs) (by omega)
  rw [h] at hx
  subst hx
  rw [rdOne_cons]
  refine ⟨_, rfl, ?_⟩
  by_cases h2 : r.length < 4
  · rw [rdN_few (by decide) (by simp only [List.length_cons]; omega), doneOf_bad (by decide)]
    exact ⟨fun _ => by rw [decRec, if_neg (by decide), if_neg (by decide), if_neg (by decide), if_pos rfl, if_pos h2], fun e => absurd e (by decide)⟩
  rw [rdN_fits (by decide) (by simp only [List.length_cons]; omega)]
  dsimp only
  rw [doneOf_ok]
  refine ⟨fun e => ?_, fun e => ?_⟩
  · by_cases h3 : 4 < r.length
    · rw [if_pos (by simp only [List.length_cons]; show 1 + 4 < _; omega), decRec, if_neg (by decide), if_neg (by decide), if_neg (by decide), if_pos rfl, if_neg h2, if_pos h3]
    · rw [if_neg (by simp only [List.length_cons]; show ¬ 1 + 4 < _; omega)] at e
      exact absurd rfl e
  · by_cases h3 : 4 < r.length
    · rw [if_pos (by simp only [List.length_cons]; show 1 + 4 < _; omega)] at e
      exact absurd e (by decide)
    · rw [decRec, if_neg (by decide), if_neg (by decide), if_neg (by decide), if_pos rfl, if_neg h2, if_neg h3]
      show _ = ((⟨⟨4, be (r.take 4), 0, 0, z16, []⟩, noBlk⟩ : RecV), (0 : Int))
      rw [List.take_of_length_le (by omega)]
theorem decRec_disc {xs : List Int} (hr : okB xs) (h : kindOf xs = 6) :
    ∃ E, doneOf xs.length (krD xs).1 (krD xs).2.1 = E ∧ (E ≠ 0 → decRec xs = (noRec, E)) ∧ (E = 0 → okB (krH xs) ∧ decRec xs = (⟨⟨6, 0, 0, 0, z16, []⟩, ⟨krH xs, z32, 0, []⟩⟩, 0)) := by
  obtain ⟨r, hx⟩ := kind_cons (xs := xs) (by omega)
  rw [h] at hx
  subst hx
  have hrr : okB r := fun x hx => hr x (by simp [hx])
  refine ⟨_, rfl, ?_⟩
  by_cases h2 : r.length < 32
  · have h5 : krD (6 :: r) = (1, 2, 0) := by unfold krD; rw [first_cons, rdStep_few (by decide) (by simp only [List.length_cons]; omega)]
    rw [h5, doneOf_bad (by decide)]
    exact ⟨fun _ => by rw [decRec, if_neg (by decide), if_neg (by decide), if_neg (by decide), if_neg (by decide), if_pos rfl, if_pos h2], fun e => absurd e (by decide)⟩
  have h5 : krD (6 :: r) = (33, 0, 32) := by unfold krD; rw [first_cons, rdStep_fits (by decide) (by simp only [List.length_cons]; omega)]; rfl
  have hH : krH (6 :: r) = r.take 32 := by
    unfold krH rdBytes
    rw [first_cons, rdStep_fits (by decide) (by simp only [List.length_cons]; omega)]
    exact pad_full (by show (r.take 32).length = 32; rw [List.length_take]; omega)
  rw [h5]
  dsimp only
  rw [doneOf_ok, hH]
  refine ⟨fun e => ?_, fun e => ?_⟩
  · by_cases h3 : 32 < r.length
    · rw [if_pos (by simp only [List.length_cons]; omega), decRec, if_neg (by decide), if_neg (by decide), if_neg (by decide), if_neg (by decide), if_pos rfl, if_neg h2, if_pos h3]
    · rw [if_neg (by simp only [List.length_cons]; omega)] at e
      exact absurd rfl e
  · by_cases h3 : 32 < r.length
    · rw [if_pos (by simp only [List.length_cons]; omega)] at e
      exact absurd e (by decide)
    · refine ⟨okB_take hrr 32, ?_⟩
      rw [decRec, if_neg (by decide), if_neg (by decide), if_neg (by decide), if_neg (by decide), if_pos rfl, if_neg h2, if_neg h3, List.take_of_length_le (by omega)]
theorem decRec_conn {xs : List Int} (h : kindOf xs = 5) :
    (rdNum xs 0 0 1).1 = 1 ∧ (rdNum xs 0 0 1).2.1 = 0 ∧ 1 ≤ xs.length ∧ ((decK (xs.drop 1)).2 ≠ 0 → decRec xs = (noRec, (decK (xs.drop 1)).2)) ∧ ((decK (xs.drop 1)).2 = 0 → decRec xs = (⟨⟨5, 0, 0, 0, z16, []⟩, (decK (xs.drop 1)).1⟩, 0)) := by
  obtain ⟨r, hx⟩ := kind_cons (xs := xs) (by omega)
  rw [h] at hx
  subst hx
  rw [first_cons]
  refine ⟨rfl, rfl, by simp, fun e => ?_, fun e => ?_⟩
  · have e : (decK r).2 ≠ 0 := e
    rw [decRec, if_pos rfl, if_neg e]; rfl
  · have e : (decK r).2 = 0 := e
    rw [decRec, if_pos rfl, if_pos e]; rfl
theorem decRec_upload {xs : List Int} (hr : okB xs) (h : kindOf xs = 2) :
    ∃ E, doneOf xs.length (krU xs).1 (krU xs).2.1 = E ∧ (E ≠ 0 → decRec xs = (noRec, E)) ∧ (E = 0 → okB (upH xs) ∧ (krB xs).length ≤ 600 ∧ decRec xs = (⟨⟨2, (rdOne xs 4).2.2, (up3 xs).2.2, 0, upH xs, krB xs⟩, noBlk⟩, 0)) := by
  obtain ⟨r, hx⟩ := kind_cons (xs := xs) (by omega)
  rw [h] at hx
  subst hx
  have hrr : okB r := fun x hx => hr x (by simp [hx])
  have h1 := rdOne_cons 2 r 4
  refine ⟨_, rfl, ?_⟩
  have bad : ∀ p : Nat, (up4 (2 :: r)).1 = p → (up4 (2 :: r)).2.1 = 2 → krU (2 :: r) = (p, 2, 0) := fun p hp he => by unfold krU; rw [hp, he, rdStep_bad (by decide)]
  by_cases h24 : r.length < 24
  · have hb : ∃ p, krU (2 :: r) = (p, 2, 0) := by
      by_cases h4 : r.length < 4
      · rw [rdN_few (by decide) (by simp only [List.length_cons]; omega)] at h1
        have h3 : up3 (2 :: r) = (1, 2, 0) := by unfold up3; rw [h1, rdN_bad (by decide) (by decide)]
        exact ⟨1, bad 1 (by unfold up4; rw [h3, rdStep_bad (by decide)]) (by unfold up4; rw [h3, rdStep_bad (by decide)])⟩
      rw [rdN_fits (by decide) (by simp only [List.length_cons]; omega)] at h1
      by_cases h8 : r.length < 8
      · have h3 : up3 (2 :: r) = (5, 2, 0) := by unfold up3; rw [h1, rdN_few (by decide) (by simp only [List.length_cons]; show _ - ((1 + 4 : Nat) : Int) < _; omega)]; rfl
        exact ⟨5, bad 5 (by unfold up4; rw [h3, rdStep_bad (by decide)]) (by unfold up4; rw [h3, rdStep_bad (by decide)])⟩
      have h3 : up3 (2 :: r) = (9, 0, be (((2 :: r).drop 5).take 4)) := by unfold up3; rw [h1, rdN_fits (by decide) (by simp only [List.length_cons]; show _ ≤ _ - ((1 + 4 : Nat) : Int); omega)]; rfl
      have h4 : up4 (2 :: r) = (9, 2, 0) := by unfold up4; rw [h3, rdStep_few (by decide) (by simp only [List.length_cons]; show _ - ((9 : Nat) : Int) < _; omega)]
      exact ⟨9, bad 9 (by rw [h4]) (by rw [h4])⟩
    obtain ⟨p, hp⟩ := hb
    rw [hp, doneOf_bad (show (2 : Int) ≠ 0 by decide)]
    exact ⟨fun _ => by rw [decRec, if_neg (by decide), if_neg (by decide), if_pos rfl, if_pos h24], fun e => absurd e (show (2 : Int) ≠ 0 by decide)⟩
  rw [rdN_fits (by decide) (by simp only [List.length_cons]; omega)] at h1
  have h3 : up3 (2 :: r) = (9, 0, be ((r.drop 4).take 4)) := by unfold up3; rw [h1, rdN_fits (by decide) (by simp only [List.length_cons]; show _ ≤ _ - ((1 + 4 : Nat) : Int); omega)]; rfl
  have h4 : up4 (2 :: r) = (25, 0, 16) := by unfold up4; rw [h3, rdStep_fits (by decide) (by simp only [List.length_cons]; show _ ≤ _ - ((9 : Nat) : Int); omega)]; rfl
  have hH : upH (2 :: r) = (r.drop 8).take 16 := by
    unfold upH rdBytes
    rw [h3, rdStep_fits (by decide) (by simp only [List.length_cons]; show _ ≤ _ - ((9 : Nat) : Int); omega)]
    show padTo 16 ((r.drop 8).take 16) = _
    unfold padTo
    rw [List.length_take, List.length_drop, show 16 - min 16 (r.length - 8) = 0 by omega]
    exact List.append_nil _
  have hS : (rdOne (2 :: r) 4).2.2 = be (r.take 4) := by rw [h1]; rfl
  obtain ⟨N, hN⟩ : ∃ N : Nat, min (r.length - 24) 600 = N := ⟨_, rfl⟩
  have hA : krA (2 :: r) = (N : Int) := by unfold krA; rw [h4]; simp only [List.length_cons]; show min (((r.length + 1 : Nat) : Int) - ((25 : Nat) : Int)) 600 = _; omega
  have hU : krU (2 :: r) = (25 + N, 0, N) := by unfold krU; rw [h4, hA, rdStep_fits (by omega) (by simp only [List.length_cons]; show _ ≤ _ - ((25 : Nat) : Int); omega), Int.toNat_natCast]
  have hB : krB (2 :: r) = (r.drop 24).take N := by unfold krB rdBytes; rw [h4, hA, rdStep_fits (by omega) (by simp only [List.length_cons]; show _ ≤ _ - ((25 : Nat) : Int); omega), Int.toNat_natCast]; rfl
  rw [hU]
  dsimp only
  rw [doneOf_ok, hS, h3, hH, hB]
  refine ⟨fun e => ?_, fun e => ?_⟩
  · by_cases hl : 624 < r.length
    · rw [if_pos (by simp only [List.length_cons]; omega), decRec, if_neg (by decide), if_neg (by decide), if_pos rfl, if_neg h24, if_pos hl]
    · rw [if_neg (by simp only [List.length_cons]; omega)] at e
      exact absurd rfl e
  · by_cases hl : 624 < r.length
    · rw [if_pos (by simp only [List.length_cons]; omega)] at e
      exact absurd e (by decide)
    · refine ⟨okB_take (okB_drop hrr 8) 16, by rw [List.length_take]; omega, ?_⟩
      rw [decRec, if_neg (by decide), if_neg (by decide), if_pos rfl, if_neg h24, if_neg hl, List.take_of_length_le (l := r.drop 24) (by rw [List.length_drop]; omega)]
theorem krB_ok {xs : List Int} (hr : okB xs) : okB (krB xs) := okB_take (okB_drop hr _) _
end Go.Proofs.Ytaaflnmdaplfkaa

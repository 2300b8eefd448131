/-
  Texts of stages that were proved on their own, joined: BkRead. Each begins with its own words.
-/
import Derived.Test.YtndodckcncejiaaJBkAll4
import Derived.Test.YtndodckcncejiaaJBkAll11

/-
  Reading a block with layer 9's reader, as plain functions: what the steps come to is what the block of the bytes is. No Go function is spoken of. Conditions: bytes below 256.
-/
namespace Go.Proofs.Ytndodckcncejiaa
open Go.RowKit

def bd1 (xs : List Int) : Nat × Int × Nat := rdStep xs.length 0 0 32
def bdH (xs : List Int) : List Int := padTo 32 (rdBytes xs 0 0 32)
def bd2 (xs : List Int) : Nat × Int × Nat := rdStep xs.length (bd1 xs).1 (bd1 xs).2.1 32
def bdP (xs : List Int) : List Int := padTo 32 (rdBytes xs (bd1 xs).1 (bd1 xs).2.1 32)
def bd3 (xs : List Int) : Nat × Int × Int := rdCount xs (bd2 xs).1 (bd2 xs).2.1 1 32
def bd4 (xs : List Int) : Nat × Int × Nat := rdIds xs.length (bd3 xs).1 (bd3 xs).2.1 (bd3 xs).2.2
def bdZ (xs : List Int) : List Int := (xs.drop (bd3 xs).1).take (32 * (bd4 xs).2.2)
theorem pad32_len (xs : List Int) (p : Nat) (e : Int) : (padTo 32 (rdBytes xs p e 32)).length = 32 := by
  refine padTo_len ?_
  unfold rdBytes
  rw [List.length_take]
  exact Nat.le_trans (Nat.min_le_left _ _) (rdStep_cap _ _ _ 32)
theorem bdH_len (xs : List Int) : (bdH xs).length = 32 := pad32_len _ _ _
theorem bdP_len (xs : List Int) : (bdP xs).length = 32 := pad32_len _ _ _
theorem rdIds_bad {n p : Nat} {e A : Int} (h : e ≠ 0) : rdIds n p e A = (p, e, 0) := by unfold rdIds; rw [if_pos h]
theorem bd_bad2 {xs : List Int} {p : Nat} {E : Int} (hE : E ≠ 0) (h : (bd2 xs).1 = p ∧ (bd2 xs).2.1 = E) : bd4 xs = (p, E, 0) := by
  have h3 : bd3 xs = (p, E, 0) := by unfold bd3; rw [h.1, h.2, rdC_bad (by decide) hE]
  unfold bd4
  rw [h3, rdIds_bad hE]
theorem bd_bad1 {xs : List Int} {p : Nat} {E : Int} (hE : E ≠ 0) (h : (bd1 xs).1 = p ∧ (bd1 xs).2.1 = E) : bd4 xs = (p, E, 0) :=
  bd_bad2 hE (by unfold bd2; rw [h.1, h.2, rdStep_bad hE]; exact ⟨rfl, rfl⟩)
theorem pad_full {zs : List Int} (h : zs.length = 32) : padTo 32 zs = zs := by
  unfold padTo
  rw [h]
  exact List.append_nil _
theorem bk_read {xs : List Int} (hr : okB xs) :
    ∃ E, doneOf xs.length (bd4 xs).1 (bd4 xs).2.1 = E ∧ (E ≠ 0 → decK xs = (noBlk, E)) ∧ (E = 0 → blkOf xs (bd4 xs).2.2 = ⟨bdH xs, bdP xs, (bd4 xs).2.2, bdZ xs⟩ ∧ BlkOk ⟨bdH xs, bdP xs, (bd4 xs).2.2, bdZ xs⟩ ∧ (bd4 xs).2.2 ≤ 32 ∧ decK xs = if rightK (blkOf xs (bd4 xs).2.2) = true then (blkOf xs (bd4 xs).2.2, 0) else (noBlk, 4)) := by
  refine ⟨_, rfl, ?_⟩
  by_cases h32 : xs.length < 32
  · have h4 := bd_bad1 (xs := xs) (p := 0) (show (2 : Int) ≠ 0 by decide) (by unfold bd1; rw [rdStep_few (by decide) (by omega)]; exact ⟨rfl, rfl⟩)
    rw [h4, doneOf_bad (show (2 : Int) ≠ 0 by decide)]
    exact ⟨fun _ => by unfold decK; rw [if_pos (by omega)], fun e => absurd e (show (2 : Int) ≠ 0 by decide)⟩
  have h1 : bd1 xs = (32, 0, 32) := by unfold bd1; rw [rdStep_fits (by decide) (by omega)]; rfl
  by_cases h64 : xs.length < 64
  · have h4 := bd_bad2 (xs := xs) (p := 32) (show (2 : Int) ≠ 0 by decide) (by unfold bd2; rw [h1, rdStep_few (by decide) (by show (xs.length : Int) - ((32 : Nat) : Int) < 32; omega)]; exact ⟨rfl, rfl⟩)
    rw [h4, doneOf_bad (show (2 : Int) ≠ 0 by decide)]
    exact ⟨fun _ => by unfold decK; rw [if_pos (by omega)], fun e => absurd e (show (2 : Int) ≠ 0 by decide)⟩
  have h2 : bd2 xs = (64, 0, 32) := by unfold bd2; rw [h1, rdStep_fits (by decide) (by show (32 : Int) ≤ (xs.length : Int) - ((32 : Nat) : Int); omega)]; rfl
  by_cases h65 : xs.length < 65
  · have h3 : bd3 xs = (64, 2, 0) := by unfold bd3 rdCount; rw [h2, rdN_few (by decide) (by show (xs.length : Int) - ((64 : Nat) : Int) < 1; omega), if_pos (by decide)]
    have h4 : bd4 xs = (64, 2, 0) := by unfold bd4; rw [h3, rdIds_bad (by decide)]
    rw [h4, doneOf_bad (show (2 : Int) ≠ 0 by decide)]
    exact ⟨fun _ => by unfold decK; rw [if_pos (by omega)], fun e => absurd e (show (2 : Int) ≠ 0 by decide)⟩
  have hb : 0 ≤ xs.getD 64 0 ∧ xs.getD 64 0 < 256 := by
    rw [List.getD_eq_getElem?_getD, List.getElem?_eq_getElem (by omega)]
    exact hr _ (List.getElem_mem (by omega))
  have hN1 : rdNum xs 64 0 1 = (65, 0, xs.getD 64 0) := by
    rw [rdN_fits (by decide) (by show (1 : Int) ≤ (xs.length : Int) - ((64 : Nat) : Int); omega)]
    have : (xs.drop 64).take (1 : Int).toNat = [xs.getD 64 0] := by
      rw [show (1 : Int).toNat = 1 from rfl, List.drop_eq_getElem_cons (by omega), List.take_succ_cons, List.take_zero, List.getD_eq_getElem?_getD, List.getElem?_eq_getElem (by omega)]
      rfl
    rw [this]
    show (64 + 1, (0 : Int), be [xs.getD 64 0]) = _
    unfold be
    simp
  obtain ⟨N, hN⟩ : ∃ N : Nat, xs.getD 64 0 = (N : Int) := ⟨(xs.getD 64 0).toNat, by omega⟩
  rw [hN] at hN1 hb
  have hM : decK xs = if (32 : Int) < N then (noBlk, 4) else if xs.length < 65 + 32 * N then (noBlk, 2) else if 65 + 32 * N < xs.length then (noBlk, 3) else if rightK (blkOf xs N) = true then (blkOf xs N, 0) else (noBlk, 4) := by
    unfold decK
    rw [hN, Int.toNat_natCast, if_neg h65]
  by_cases hbig : (32 : Int) < N
  · have h3 : bd3 xs = (65, 4, 0) := by unfold bd3 rdCount; rw [h2, hN1, if_neg (show ¬ (0 : Int) ≠ 0 by decide), if_pos (by right; exact hbig)]
    have h4 : bd4 xs = (65, 4, 0) := by unfold bd4; rw [h3, rdIds_bad (by decide)]
    rw [h4, doneOf_bad (show (4 : Int) ≠ 0 by decide)]
    exact ⟨fun _ => by rw [hM, if_pos hbig], fun e => absurd e (show (4 : Int) ≠ 0 by decide)⟩
  rw [if_neg hbig] at hM
  have h3 : bd3 xs = (65, 0, (N : Int)) := by unfold bd3 rdCount; rw [h2, hN1, if_neg (show ¬ (0 : Int) ≠ 0 by decide), if_neg (by show ¬ ((32 : Int) < 0 ∨ 32 < (N : Int)); omega)]
  by_cases hs : xs.length < 65 + 32 * N
  · have h4 : bd4 xs = (65, 2, 0) := by
      unfold bd4 rdIds
      rw [h3]
      dsimp only
      rw [if_neg (by decide), if_neg (by omega), if_pos (by omega)]
    rw [h4, doneOf_bad (show (2 : Int) ≠ 0 by decide)]
    exact ⟨fun _ => by rw [hM, if_pos hs], fun e => absurd e (show (2 : Int) ≠ 0 by decide)⟩
  rw [if_neg hs] at hM
  have h4 : bd4 xs = (65 + 32 * N, 0, N) := by
    unfold bd4 rdIds
    rw [h3]
    dsimp only
    rw [if_neg (by decide), if_neg (by omega), if_neg (by omega), Int.toNat_natCast]
  rw [h4]
  dsimp only
  rw [doneOf_ok]
  refine ⟨fun e => ?_, fun e => ?_⟩
  · by_cases hl : 65 + 32 * N < xs.length
    · rw [if_pos hl, hM, if_pos hl]
    · rw [if_neg hl] at e
      exact absurd rfl e
  · by_cases hl : 65 + 32 * N < xs.length
    · rw [if_pos hl] at e
      exact absurd e (by decide)
    · rw [if_neg hl] at hM
      have eH : bdH xs = xs.take 32 := by
        unfold bdH rdBytes
        rw [show rdStep xs.length 0 0 32 = (32, 0, 32) from h1]
        exact pad_full (by rw [List.length_take]; simp; omega)
      have eP : bdP xs = (xs.drop 32).take 32 := by
        unfold bdP rdBytes
        rw [h1]
        dsimp only
        rw [show rdStep xs.length 32 0 32 = (64, 0, 32) by rw [← h2]; unfold bd2; rw [h1]]
        exact pad_full (by rw [List.length_take, List.length_drop]; simp; omega)
      have eZ : bdZ xs = xs.drop 65 := by
        unfold bdZ
        rw [h3, h4]
        exact List.take_of_length_le (by rw [List.length_drop]; simp; omega)
      rw [eH, eP, eZ]
      refine ⟨rfl, ⟨?_, ?_, ?_, ?_, ?_, ?_⟩, by omega, hM⟩
      · show (xs.take 32).length = 32; rw [List.length_take]; omega
      · show ((xs.drop 32).take 32).length = 32; rw [List.length_take, List.length_drop]; omega
      · show (xs.drop 65).length = 32 * N; rw [List.length_drop]; omega
      · exact fun x h => hr x (List.mem_of_mem_take h)
      · exact fun x h => hr x (List.mem_of_mem_drop (List.mem_of_mem_take h))
      · exact fun x h => hr x (List.mem_of_mem_drop h)
end Go.Proofs.Ytndodckcncejiaa

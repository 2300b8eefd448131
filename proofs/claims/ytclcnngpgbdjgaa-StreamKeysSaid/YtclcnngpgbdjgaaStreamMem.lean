/-
  A stream in memory ('StAt'): its cipher, the block that was encrypted last, its place and its mark; Place and Seek, and what they come to of a stream that is nil or that no call made. Conditions: numbers below 2^64.
-/
import Derived.Test.YtclcnngpgbdjgaaStreamEx
import Derived.Test.YtclcnngpgbdjgaaCipherEnc
namespace Go.Proofs.Ytclcnngpgbdjgaa
open Go.RowKit

/-- The cells of a stream of round keys F: the block of number n was encrypted last, it stands at p. -/
def stCells (F : Nat → Nat) (n p : Nat) : List Value := ciCells F sb bk true true ++ (.int .u64 (n : Int) :: (rowN 16 (enc (keyAt F) (ctr n)) ++ [.int .u64 (p : Int), .bool true]))
/-- Block g holds a stream of round keys F that stands at p. -/
def StAt (w : World) (g : Nat) (F : Nat → Nat) (p : Nat) : Prop := ∃ n, n < 18446744073709551616 ∧ Blk w g 52 (stCells F n p)
theorem stCells_len (F : Nat → Nat) (n p : Nat) : (stCells F n p).length = 773 := by simp [stCells, ciCells_len, rowN_len]
theorem stCells_ci (F : Nat → Nat) (n p i : Nat) (hi : i < 754) : (stCells F n p)[i]? = (ciCells F sb bk true true)[i]? := by
  unfold stCells
  rw [List.getElem?_append_left (by rw [ciCells_len]; exact hi)]
theorem stCells_num (F : Nat → Nat) (n p : Nat) : (stCells F n p)[754]? = some (.int .u64 (n : Int)) := by
  unfold stCells
  rw [List.getElem?_append_right (by rw [ciCells_len]; omega), ciCells_len]
  rfl
theorem stCells_blk (F : Nat → Nat) (n p i : Nat) (hi : i < 16) : (stCells F n p)[755 + i]? = some (.int .u8 (enc (keyAt F) (ctr n) i : Nat)) := by
  unfold stCells
  rw [List.getElem?_append_right (by rw [ciCells_len]; omega), ciCells_len, show 755 + i - 754 = i + 1 by omega, List.getElem?_cons_succ, List.getElem?_append_left (by rw [rowN_len]; exact hi), rowN_at 16 _ i hi]
theorem stCells_place (F : Nat → Nat) (n p : Nat) : (stCells F n p)[771]? = some (.int .u64 (p : Int)) := by
  unfold stCells
  rw [List.getElem?_append_right (by rw [ciCells_len]; omega), ciCells_len, show 771 - 754 = 16 + 1 from rfl, List.getElem?_cons_succ, List.getElem?_append_right (by rw [rowN_len]; omega), rowN_len]
  rfl
theorem stCells_made (F : Nat → Nat) (n p : Nat) : (stCells F n p)[772]? = some (.bool true) := by
  unfold stCells
  rw [List.getElem?_append_right (by rw [ciCells_len]; omega), ciCells_len, show 772 - 754 = 17 + 1 from rfl, List.getElem?_cons_succ, List.getElem?_append_right (by rw [rowN_len]; omega), rowN_len]
  rfl
theorem stCells_seek (F : Nat → Nat) (n p q : Nat) : (stCells F n p).set 771 (.int .u64 (q : Int)) = stCells F n q := by
  unfold stCells
  rw [List.set_append_right _ _ (by rw [ciCells_len]; omega), ciCells_len, show 771 - 754 = 16 + 1 from rfl, List.set_cons_succ, List.set_append_right _ _ (by rw [rowN_len]; omega), rowN_len]
  rfl
theorem StAt.lt {w : World} {g : Nat} {F : Nat → Nat} {p : Nat} (h : StAt w g F p) : g < w.heap.size := by
  obtain ⟨n, _, hb⟩ := h
  exact hb.lt
theorem StAt.keep {w w' : World} {g B : Nat} {F : Nat → Nat} {p : Nat} (h : StAt w g F p) (hb : Below B w w') (hg : g < B) : StAt w' g F p := by
  obtain ⟨n, hn, h⟩ := h
  exact ⟨n, hn, h.keep hb hg⟩
theorem StAt.grown {w w' : World} {g : Nat} {F : Nat → Nat} {p : Nat} {row : Option Nat} (h : StAt w g F p) (hb : w.grownBy w' row) (hg : some g ≠ row) : StAt w' g F p := by
  obtain ⟨n, hn, h⟩ := h
  exact ⟨n, hn, h.grown hb hg⟩
theorem StAt.drew {w : World} {g : Nat} {F : Nat → Nat} {p : Nat} (h : StAt w g F p) : StAt w.drew g F p := h
theorem StAt.made {w : World} {g : Nat} {F : Nat → Nat} {p : Nat} (h : StAt w g F p) : w.cell? ⟨g, 772, none⟩ = some (.bool true) := by
  obtain ⟨n, hn, h⟩ := h
  rw [h.cell, stCells_made]
theorem StAt.place {w : World} {g : Nat} {F : Nat → Nat} {p : Nat} (h : StAt w g F p) : w.cell? ⟨g, 771, none⟩ = some (.int .u64 (p : Int)) := by
  obtain ⟨n, hn, h⟩ := h
  rw [h.cell, stCells_place]
theorem StAt.frozen {w : World} {g : Nat} {F : Nat → Nat} {p : Nat} (h : StAt w g F p) (i : Nat) : w.frozen? ⟨g, i, none⟩ = false := by
  obtain ⟨n, hn, h⟩ := h
  exact Blk.frozen h i
theorem StAt.seek {w : World} {g : Nat} {F : Nat → Nat} {p : Nat} (h : StAt w g F p) (q : Nat) : StAt (w.setCell ⟨g, 771, none⟩ (.int .u64 (q : Int))) g F q := by
  obtain ⟨n, hn, h⟩ := h
  exact ⟨n, hn, (h.set 771 _).cast (stCells_seek F n p q)⟩

set_option maxHeartbeats 400000 in
theorem unm_nil (w : World) : Calls Try.prog 19 #[.pointer none] w fun e w' => e = .returned (.bool true) ∧ w = w' := by
  go_enter Try.func19, Try.ntmps19
  go_wp2
  go_ret
  exact ⟨rfl, rfl⟩

set_option maxHeartbeats 400000 in
theorem unm_at (g : Nat) (m : Bool) (w : World) (hm : w.cell? ⟨g, 772, none⟩ = some (.bool m)) : Calls Try.prog 19 #[.pointer (some ⟨g, 0, none⟩)] w fun e w' => e = .returned (.bool (!m)) ∧ w = w' := by
  go_enter Try.func19, Try.ntmps19
  go_wp2
  go_ret
  exact ⟨rfl, rfl⟩

set_option maxHeartbeats 400000 in
theorem place_nil (w : World) : Calls Try.prog 9 #[.pointer none] w fun e w' => e = .returned (.int .u64 0) ∧ w = w' := by
  go_enter Try.func9, Try.ntmps9
  go_wp2_with fail
  refine (unm_nil _).mono ?_
  rintro e w' ⟨rfl, rfl⟩
  go_wp2
  go_ret
  exact ⟨rfl, rfl⟩

set_option maxHeartbeats 400000 in
theorem place_un (g : Nat) (w : World) (hm : w.cell? ⟨g, 772, none⟩ = some (.bool false)) : Calls Try.prog 9 #[.pointer (some ⟨g, 0, none⟩)] w fun e w' => e = .returned (.int .u64 0) ∧ w = w' := by
  go_enter Try.func9, Try.ntmps9
  go_wp2_with fail
  refine (unm_at g false _ hm).mono ?_
  rintro e w' ⟨rfl, rfl⟩
  go_wp2
  go_ret
  exact ⟨rfl, rfl⟩

set_option maxHeartbeats 400000 in
theorem place_any (g : Nat) (F : Nat → Nat) (p : Nat) (w : World) (h : StAt w g F p) : Calls Try.prog 9 #[.pointer (some ⟨g, 0, none⟩)] w fun e w' => e = .returned (.int .u64 (p : Int)) ∧ w = w' := by
  have hp := h.place
  have hm := h.made
  go_enter Try.func9, Try.ntmps9
  go_wp2_with fail
  refine (unm_at g true _ hm).mono ?_
  rintro e w' ⟨rfl, rfl⟩
  go_wp2
  go_ret
  exact ⟨rfl, rfl⟩

set_option maxHeartbeats 400000 in
theorem seek_nil (n : Int) (w : World) : Calls Try.prog 11 #[.pointer none, .int .u64 n] w fun e w' => e = .returned (.tuple #[]) ∧ w = w' := by
  go_enter Try.func11, Try.ntmps11
  go_wp2_with fail
  refine (unm_nil _).mono ?_
  rintro e w' ⟨rfl, rfl⟩
  go_wp2
  (try simp only [Exit.inBlock, Exit.then]); refine bodyPost_ret (results_none rfl _ _ _) rfl ?_
  exact ⟨rfl, rfl⟩

set_option maxHeartbeats 400000 in
theorem seek_un (g : Nat) (n : Int) (w : World) (hm : w.cell? ⟨g, 772, none⟩ = some (.bool false)) : Calls Try.prog 11 #[.pointer (some ⟨g, 0, none⟩), .int .u64 n] w fun e w' => e = .returned (.tuple #[]) ∧ w = w' := by
  go_enter Try.func11, Try.ntmps11
  go_wp2_with fail
  refine (unm_at g false _ hm).mono ?_
  rintro e w' ⟨rfl, rfl⟩
  go_wp2
  (try simp only [Exit.inBlock, Exit.then]); refine bodyPost_ret (results_none rfl _ _ _) rfl ?_
  exact ⟨rfl, rfl⟩

set_option maxHeartbeats 400000 in
theorem seek_any (g : Nat) (F : Nat → Nat) (p n : Nat) (w : World) (h : StAt w g F p) : Calls Try.prog 11 #[.pointer (some ⟨g, 0, none⟩), .int .u64 (n : Int)] w fun e w' => e = .returned (.tuple #[]) ∧ StAt w' g F n ∧ w.grownBy w' (some g) := by
  have hp := h.place
  have hm := h.made
  have hf := h.frozen 771
  have hs := Lib.hid (h.seek n)
  go_enter Try.func11, Try.ntmps11
  go_wp2_with fail
  refine (unm_at g true _ hm).mono ?_
  rintro e w' ⟨rfl, rfl⟩
  go_wp2
  go_end0
  exact ⟨rfl, hs.out, grown_setCell _ g 771 _⟩
end Go.Proofs.Ytclcnngpgbdjgaa

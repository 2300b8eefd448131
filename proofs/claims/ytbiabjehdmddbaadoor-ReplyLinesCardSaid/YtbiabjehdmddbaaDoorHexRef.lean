/-
  The document's own text of bytes and of an id, and what is read of a text (layer 12): half, Text, digit, Bytes. New memory alone is written. Conditions: at most a million signs.
-/
import Derived.Test.YtbiabjehdmddbaaDoorHexStr
import Derived.Test.YtbiabjehdmddbaaDoorRdMoved
import Derived.StillTailTactics
namespace Go.Proofs.YtbiabjehdmddbaaDoor
open Go.RowKit

set_option maxRecDepth 100000 in
set_option maxHeartbeats 800000 in
theorem rHalf_any (n : Nat) (hn : n < 16) (w : World) : Calls Tryd.prog 43 #[.int .i64 (n : Int)] w fun q w' => q = .returned (.string (strOfNums [sgn n])) ∧ w = w' := by
  have hs := fun w => str_slice (P := Tryd.prog) hexS n (n + 1) (by omega) (by show n + 1 ≤ 16; omega) 9 Tryd.underlying9 w
  rw [hexS_half n hn, Int.natCast_add, show ((1 : Nat) : Int) = 1 from rfl] at hs
  unfold hexS at hs
  have hni : (n : Int) < 16 := by omega
  obtain ⟨S, hS⟩ : ∃ S, strOfNums [sgn n] = S := ⟨_, rfl⟩
  rw [hS] at hs ⊢
  clear hS hn
  go_enter Tryd.func43, Tryd.ntmps43
  go_wp2
  go_ret
  exact ⟨rfl, rfl⟩

theorem textB_take (xs : List Int) (j : Nat) (h : j < xs.length) : textB (xs.take (j + 1)) = textB (xs.take j) ++ ([sgn (xs.getD j 0 / 16)] ++ [sgn (xs.getD j 0 % 16)]) := by
  rw [List.take_succ_eq_append_getElem h, textB_append, List.getD_eq_getElem?_getD, List.getElem?_eq_getElem h]
  rfl
end Go.Proofs.YtbiabjehdmddbaaDoor

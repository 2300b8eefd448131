/-
  What a sign stands for, as the program has it (layer 12): digit; the sign that stands at a place of a text, as a range over the text with runes tells it. Nothing is written. Conditions: a rune's number from 0 on.
-/
import Derived.Test.YtbiabjehdmddbaaDoorHexStr
import Derived.Test.YtbiabjehdmddbaaDoorRdMoved
import Derived.StillTailTactics
import Derived.Laws.RangeAny
import Derived.Lib.OthersKept
namespace Go.Proofs.YtbiabjehdmddbaaDoor
open Go.RowKit

/-- The number that a sign stands for; 16, if it stands for none. -/
def digR (r : Int) : Int := if 97 ≤ r ∧ r ≤ 102 then r - 87 else if 48 ≤ r ∧ r ≤ 57 then r - 48 else 16
theorem digR_range (r : Int) : 0 ≤ digR r ∧ digR r ≤ 16 := by unfold digR; repeat' split <;> try omega

set_option maxRecDepth 100000 in
set_option maxHeartbeats 800000 in
theorem hDigit_any (r : Int) (h0 : 0 ≤ r) (h1 : r ≤ 2147483647) (w : World) : Calls Tryd.prog 33 #[.int .i32 r] w fun q w' => q = .returned (.int .u64 (digR r)) ∧ w = w' := by
  by_cases ha : 97 ≤ r
  · by_cases hb : r ≤ 102
    · rw [show digR r = r - 87 from if_pos ⟨ha, hb⟩]
      go_enter Tryd.func33, Tryd.ntmps33
      go_wp2
      go_ret
      refine ⟨?_, rfl⟩
      show Ending.returned (Value.int .u64 (r - 39 - 48)) = _
      congr 2; omega
    · rw [show digR r = 16 by unfold digR; rw [if_neg (by omega), if_neg (by omega)]]
      have hc : ¬ r ≤ 57 := by omega
      have hd : 48 ≤ r := by omega
      go_enter Tryd.func33, Tryd.ntmps33
      go_wp2
      go_ret
      exact ⟨rfl, rfl⟩
  · by_cases hb : 48 ≤ r
    · by_cases hc : r ≤ 57
      · rw [show digR r = r - 48 by unfold digR; rw [if_neg (by omega), if_pos ⟨hb, hc⟩]]
        go_enter Tryd.func33, Tryd.ntmps33
        go_wp2
        go_ret
        exact ⟨rfl, rfl⟩
      · rw [show digR r = 16 by unfold digR; rw [if_neg (by omega), if_neg (by omega)]]
        go_enter Tryd.func33, Tryd.ntmps33
        go_wp2
        go_ret
        exact ⟨rfl, rfl⟩
    · rw [show digR r = 16 by unfold digR; rw [if_neg (by omega), if_neg (by omega)]]
      go_enter Tryd.func33, Tryd.ntmps33
      go_wp2
      go_ret
      exact ⟨rfl, rfl⟩

/-- The sign at a place: a sign of one byte that stands for a half byte, or one that stands for none. -/
theorem sign_at (s : ByteArray) (i : Nat) (h : i < s.size) :
    (0 ≤ dig ((numsOf s).getD i 0) ∧ Utf8.decode s i = (((numsOf s).getD i 0).toNat, 1) ∧ digR (((Utf8.decode s i).1 : Nat) : Int) = dig ((numsOf s).getD i 0)) ∨
    (dig ((numsOf s).getD i 0) < 0 ∧ digR (((Utf8.decode s i).1 : Nat) : Int) = 16) := by
  have hc : (numsOf s).getD i 0 = ((s[i]'h).toNat : Int) := by
    have hl := numsOf_length s
    rw [List.getD_eq_getElem?_getD, List.getElem?_eq_getElem (by omega)]
    unfold numsOf
    rw [Option.getD_some, List.getElem_map]
    rfl
  rw [hc]
  obtain ⟨b, hb⟩ : ∃ b, (s[i]'h).toNat = b := ⟨_, rfl⟩
  by_cases ha : b < 128
  · have hd := decode_ascii s i h (by omega)
    rw [hd, hb]
    by_cases hg : 0 ≤ dig (b : Int)
    · left
      refine ⟨hg, by simp, ?_⟩
      unfold dig at hg ⊢
      unfold digR
      dsimp only
      repeat' split
      all_goals first | omega | (split at hg <;> (try split at hg) <;> omega)
    · right
      refine ⟨by omega, ?_⟩
      unfold dig at hg
      unfold digR
      dsimp only
      rw [if_neg, if_neg]
      · intro hx; rw [if_pos hx] at hg; omega
      · intro hx; rw [if_neg (by omega), if_pos hx] at hg; omega
  · right
    have hh := (decode_high s i h (by omega)).1
    rw [hb]
    refine ⟨?_, ?_⟩
    · unfold dig
      rw [if_neg (by omega), if_neg (by omega)]
      decide
    · unfold digR
      rw [if_neg (by omega), if_neg (by omega)]
end Go.Proofs.YtbiabjehdmddbaaDoor

/-
  What the calls of package word that turn a word, and the document's own answers to them, come to: a turn by the number's rest by 32. Conditions: the word is a number from 0 to 2^32 - 1.
-/
import Derived.Test.YtcohbhimhacedaaDoorWordMath
import Derived.Test.YtcohbhimhacedaaDoorRows
import Derived.WalkSpells
import Derived.Lib.Hide
import Derived.WalkLawsBesides
namespace Go.Proofs.YtcohbhimhacedaaDoor
open Go.RowKit

theorem rl_step (a : Int) (k : Nat) (h : k + 1 < 32) : 2 * nv ((bv a).rotateLeft k) % 4294967296 + nv ((bv a).rotateLeft k) / 2147483648 = nv ((bv a).rotateLeft (k + 1)) := by
  rw [← rl_succ _ _ h, rl_one]
theorem rr_step (a : Int) (k : Nat) (h : k + 1 < 32) : nv ((bv a).rotateRight k) / 2 + nv ((bv a).rotateRight k) % 2 * 2147483648 = nv ((bv a).rotateRight (k + 1)) := by
  rw [← rr_succ _ _ h, rr_one]

/-- The rest that Go's own sign gives, then 32 added where it is below 0. -/
theorem rest_cases (b : Int) : (b.tmod 32 < 0 ∧ b.tmod 32 = (r32 b : Int) - 32) ∨ (0 ≤ b.tmod 32 ∧ b.tmod 32 = (r32 b : Int)) := by
  rw [r32_cast]
  have h := Int.tmod_eq_emod (a := b) (b := 32)
  split at h <;> omega
end Go.Proofs.YtcohbhimhacedaaDoor

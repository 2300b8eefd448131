/-
  One call of any kind both ways, as the law ReaderReads makes it ('step'): they tell the same. New memory and the reader's own alone are written. Conditions: bytes below 256, at most a million; the place is within them; the bytes read do not lie in the reader's own memory; the bound is a number of 64 bits.
-/
import Derived.Test.YtpobplkijfienaaRdStepC
import Derived.Test.YtpobplkijfienaaRdStepI
import Derived.Test.YtpobplkijfienaaRdStepF
import Derived.Test.YtpobplkijfienaaRdStepH
namespace Go.Proofs.Ytpobplkijfienaa
open Go.RowKit

theorem step_any (RP : ReaderProg) (F : Nat → Prop) (g : Nat) (xs : List Int) (a : Option Addr) (n c p : Nat) (e k A B : Int) (w : World) (hG : RP.Gl w) (hR : RP.Rd F w g xs p e) (hI : Ints .u8 w a n c xs) (hA : ∀ x, a = some x → 0 < n → ¬ F x.block) (hy : ∀ x ∈ xs, 0 ≤ x ∧ x < 256) (hp : p ≤ n) (hm : n ≤ 1000000) (hBB : B < 9223372036854775808) :
    StepTells RP F g xs a n c p e k A B w := by
  by_cases h : k < 0 ∨ 5 < k
  · exact step_fail RP F g xs a n c p e k A B w hG hR hp h
  · have hk : k = 0 ∨ k = 1 ∨ k = 2 ∨ k = 3 ∨ k = 4 ∨ k = 5 := by omega
    rcases hk with rfl | rfl | rfl | rfl | rfl | rfl
    · exact step_num RP F g xs a n c p e A B w hG hR hI hy hp hm
    · exact step_bytes RP F g xs a n c p e A B w hG hR hI hA hp hm
    · exact step_count RP F g xs a n c p e A B w hG hR hI hy hp hm hBB
    · exact step_id RP F g xs a n c p e A B w hG hR hI hp hm
    · exact step_hint RP F g xs a n c p e A B w hG hR hI hp hm
    · exact step_ids RP F g xs a n c p e A B w hG hR hI hp hm
end Go.Proofs.Ytpobplkijfienaa

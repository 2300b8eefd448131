/-
  A copy of bytes into an array of zeros; how many bytes are read at most; the type Hint's row. No conditions.
-/
import Derived.Test.YtbiabjehdmddbaaDoorRdMoved
namespace Go.Proofs.YtbiabjehdmddbaaDoor
open Go.RowKit

theorem rdStep_cap (n p : Nat) (e A : Int) : (rdStep n p e A).2.2 ≤ A.toNat := by
  unfold rdStep
  split
  · exact Nat.zero_le _
  split
  · exact Nat.zero_le _
  split
  · exact Nat.zero_le _
  · exact Nat.le_refl _
theorem pad_over (N : Nat) (zs : List Int) (q : Nat) (hl : zs.length = q) (hq : q ≤ N) : overV (List.replicate N (Value.int .u8 0)) 0 ((zs.take q).map (Value.int .u8)) = (padTo N zs).map (Value.int .u8) := by
  subst hl
  unfold overV padTo
  rw [List.take_length]
  simp
theorem padTo_len {N : Nat} {zs : List Int} (h : zs.length ≤ N) : (padTo N zs).length = N := by unfold padTo; simp; omega

end Go.Proofs.YtbiabjehdmddbaaDoor

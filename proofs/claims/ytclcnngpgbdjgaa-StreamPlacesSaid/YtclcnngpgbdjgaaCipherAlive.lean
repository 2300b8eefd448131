/-
  The document's example comes to true, in whatever world; nothing that lay is written.
-/
import Derived.Test.YtclcnngpgbdjgaaCipherEx
import Derived.Test.YtclcnngpgbdjgaaCipherDec
import Derived.Test.YtclcnngpgbdjgaaCipherNew
import Derived.Test.YtclcnngpgbdjgaaEqArr
import Derived.Test.YtclcnngpgbdjgaaAppends
import Derived.Test.YtclcnngpgbdjgaaSteps
namespace Go.Proofs.Ytclcnngpgbdjgaa
open Go.RowKit

theorem bytesL_inj {n : Nat} {f h : Nat → Nat} (e : bytesL n f = bytesL n h) : Ag n f h := rowN_inj (by rw [← bytesL_row, ← bytesL_row, e])
theorem noGuard16 : Try.prog.eqGuardType Try.prog.depth 42 = false := by kernel_rfl
theorem eq16 (f h : Nat → Nat) (w : World) : (Op.equalIn 10000 42 (.agg (rowN 16 f).toArray) (.agg (rowN 16 h).toArray)).run Try.prog w = .ok (bytesL 16 f == bytesL 16 h) w := by
  rw [← bytesL_row, ← bytesL_row]
  exact run_equalIn_ints w 9998 42 5 16 .u8 Try.underlying42 Try.underlying5 sizeU8' (bytesL 16 f) (bytesL 16 h) (bytesL_len 16 f) (bytesL_len 16 h)
theorem same16 (f : Nat → Nat) (w : World) : (Op.equalIn 10000 42 (.agg (rowN 16 f).toArray) (.agg (rowN 16 f).toArray)).run Try.prog w = .ok true w := by
  rw [eq16]; simp
theorem rep_zero (n : Nat) : List.replicate n (Value.int .u8 0) = rowN n zf := by
  show _ = (List.range n).map (fun _ => Value.int .u8 0)
  rw [List.map_const', List.length_range]
/-- A row of bytes in a block is a slice of them. -/
theorem Ints.row {w : World} {g n cap o : Nat} {t : TypeId} {f : Nat → Nat} (h : Blk w g t (rowN n f)) (m : Nat) (hm : o + m ≤ n) (hc : m ≤ cap) : Ints .u8 w (some ⟨g, o, none⟩) m cap (bytesL m (fun i => f (o + i))) :=
  Ints.of_blk h (bytesL_len m _) hc (fun i hi => by rw [rowN_at n _ _ (by omega), bytesL_at m _ i hi])
end Go.Proofs.Ytclcnngpgbdjgaa

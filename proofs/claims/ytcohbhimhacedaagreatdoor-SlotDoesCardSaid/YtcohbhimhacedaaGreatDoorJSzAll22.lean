/-
  Texts of stages that were proved on their own, joined: RdIds, RdSame. Each begins with its own words.
-/
import Derived.Test.YtcohbhimhacedaaGreatDoorJSzAll16
import Derived.Great.BuildSlice
import Derived.Test.YtcohbhimhacedaaGreatDoorJSzAll0

/-
  The document's own ids (layer 9). New memory alone is written. Conditions: bytes below 256, at most a million; the place is within them.
-/
namespace Go.Proofs.YtcohbhimhacedaaGreatDoor
open Go.RowKit

theorem own_stay9 {w w' : World} {b : Nat} {e : TypeId} {size : Nat} {v : Value} {n : Nat} {xs : List Value} (h : w.ownsRow b e size v n xs) (hb : Below w.heap.size w w') : w'.ownsRow b e size v n xs :=
  h.kept (grown_of_below hb none) (by cases hv : v.ownBlock <;> simp)
theorem own_slice32 {w : World} {base : Nat} {e : TypeId} {size : Nat} {v : Value} {n : Nat} {xs : List Value} (h : w.ownsRow base e size v n xs) : ∃ b c, v = .slice b n c := by
  rcases h.2 with ⟨rfl, rfl⟩ | ⟨g, cap, cur, rfl, _⟩
  · exact ⟨_, _, rfl⟩
  · exact ⟨_, _, rfl⟩
theorem own_low9 {w : World} {B B' : Nat} {e : TypeId} {size : Nat} {v : Value} {n : Nat} {xs : List Value} (h : w.ownsRow B e size v n xs) (hB : B' ≤ B) : w.ownsRow B' e size v n xs := by
  refine ⟨h.1, ?_⟩
  rcases h.2 with h0 | ⟨g, cap, cur, hv, hb, hr⟩
  · exact .inl h0
  · exact .inr ⟨g, cap, cur, hv, Nat.le_trans hB hb, hr⟩
/-- Place, fault and how many ids, behind Ids(A). -/
def rdIds (n p : Nat) (e A : Int) : Nat × Int × Nat :=
  if e ≠ 0 then (p, e, 0) else if A < 0 then (p, 1, 0) else if (((n - p) / 32 : Nat) : Int) < A then (p, 2, 0) else (p + 32 * A.toNat, 0, A.toNat)
/-- A slice of ids in memory: its bytes, one id behind the other. -/
def IdsAt (w : World) (a : Option Addr) (n cap : Nat) (zs : List Int) : Prop :=
  zs.length = 32 * n ∧ n ≤ cap ∧ (n = 0 ∨ ∃ b off, a = some ⟨b, off, none⟩ ∧ ∀ i, i < 32 * n → w.cell? ⟨b, off + i, none⟩ = some (.int .u8 (zs.getD i 0)))
end Go.Proofs.YtcohbhimhacedaaGreatDoor

/-
  The document's own comparison of ids (layer 9): of the same bytes it tells that they are the same. Nothing is written. Conditions: at most 40000 ids.
-/
namespace Go.Proofs.YtcohbhimhacedaaGreatDoor
open Go.RowKit

theorem sizeU8s : (Tryz.prog.info? 5).map (·.size) = some 1 := by kernel_rfl

end Go.Proofs.YtcohbhimhacedaaGreatDoor

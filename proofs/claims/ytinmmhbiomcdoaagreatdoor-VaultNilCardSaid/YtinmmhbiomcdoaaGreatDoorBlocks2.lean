/-
  More laws of the walk on slices and rows: a slice cut at both ends; a row that is filled cell by cell. No Go function is spoken of here.
-/
import Derived.Test.YtinmmhbiomcdoaaGreatDoorAppends2
namespace Go.Proofs.YtinmmhbiomcdoaaGreatDoor
open Go.RowKit

theorem wpList_cut2 {P : Program} {w : World} {ops : Array Oper} {rest : List Oper} {o : Oper} {a : Act} {Q : Exit → Act → World → Prop} (hgd : o.guard = none) (ty e : TypeId) (x lo hi : Operand) (ho : o.op = .slice ty x (some lo) (some hi) none)
    (hu : P.underlying ty = some (.slice e)) (hs : (P.info? e).map (·.size) = some 1) {A : Option Addr} {m c : Nat} (hx : a.eval x = .slice A m c) {k k' : IntKind} {l h : Nat} {L M : Int} (hl : a.eval lo = .int k L) (hh : a.eval hi = .int k' M) (hL : L = (l : Int)) (hM : M = (h : Int)) (hlh : l ≤ h) (hc : h ≤ c)
    (hw : wpList P ops Q rest (a.put o.dst (.slice (cutAddr A c l) (h - l) (c - l))) w) : wpList P ops Q (o :: rest) a w := by
  subst hL; subst hM
  refine wpList_plain hgd fun K hK => ?_
  have hrun := run_cut2 ty e hu hs w A m c k k' l h hlh hc
  unfold Oper.wp
  simp only [execOp, ho, hx, hl, hh, Option.map_some, Option.map_none, Sem.run_bind, hrun, Result.andThen_ok, Sem.run_pure, Oper.upon]
  exact hK _ _ hw

/-- A row Z of which the first t cells are those of X. -/
def mixed (X Z : List Value) (t : Nat) : List Value := X.take t ++ Z.drop t
theorem mixed_at (X Z : List Value) (t n : Nat) (hx : X.length = n) (hz : Z.length = n) (h : t < n) : (mixed X Z t)[t]? = Z[t]? := by
  unfold mixed
  rw [List.getElem?_append_right (by rw [List.length_take]; omega), List.length_take, Nat.min_eq_left (by omega), Nat.sub_self, List.getElem?_drop, Nat.add_zero]
theorem mixed_set (X Z : List Value) (t n : Nat) (hx : X.length = n) (hz : Z.length = n) (h : t < n) (v : Value) (hv : X[t]? = some v) : (mixed X Z t).set t v = mixed X Z (t + 1) := by
  unfold mixed
  rw [List.set_append_right _ _ (by rw [List.length_take]; omega), List.length_take, Nat.min_eq_left (by omega), Nat.sub_self]
  rw [List.drop_eq_getElem_cons (by omega), List.set_cons_zero, List.take_succ_eq_append_getElem (by omega), List.append_assoc]
  congr 1
  rw [List.getElem?_eq_getElem (by omega)] at hv
  injection hv with hv
  rw [hv]; rfl
theorem mixed_zero (X Z : List Value) : mixed X Z 0 = Z := by simp [mixed]
theorem mixed_all (X Z : List Value) (n : Nat) (hx : X.length = n) (hz : Z.length = n) : mixed X Z n = X := by
  unfold mixed; rw [List.take_of_length_le (by omega), List.drop_of_length_le (by omega), List.append_nil]
theorem own_slice {w : World} {base : Nat} {e : TypeId} {v : Value} {n : Nat} {xs : List Value} (h : w.ownsRow base e 1 v n xs) : ∃ b c, v = .slice b n c := by
  rcases h.2 with ⟨rfl, rfl⟩ | ⟨g, cap, cur, rfl, _⟩
  · exact ⟨_, _, rfl⟩
  · exact ⟨_, _, rfl⟩
end Go.Proofs.YtinmmhbiomcdoaaGreatDoor

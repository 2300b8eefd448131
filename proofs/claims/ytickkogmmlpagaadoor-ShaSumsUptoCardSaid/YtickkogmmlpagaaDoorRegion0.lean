/-
  A region that leaves its order open and whose first call writes memory: a phase before 'Seq' in which nothing is asked of memory: what only reckons comes first, then the call alone; behind it 'Seq'. Laws about the model's own words; no Go function is spoken of. No conditions but those that each row names.
-/
import Derived.Test.YtickkogmmlpagaaDoorRegion
namespace Go.Proofs.YtickkogmmlpagaaDoor
open Go.RowKit
section
variable {P : Program} {ops : Array Oper} {Q : Exit → Act → World → Prop} {md : Region.Mode}

def Seq0 (P : Program) (md : Region.Mode) (ops : Array Oper) (Q : Exit → Act → World → Prop) (todo : List (Nat × Oper)) (listed : Array Bool) (a : Act) (w : World) : Prop :=
  (∀ p ∈ todo, ops[p.1]? = some p.2) → wpAnyH P md ops (NoPanic Q) (fun _ => True) todo.length listed a w
theorem Seq0.take_any {pre rest : List (Nat × Oper)} {k : Nat} {o : Oper} {listed : Array Bool} {a : Act} {w : World} {v : Value} (hs : Region.noSelect ops = true)
    (hf : Region.free md ops listed k = true) (hr : (Region.ready md ops listed).contains k = true)
    (hy : YieldsIf P ops (fun _ => True) o v a)
    (h : Seq0 P md ops Q (pre ++ rest) (listed.setIfInBounds k true) (a.put o.dst v) w) : Seq0 P md ops Q (pre ++ (k, o) :: rest) listed a w := by
  intro hd
  have h1 : ops[k]? = some o := hd (k, o) (by simp)
  have h2 := h (fun p hp => hd p (by rcases List.mem_append.1 hp with hp | hp <;> simp [hp]))
  have hl : (pre ++ (k, o) :: rest).length = (pre ++ rest).length + 1 := by simp; omega
  rw [hl]
  exact wpAnyH_take h1 hs hf hr (fun _ _ _ h => h) hy trivial h2
theorem Seq0.take {k : Nat} {o : Oper} {rest : List (Nat × Oper)} {listed : Array Bool} {a : Act} {w : World} {v : Value} (hs : Region.noSelect ops = true)
    (hf : Region.free md ops listed k = true) (hr : (Region.ready md ops listed).contains k = true)
    (hy : YieldsIf P ops (fun _ => True) o v a)
    (h : Seq0 P md ops Q rest (listed.setIfInBounds k true) (a.put o.dst v) w) : Seq0 P md ops Q ((k, o) :: rest) listed a w := Seq0.take_any (pre := []) hs hf hr hy h
theorem Seq0.take1 {p : Nat × Oper} {k : Nat} {o : Oper} {rest : List (Nat × Oper)} {listed : Array Bool} {a : Act} {w : World} {v : Value} (hs : Region.noSelect ops = true)
    (hf : Region.free md ops listed k = true) (hr : (Region.ready md ops listed).contains k = true)
    (hy : YieldsIf P ops (fun _ => True) o v a)
    (h : Seq0 P md ops Q (p :: rest) (listed.setIfInBounds k true) (a.put o.dst v) w) : Seq0 P md ops Q (p :: (k, o) :: rest) listed a w := Seq0.take_any (pre := [p]) hs hf hr hy h
/-- The call that comes up alone and may write: behind it old memory stays. -/
theorem Seq0.alone {k : Nat} {o : Oper} {rest : List (Nat × Oper)} {listed : Array Bool} {a : Act} {w : World} (hr : Region.ready md ops listed = [k])
    (hw : Region.wanted o (yielded ops a.tmps) = true)
    (h : ∀ K : Act → World → Prop, (∀ a' w', Seq P md ops Q rest (listed.setIfInBounds k true) a' w' → K a' w') → o.wp P a w K (NoPanic Q)) : Seq0 P md ops Q ((k, o) :: rest) listed a w := by
  intro hd
  have h1 : ops[k]? = some o := hd (k, o) (by simp)
  refine wpAnyH_all (rs := [k]) hr (by simp) fun i hi => ?_
  obtain rfl : i = k := by simpa using hi
  unfold wpOp
  simp only [h1, hw, if_true]
  exact .inl (h _ fun a' w' hq => ⟨trivial, held_mono (fun _ _ => trivial) _ _ _ _ (hq fun p hp => hd p (by simp [hp]))⟩)
theorem region_seq0 {id : Nat} {l : List Oper} {a : Act} {w : World} (hm : P.follows .mixedOrders = true) (h : Seq0 P .any l.toArray Q (pairs 0 l) (Array.replicate l.toArray.size false) a w.drew) : (Code.region id l.toArray true).wp P Q a w := by
  refine wp_region_noPanic (wp_region_held_drew (S := fun _ => True) hm trivial fun _ => ?_)
  have := h (fun p hp => by
    obtain ⟨j, h1, h2⟩ := pairs_get l 0 p hp
    rw [h1, Nat.zero_add]; simpa using h2)
  rw [pairs_length] at this
  simpa using this
end
end Go.Proofs.YtickkogmmlpagaaDoor

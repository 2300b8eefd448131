/-
  A region that leaves its order open, walked in the order of its text, under one condition on memory that all its operations keep ('SeqS'): what yields the same wherever that condition is met comes at its place in the text; what writes or makes memory comes alone. Laws about the model's own words; no Go function is spoken of. No conditions but those that each row names.
-/
import Derived.Test.YtinmmhbiomcdoaaGreatDoorRegion
namespace Go.Proofs.YtinmmhbiomcdoaaGreatDoor
open Go.RowKit
section
variable {P : Program} {ops : Array Oper} {Q : Exit → Act → World → Prop} {md : Region.Mode} {S : World → Prop}

def SeqS (P : Program) (md : Region.Mode) (ops : Array Oper) (Q : Exit → Act → World → Prop) (S : World → Prop) (todo : List (Nat × Oper)) (listed : Array Bool) (a : Act) (w : World) : Prop :=
  (∀ p ∈ todo, ops[p.1]? = some p.2) → wpAnyH P md ops (NoPanic Q) S todo.length listed a w
theorem SeqS.take_any {pre rest : List (Nat × Oper)} {k : Nat} {o : Oper} {listed : Array Bool} {a : Act} {w : World} {v : Value} (hS : S w) (hs : Region.noSelect ops = true)
    (hf : Region.free md ops listed k = true) (hr : (Region.ready md ops listed).contains k = true)
    (hy : YieldsIf P ops S o v a)
    (h : SeqS P md ops Q S (pre ++ rest) (listed.setIfInBounds k true) (a.put o.dst v) w) : SeqS P md ops Q S (pre ++ (k, o) :: rest) listed a w := by
  intro hd
  have h1 : ops[k]? = some o := hd (k, o) (by simp)
  have h2 := h (fun p hp => hd p (by rcases List.mem_append.1 hp with hp | hp <;> simp [hp]))
  have hl : (pre ++ (k, o) :: rest).length = (pre ++ rest).length + 1 := by simp; omega
  rw [hl]
  exact wpAnyH_take h1 hs hf hr (fun _ _ _ h => h) hy hS h2
theorem SeqS.take {k : Nat} {o : Oper} {rest : List (Nat × Oper)} {listed : Array Bool} {a : Act} {w : World} {v : Value} (hS : S w) (hs : Region.noSelect ops = true)
    (hf : Region.free md ops listed k = true) (hr : (Region.ready md ops listed).contains k = true)
    (hy : YieldsIf P ops S o v a)
    (h : SeqS P md ops Q S rest (listed.setIfInBounds k true) (a.put o.dst v) w) : SeqS P md ops Q S ((k, o) :: rest) listed a w := SeqS.take_any (pre := []) hS hs hf hr hy h
theorem SeqS.take1 {p : Nat × Oper} {k : Nat} {o : Oper} {rest : List (Nat × Oper)} {listed : Array Bool} {a : Act} {w : World} {v : Value} (hS : S w) (hs : Region.noSelect ops = true)
    (hf : Region.free md ops listed k = true) (hr : (Region.ready md ops listed).contains k = true)
    (hy : YieldsIf P ops S o v a)
    (h : SeqS P md ops Q S (p :: rest) (listed.setIfInBounds k true) (a.put o.dst v) w) : SeqS P md ops Q S (p :: (k, o) :: rest) listed a w := SeqS.take_any (pre := [p]) hS hs hf hr hy h
theorem SeqS.take2 {p p' : Nat × Oper} {k : Nat} {o : Oper} {rest : List (Nat × Oper)} {listed : Array Bool} {a : Act} {w : World} {v : Value} (hS : S w) (hs : Region.noSelect ops = true)
    (hf : Region.free md ops listed k = true) (hr : (Region.ready md ops listed).contains k = true)
    (hy : YieldsIf P ops S o v a)
    (h : SeqS P md ops Q S (p :: p' :: rest) (listed.setIfInBounds k true) (a.put o.dst v) w) : SeqS P md ops Q S (p :: p' :: (k, o) :: rest) listed a w := SeqS.take_any (pre := [p, p']) hS hs hf hr hy h
theorem SeqS.take3 {p p' p'' : Nat × Oper} {k : Nat} {o : Oper} {rest : List (Nat × Oper)} {listed : Array Bool} {a : Act} {w : World} {v : Value} (hS : S w) (hs : Region.noSelect ops = true)
    (hf : Region.free md ops listed k = true) (hr : (Region.ready md ops listed).contains k = true)
    (hy : YieldsIf P ops S o v a)
    (h : SeqS P md ops Q S (p :: p' :: p'' :: rest) (listed.setIfInBounds k true) (a.put o.dst v) w) : SeqS P md ops Q S (p :: p' :: p'' :: (k, o) :: rest) listed a w := SeqS.take_any (pre := [p, p', p'']) hS hs hf hr hy h
theorem SeqS.alone {k : Nat} {o : Oper} {rest : List (Nat × Oper)} {listed : Array Bool} {a : Act} {w : World} (hr : Region.ready md ops listed = [k])
    (hw : Region.wanted o (yielded ops a.tmps) = true)
    (h : ∀ K : Act → World → Prop, (∀ a' w', S w' → SeqS P md ops Q S rest (listed.setIfInBounds k true) a' w' → K a' w') → o.wp P a w K (NoPanic Q)) : SeqS P md ops Q S ((k, o) :: rest) listed a w := by
  intro hd
  have h1 : ops[k]? = some o := hd (k, o) (by simp)
  refine wpAnyH_all (rs := [k]) hr (by simp) fun i hi => ?_
  obtain rfl : i = k := by simpa using hi
  unfold wpOp
  simp only [h1, hw, if_true]
  exact .inl (h _ fun a' w' hs hq => ⟨hs, hq fun p hp => hd p (by simp [hp])⟩)
theorem SeqS.done {listed : Array Bool} {a : Act} {w : World} (hr : Region.ready md ops listed = []) (h : Q .normal a w) : SeqS P md ops Q S [] listed a w :=
  fun _ => wpAnyH_done hr (NoPanic.normal h) _
theorem region_seqS (S : World → Prop) {id : Nat} {l : List Oper} {a : Act} {w : World} (hm : P.follows .mixedOrders = true) (hS : S w.drew) (h : SeqS P .any l.toArray Q S (pairs 0 l) (Array.replicate l.toArray.size false) a w.drew) : (Code.region id l.toArray true).wp P Q a w := by
  refine wp_region_noPanic (wp_region_held_drew (S := S) hm hS fun _ => ?_)
  have := h (fun p hp => by
    obtain ⟨j, h1, h2⟩ := pairs_get l 0 p hp
    rw [h1, Nat.zero_add]; simpa using h2)
  rw [pairs_length] at this
  simpa using this
end
end Go.Proofs.YtinmmhbiomcdoaaGreatDoor

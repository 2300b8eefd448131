/-
  A region that leaves its order open, walked in the order of its text: whatever was made stays as it is (Below), so what reads memory may come at any later time; what makes memory comes alone. Laws about the model's own words; no Go function is spoken of. No conditions but those that each row names.
-/
import Derived.WalkKit
import Derived.Deep.RegionHeld3
namespace Go.Proofs.YtinmmhbiomcdoaaGreatDoor
open Go.RowKit

theorem chain {W x y : World} (h : Below W.heap.size W x) (k : Below x.heap.size x y) : Below W.heap.size W y := h.trans (k.mono h.size)

section
variable {P : Program} {ops : Array Oper} {Q : Exit → Act → World → Prop} {md : Region.Mode}

theorem held_mono {S S' : World → Prop} (hS : ∀ w, S' w → S w) : ∀ (fuel : Nat) (listed : Array Bool) (a : Act) (w : World), wpAnyH P md ops Q S' fuel listed a w → wpAnyH P md ops Q S fuel listed a w
  | 0, _, _, _, h => h
  | fuel + 1, _, _, _, h => ⟨h.1, fun i hi => wpOp_mono (fun a' w' h' => ⟨hS w' h'.1, held_mono hS fuel _ a' w' h'.2⟩) (h.2 i hi)⟩

/-- The operations with their numbers. -/
def pairs : Nat → List Oper → List (Nat × Oper)
  | _, [] => []
  | k, o :: rest => (k, o) :: pairs (k + 1) rest

/-- What is still to come; all that comes leaves what is there as it is. -/
def Seq (P : Program) (md : Region.Mode) (ops : Array Oper) (Q : Exit → Act → World → Prop) (todo : List (Nat × Oper)) (listed : Array Bool) (a : Act) (w : World) : Prop :=
  (∀ p ∈ todo, ops[p.1]? = some p.2) → wpAnyH P md ops (NoPanic Q) (fun w' => Below w.heap.size w w') todo.length listed a w

theorem pairs_get : ∀ (l : List Oper) (k : Nat) (p : Nat × Oper), p ∈ pairs k l → ∃ j, p.1 = k + j ∧ l[j]? = some p.2
  | [], _, _, h => by simp [pairs] at h
  | o :: rest, k, p, h => by
    rcases List.mem_cons.1 h with rfl | h
    · exact ⟨0, rfl, rfl⟩
    · obtain ⟨j, h1, h2⟩ := pairs_get rest (k + 1) p h
      exact ⟨j + 1, by omega, by simpa using h2⟩
theorem pairs_length : ∀ (l : List Oper) (k : Nat), (pairs k l).length = l.length
  | [], _ => rfl
  | _ :: rest, k => by simp [pairs, pairs_length rest (k + 1)]

theorem Seq.take_any {pre rest : List (Nat × Oper)} {k : Nat} {o : Oper} {listed : Array Bool} {a : Act} {w : World} {v : Value} (hs : Region.noSelect ops = true)
    (hf : Region.free md ops listed k = true) (hr : (Region.ready md ops listed).contains k = true)
    (hy : YieldsIf P ops (fun w' => Below w.heap.size w w') o v a)
    (h : Seq P md ops Q (pre ++ rest) (listed.setIfInBounds k true) (a.put o.dst v) w) : Seq P md ops Q (pre ++ (k, o) :: rest) listed a w := by
  intro hd
  have h1 : ops[k]? = some o := hd (k, o) (by simp)
  have h2 := h (fun p hp => hd p (by rcases List.mem_append.1 hp with hp | hp <;> simp [hp]))
  have hl : (pre ++ (k, o) :: rest).length = (pre ++ rest).length + 1 := by simp; omega
  rw [hl]
  exact wpAnyH_take h1 hs hf hr (fun _ _ _ h => h) hy (Below.refl _ _) h2
/-- An operation that yields the same in every world in which all that is there now is as it is. -/
theorem Seq.take {k : Nat} {o : Oper} {rest : List (Nat × Oper)} {listed : Array Bool} {a : Act} {w : World} {v : Value} (hs : Region.noSelect ops = true)
    (hf : Region.free md ops listed k = true) (hr : (Region.ready md ops listed).contains k = true)
    (hy : YieldsIf P ops (fun w' => Below w.heap.size w w') o v a)
    (h : Seq P md ops Q rest (listed.setIfInBounds k true) (a.put o.dst v) w) : Seq P md ops Q ((k, o) :: rest) listed a w := Seq.take_any (pre := []) hs hf hr hy h
/-- The second of what is still to come. -/
theorem Seq.take1 {p : Nat × Oper} {k : Nat} {o : Oper} {rest : List (Nat × Oper)} {listed : Array Bool} {a : Act} {w : World} {v : Value} (hs : Region.noSelect ops = true)
    (hf : Region.free md ops listed k = true) (hr : (Region.ready md ops listed).contains k = true)
    (hy : YieldsIf P ops (fun w' => Below w.heap.size w w') o v a)
    (h : Seq P md ops Q (p :: rest) (listed.setIfInBounds k true) (a.put o.dst v) w) : Seq P md ops Q (p :: (k, o) :: rest) listed a w := Seq.take_any (pre := [p]) hs hf hr hy h
/-- The third. -/
theorem Seq.take2 {p p' : Nat × Oper} {k : Nat} {o : Oper} {rest : List (Nat × Oper)} {listed : Array Bool} {a : Act} {w : World} {v : Value} (hs : Region.noSelect ops = true)
    (hf : Region.free md ops listed k = true) (hr : (Region.ready md ops listed).contains k = true)
    (hy : YieldsIf P ops (fun w' => Below w.heap.size w w') o v a)
    (h : Seq P md ops Q (p :: p' :: rest) (listed.setIfInBounds k true) (a.put o.dst v) w) : Seq P md ops Q (p :: p' :: (k, o) :: rest) listed a w := Seq.take_any (pre := [p, p']) hs hf hr hy h
/-- The fourth. -/
theorem Seq.take3 {p p' p'' : Nat × Oper} {k : Nat} {o : Oper} {rest : List (Nat × Oper)} {listed : Array Bool} {a : Act} {w : World} {v : Value} (hs : Region.noSelect ops = true)
    (hf : Region.free md ops listed k = true) (hr : (Region.ready md ops listed).contains k = true)
    (hy : YieldsIf P ops (fun w' => Below w.heap.size w w') o v a)
    (h : Seq P md ops Q (p :: p' :: p'' :: rest) (listed.setIfInBounds k true) (a.put o.dst v) w) : Seq P md ops Q (p :: p' :: p'' :: (k, o) :: rest) listed a w := Seq.take_any (pre := [p, p', p'']) hs hf hr hy h

/-- An operation that comes up alone: it may make memory. -/
theorem Seq.alone {k : Nat} {o : Oper} {rest : List (Nat × Oper)} {listed : Array Bool} {a : Act} {w : World} (hr : Region.ready md ops listed = [k])
    (hw : Region.wanted o (yielded ops a.tmps) = true)
    (h : ∀ K : Act → World → Prop, (∀ a' w', Below w.heap.size w w' → Seq P md ops Q rest (listed.setIfInBounds k true) a' w' → K a' w') → o.wp P a w K (NoPanic Q)) : Seq P md ops Q ((k, o) :: rest) listed a w := by
  intro hd
  have h1 : ops[k]? = some o := hd (k, o) (by simp)
  refine wpAnyH_all (rs := [k]) hr (by simp) fun i hi => ?_
  obtain rfl : i = k := by simpa using hi
  unfold wpOp
  simp only [h1, hw, if_true]
  exact .inl (h _ fun a' w' hb hq => ⟨hb, held_mono (fun w'' hb' => chain hb hb') _ _ _ _ (hq fun p hp => hd p (by simp [hp]))⟩)

/-- All have come up. -/
theorem Seq.done {listed : Array Bool} {a : Act} {w : World} (hr : Region.ready md ops listed = []) (h : Q .normal a w) : Seq P md ops Q [] listed a w :=
  fun _ => wpAnyH_done hr (NoPanic.normal h) _

theorem region_seq {id : Nat} {l : List Oper} {a : Act} {w : World} (hm : P.follows .mixedOrders = true) (h : Seq P .any l.toArray Q (pairs 0 l) (Array.replicate l.toArray.size false) a w.drew) : (Code.region id l.toArray true).wp P Q a w := by
  refine wp_region_noPanic (wp_region_held_drew (S := fun w' => Below w.drew.heap.size w.drew w') hm (Below.refl _ _) fun _ => ?_)
  have := h (fun p hp => by
    obtain ⟨j, h1, h2⟩ := pairs_get l 0 p hp
    rw [h1, Nat.zero_add]; simpa using h2)
  rw [pairs_length] at this
  simpa using this
end
end Go.Proofs.YtinmmhbiomcdoaaGreatDoor

/-
  Texts of stages that were proved on their own, joined: SeqTake, SeqBranch. Each begins with its own words.
-/
import Derived.Test.YtinmmhbiomcdoaaGreatDoorSeqS

/-
  A region that draws its order, walked by SeqS: an operation that stands some places behind the first one is taken ahead. Laws about the model's own words; no Go function is spoken of. No conditions but those that each row names.
-/
namespace Go.Proofs.YtinmmhbiomcdoaaGreatDoor
open Go.RowKit
section
variable {P : Program} {ops : Array Oper} {Q : Exit → Act → World → Prop} {md : Region.Mode} {S : World → Prop}
theorem SeqS.take4 {p1 p2 p3 p4 : Nat × Oper} {k : Nat} {o : Oper} {rest : List (Nat × Oper)} {listed : Array Bool} {a : Act} {w : World} {v : Value} (hS : S w) (hs : Region.noSelect ops = true)
    (hf : Region.free md ops listed k = true) (hr : (Region.ready md ops listed).contains k = true)
    (hy : YieldsIf P ops S o v a)
    (h : SeqS P md ops Q S (p1 :: p2 :: p3 :: p4 :: rest) (listed.setIfInBounds k true) (a.put o.dst v) w) : SeqS P md ops Q S (p1 :: p2 :: p3 :: p4 :: (k, o) :: rest) listed a w := SeqS.take_any (pre := [p1, p2, p3, p4]) hS hs hf hr hy h
theorem SeqS.take5 {p1 p2 p3 p4 p5 : Nat × Oper} {k : Nat} {o : Oper} {rest : List (Nat × Oper)} {listed : Array Bool} {a : Act} {w : World} {v : Value} (hS : S w) (hs : Region.noSelect ops = true)
    (hf : Region.free md ops listed k = true) (hr : (Region.ready md ops listed).contains k = true)
    (hy : YieldsIf P ops S o v a)
    (h : SeqS P md ops Q S (p1 :: p2 :: p3 :: p4 :: p5 :: rest) (listed.setIfInBounds k true) (a.put o.dst v) w) : SeqS P md ops Q S (p1 :: p2 :: p3 :: p4 :: p5 :: (k, o) :: rest) listed a w := SeqS.take_any (pre := [p1, p2, p3, p4, p5]) hS hs hf hr hy h
theorem SeqS.take6 {p1 p2 p3 p4 p5 p6 : Nat × Oper} {k : Nat} {o : Oper} {rest : List (Nat × Oper)} {listed : Array Bool} {a : Act} {w : World} {v : Value} (hS : S w) (hs : Region.noSelect ops = true)
    (hf : Region.free md ops listed k = true) (hr : (Region.ready md ops listed).contains k = true)
    (hy : YieldsIf P ops S o v a)
    (h : SeqS P md ops Q S (p1 :: p2 :: p3 :: p4 :: p5 :: p6 :: rest) (listed.setIfInBounds k true) (a.put o.dst v) w) : SeqS P md ops Q S (p1 :: p2 :: p3 :: p4 :: p5 :: p6 :: (k, o) :: rest) listed a w := SeqS.take_any (pre := [p1, p2, p3, p4, p5, p6]) hS hs hf hr hy h
theorem SeqS.take7 {p1 p2 p3 p4 p5 p6 p7 : Nat × Oper} {k : Nat} {o : Oper} {rest : List (Nat × Oper)} {listed : Array Bool} {a : Act} {w : World} {v : Value} (hS : S w) (hs : Region.noSelect ops = true)
    (hf : Region.free md ops listed k = true) (hr : (Region.ready md ops listed).contains k = true)
    (hy : YieldsIf P ops S o v a)
    (h : SeqS P md ops Q S (p1 :: p2 :: p3 :: p4 :: p5 :: p6 :: p7 :: rest) (listed.setIfInBounds k true) (a.put o.dst v) w) : SeqS P md ops Q S (p1 :: p2 :: p3 :: p4 :: p5 :: p6 :: p7 :: (k, o) :: rest) listed a w := SeqS.take_any (pre := [p1, p2, p3, p4, p5, p6, p7]) hS hs hf hr hy h
theorem SeqS.take8 {p1 p2 p3 p4 p5 p6 p7 p8 : Nat × Oper} {k : Nat} {o : Oper} {rest : List (Nat × Oper)} {listed : Array Bool} {a : Act} {w : World} {v : Value} (hS : S w) (hs : Region.noSelect ops = true)
    (hf : Region.free md ops listed k = true) (hr : (Region.ready md ops listed).contains k = true)
    (hy : YieldsIf P ops S o v a)
    (h : SeqS P md ops Q S (p1 :: p2 :: p3 :: p4 :: p5 :: p6 :: p7 :: p8 :: rest) (listed.setIfInBounds k true) (a.put o.dst v) w) : SeqS P md ops Q S (p1 :: p2 :: p3 :: p4 :: p5 :: p6 :: p7 :: p8 :: (k, o) :: rest) listed a w := SeqS.take_any (pre := [p1, p2, p3, p4, p5, p6, p7, p8]) hS hs hf hr hy h
theorem SeqS.take9 {p1 p2 p3 p4 p5 p6 p7 p8 p9 : Nat × Oper} {k : Nat} {o : Oper} {rest : List (Nat × Oper)} {listed : Array Bool} {a : Act} {w : World} {v : Value} (hS : S w) (hs : Region.noSelect ops = true)
    (hf : Region.free md ops listed k = true) (hr : (Region.ready md ops listed).contains k = true)
    (hy : YieldsIf P ops S o v a)
    (h : SeqS P md ops Q S (p1 :: p2 :: p3 :: p4 :: p5 :: p6 :: p7 :: p8 :: p9 :: rest) (listed.setIfInBounds k true) (a.put o.dst v) w) : SeqS P md ops Q S (p1 :: p2 :: p3 :: p4 :: p5 :: p6 :: p7 :: p8 :: p9 :: (k, o) :: rest) listed a w := SeqS.take_any (pre := [p1, p2, p3, p4, p5, p6, p7, p8, p9]) hS hs hf hr hy h
theorem SeqS.take10 {p1 p2 p3 p4 p5 p6 p7 p8 p9 p10 : Nat × Oper} {k : Nat} {o : Oper} {rest : List (Nat × Oper)} {listed : Array Bool} {a : Act} {w : World} {v : Value} (hS : S w) (hs : Region.noSelect ops = true)
    (hf : Region.free md ops listed k = true) (hr : (Region.ready md ops listed).contains k = true)
    (hy : YieldsIf P ops S o v a)
    (h : SeqS P md ops Q S (p1 :: p2 :: p3 :: p4 :: p5 :: p6 :: p7 :: p8 :: p9 :: p10 :: rest) (listed.setIfInBounds k true) (a.put o.dst v) w) : SeqS P md ops Q S (p1 :: p2 :: p3 :: p4 :: p5 :: p6 :: p7 :: p8 :: p9 :: p10 :: (k, o) :: rest) listed a w := SeqS.take_any (pre := [p1, p2, p3, p4, p5, p6, p7, p8, p9, p10]) hS hs hf hr hy h
theorem SeqS.take11 {p1 p2 p3 p4 p5 p6 p7 p8 p9 p10 p11 : Nat × Oper} {k : Nat} {o : Oper} {rest : List (Nat × Oper)} {listed : Array Bool} {a : Act} {w : World} {v : Value} (hS : S w) (hs : Region.noSelect ops = true)
    (hf : Region.free md ops listed k = true) (hr : (Region.ready md ops listed).contains k = true)
    (hy : YieldsIf P ops S o v a)
    (h : SeqS P md ops Q S (p1 :: p2 :: p3 :: p4 :: p5 :: p6 :: p7 :: p8 :: p9 :: p10 :: p11 :: rest) (listed.setIfInBounds k true) (a.put o.dst v) w) : SeqS P md ops Q S (p1 :: p2 :: p3 :: p4 :: p5 :: p6 :: p7 :: p8 :: p9 :: p10 :: p11 :: (k, o) :: rest) listed a w := SeqS.take_any (pre := [p1, p2, p3, p4, p5, p6, p7, p8, p9, p10, p11]) hS hs hf hr hy h
theorem SeqS.take12 {p1 p2 p3 p4 p5 p6 p7 p8 p9 p10 p11 p12 : Nat × Oper} {k : Nat} {o : Oper} {rest : List (Nat × Oper)} {listed : Array Bool} {a : Act} {w : World} {v : Value} (hS : S w) (hs : Region.noSelect ops = true)
    (hf : Region.free md ops listed k = true) (hr : (Region.ready md ops listed).contains k = true)
    (hy : YieldsIf P ops S o v a)
    (h : SeqS P md ops Q S (p1 :: p2 :: p3 :: p4 :: p5 :: p6 :: p7 :: p8 :: p9 :: p10 :: p11 :: p12 :: rest) (listed.setIfInBounds k true) (a.put o.dst v) w) : SeqS P md ops Q S (p1 :: p2 :: p3 :: p4 :: p5 :: p6 :: p7 :: p8 :: p9 :: p10 :: p11 :: p12 :: (k, o) :: rest) listed a w := SeqS.take_any (pre := [p1, p2, p3, p4, p5, p6, p7, p8, p9, p10, p11, p12]) hS hs hf hr hy h
end
end Go.Proofs.YtinmmhbiomcdoaaGreatDoor

/-
  A region that draws its order, at a place where more than one operation may come next. A law about the model's own words; no Go function is spoken of. No conditions but those that it names.
-/
namespace Go.Proofs.YtinmmhbiomcdoaaGreatDoor
open Go.RowKit
section
variable {P : Program} {ops : Array Oper} {Q : Exit → Act → World → Prop} {md : Region.Mode} {S : World → Prop}
/-- Where more than one operation may come next: whichever comes. -/
theorem SeqS.either {todo : List (Nat × Oper)} {listed : Array Bool} {a : Act} {w : World} {rs : List Nat} (hr : Region.ready md ops listed = rs)
    (h : ∀ k ∈ rs, ∃ pre o post, todo = pre ++ (k, o) :: post ∧ Region.wanted o (yielded ops a.tmps) = true ∧
      ∀ K : Act → World → Prop, (∀ a' w', S w' → SeqS P md ops Q S (pre ++ post) (listed.setIfInBounds k true) a' w' → K a' w') → o.wp P a w K (NoPanic Q)) (hp : 0 < rs.length := by decide) : SeqS P md ops Q S todo listed a w := by
  intro hd
  obtain ⟨n, hn⟩ : ∃ n, todo.length = n + 1 := by
    cases rs with
    | nil => simp at hp
    | cons k rs =>
      obtain ⟨pre, o, post, he, _⟩ := h k (by simp)
      exact ⟨(pre ++ post).length, by rw [he]; simp; omega⟩
  rw [hn]
  refine wpAnyH_all hr (by intro e; rw [e] at hp; simp at hp) fun i hi => ?_
  obtain ⟨pre, o, post, he, hw, hk⟩ := h i hi
  have h1 : ops[i]? = some o := hd (i, o) (by rw [he]; simp)
  have hl : (pre ++ post).length = n := by
    have := hn
    rw [he] at this
    simp at this ⊢
    omega
  unfold wpOp
  simp only [h1, hw, if_true]
  refine .inl (hk _ fun a' w' hs hq => ⟨hs, ?_⟩)
  have := hq (fun p hp' => hd p (by rw [he]; rcases List.mem_append.1 hp' with h | h <;> simp [h]))
  rw [hl] at this
  exact this
end
end Go.Proofs.YtinmmhbiomcdoaaGreatDoor

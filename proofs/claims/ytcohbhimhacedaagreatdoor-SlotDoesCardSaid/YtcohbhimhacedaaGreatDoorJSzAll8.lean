/-
  Texts of stages that were proved on their own, joined: SeqTake, SeqBranch, SeqTil. Each begins with its own words.
-/
import Derived.Test.YtcohbhimhacedaaGreatDoorSeqS

/-
  A region that draws its order, walked by SeqS: an operation that stands some places behind the first one is taken ahead. Laws about the model's own words; no Go function is spoken of. No conditions but those that each row names.
-/
namespace Go.Proofs.YtcohbhimhacedaaGreatDoor
open Go.RowKit
section
variable {P : Program} {ops : Array Oper} {Q : Exit → Act → World → Prop} {md : Region.Mode} {S : World → Prop}
theorem SeqS.take4 {p1 p2 p3 p4 : Nat × Oper} {k : Nat} {o : Oper} {rest : List (Nat × Oper)} {listed : Array Bool} {a : Act} {w : World} {v : Value} (hS : S w) (hs : Region.noSelect ops = true)
    (hf : Region.free md ops listed k = true) (hr : (Region.ready md ops listed).contains k = true)
    (hy : YieldsIf P ops S o v a)
    (h : SeqS P md ops Q S (p1 :: p2 :: p3 :: p4 :: rest) (listed.setIfInBounds k true) (a.put o.dst v) w) : SeqS P md ops Q S (p1 :: p2 :: p3 :: p4 :: (k, o) :: rest) listed a w := SeqS.take_any (pre := [p1, p2, p3, p4]) hS hs hf hr hy h
end
end Go.Proofs.YtcohbhimhacedaaGreatDoor

/-
  A region that draws its order, at a place where more than one operation may come next. A law about the model's own words; no Go function is spoken of. No conditions but those that it names.
-/
namespace Go.Proofs.YtcohbhimhacedaaGreatDoor
open Go.RowKit
section
variable {P : Program} {ops : Array Oper} {Q : Exit → Act → World → Prop} {md : Region.Mode} {S : World → Prop}
/-- Where more than one operation may come next: whichever comes. -/
theorem SeqS.either {todo : List (Nat × Oper)} {listed : Array Bool} {a : Act} {w : World} {rs : List Nat} (hr : Region.ready md ops listed = rs)
    (h : ∀ k ∈ rs, ∃ pre o post, todo = pre ++ (k, o) :: post ∧ Region.wanted o (yielded ops a.tmps) = true ∧
      ∀ K : Act → World → Prop, (∀ a' w', S w' → SeqS P md ops Q S (pre ++ post) (listed.setIfInBounds k true) a' w' → K a' w') → o.wp P a w K (NoPanic Q)) (hp : 0 < rs.length := by decide) : SeqS P md ops Q S todo listed a w := by
  intro hd
  obtain ⟨n, hn⟩ : ∃ n, todo.length = n + 1 := by
    cases rs with
    | nil => simp at hp
    | cons k rs =>
      obtain ⟨pre, o, post, he, _⟩ := h k (by simp)
      exact ⟨(pre ++ post).length, by rw [he]; simp; omega⟩
  rw [hn]
  refine wpAnyH_all hr (by intro e; rw [e] at hp; simp at hp) fun i hi => ?_
  obtain ⟨pre, o, post, he, hw, hk⟩ := h i hi
  have h1 : ops[i]? = some o := hd (i, o) (by rw [he]; simp)
  have hl : (pre ++ post).length = n := by
    have := hn
    rw [he] at this
    simp at this ⊢
    omega
  unfold wpOp
  simp only [h1, hw, if_true]
  refine .inl (hk _ fun a' w' hs hq => ⟨hs, ?_⟩)
  have := hq (fun p hp' => hd p (by rw [he]; rcases List.mem_append.1 hp' with h | h <;> simp [h]))
  rw [hl] at this
  exact this
end
end Go.Proofs.YtcohbhimhacedaaGreatDoor

/-
  A region that leaves its order open, walked in the order of its text, under a condition on memory that holds until one operation of it, the store that all the others come before ('SeqT'): behind that one nothing is asked. Laws about the model's own words; no Go function is spoken of. No conditions but those that each row names.
-/
namespace Go.Proofs.YtcohbhimhacedaaGreatDoor
open Go.RowKit
section
variable {P : Program} {ops : Array Oper} {Q : Exit → Act → World → Prop} {md : Region.Mode} {S : World → Prop} {m : Nat}

/-- The operation m waits for k. -/
def waitsFor (md : Region.Mode) (ops : Array Oper) (m k : Nat) : Bool := match ops[m]? with
  | some o => k != m && o.after.any fun e => Region.binds md e && e.on == k
  | none => false
def HeldTil (P : Program) (md : Region.Mode) (ops : Array Oper) (Q : Exit → Act → World → Prop) (S : World → Prop) (m : Nat) : Nat → Array Bool → Act → World → Prop
  | 0, l, a, w => Region.ready md ops l = [] ∧ Q .normal a w
  | n + 1, l, a, w => (Region.ready md ops l = [] → Q .normal a w) ∧ ∀ i ∈ Region.ready md ops l,
    wpOp P ops Q i (fun a' w' => (i = m → wpAny P md ops Q n (l.setIfInBounds i true) a' w') ∧ (i ≠ m → S w' ∧ HeldTil P md ops Q S m n (l.setIfInBounds i true) a' w')) a w
theorem HeldTil.any : ∀ (n : Nat) (l : Array Bool) (a : Act) (w : World), HeldTil P md ops Q S m n l a w → wpAny P md ops Q n l a w
  | 0, _, _, _, h => h
  | n + 1, _, _, _, h => ⟨h.1, fun i hi => wpOp_mono (fun a' w' k => by
      by_cases e : i = m
      · exact k.1 e
      · exact HeldTil.any n _ a' w' (k.2 e).2) (h.2 i hi)⟩
/-- What yields the same wherever S holds, and for which the last store waits, comes at once. -/
theorem HeldTil.first {i : Nat} {oi : Oper} {v : Value} (hi : ops[i]? = some oi) (hm : waitsFor md ops m i = true) (him : i ≠ m) (hsel : ∀ (j : Nat) (o : Oper) cs b, ops[j]? = some o → o.op ≠ .select cs b)
    (hQ : ∀ c a w, Q (.panic c) (a.put oi.dst v) w → Q (.panic c) a w) : ∀ (n : Nat) (l : Array Bool) (a : Act) (w : World),
      (∀ j oj, ops[j]? = some oj → j ≠ i → l.getD j true = false → (∀ e ∈ oj.after, Region.binds md e = true → e.on ≠ i) → oi.apart ops oj = true) →
      i ∈ Region.ready md ops l → YieldsIf P ops S oi v a → S w →
      HeldTil P md ops Q S m n (l.setIfInBounds i true) (a.put oi.dst v) w → HeldTil P md ops Q S m (n + 1) l a w := by
  intro n
  induction n with
  | zero =>
    intro l a w _ hr hy hS H
    refine ⟨fun h => absurd hr (by rw [h]; simp), fun j hj => ?_⟩
    by_cases e : j = i
    · subst e
      exact hy.wpOp hi hS ⟨fun e => absurd e him, fun _ => ⟨hS, H⟩⟩
    · have := ready_mono hj e
      rw [H.1] at this
      cases this
  | succ n ih =>
    intro l a w hfr hr hy hS H
    refine ⟨fun h => absurd hr (by rw [h]; simp), fun j hj => ?_⟩
    by_cases e : j = i
    · subst e
      exact hy.wpOp hi hS ⟨fun e => absurd e him, fun _ => ⟨hS, H⟩⟩
    have h1 := H.2 j (ready_mono hj e)
    obtain ⟨hun, oj, hoj, hall⟩ := mem_ready.1 hj
    have hno : ∀ x ∈ oj.after, Region.binds md x = true → x.on ≠ i := by
      intro x hx hb hq
      have k1 := hall x hx hb
      have k0 := (mem_ready.1 hr).1
      rw [hq] at k1
      rcases Nat.lt_or_ge i l.size with h | h
      · simp [h] at k0 k1
        rw [k0] at k1
        cases k1
      · simp [Array.getElem?_eq_none h] at k1
    have hjm : j ≠ m := by
      rintro rfl
      unfold waitsFor at hm
      simp only [hoj, Bool.and_eq_true] at hm
      obtain ⟨x, hx, hb⟩ := Array.any_eq_true'.1 hm.2
      simp only [Bool.and_eq_true, beq_iff_eq] at hb
      exact hno x hx hb.1 hb.2
    have h2 := wpOp_putIf hoj (hfr j oj hoj e hun hno) (fun cs b => hsel i oi cs b hi) (fun cs b => hsel j oj cs b hoj) hQ hy h1
    refine wpOp_mono (fun a' w' ⟨hy', _, k⟩ => ⟨fun x => absurd x hjm, fun _ => ?_⟩) h2
    obtain ⟨hS', H'⟩ := k hjm
    refine ⟨hS', ih _ a' w' (fun x ox hx hxi hux hnx => hfr x ox hx hxi ?_ hnx) (ready_mono hr (Ne.symm e)) hy' hS' ?_⟩
    · by_cases z : j = x
      · subst z
        exact hun
      · rwa [getD_set_ne true z] at hux
    · rw [Array.setIfInBounds_comm _ _ e]
      exact H'

/-- What yields the same in whatever world comes at once, also where the last store does not wait for it. -/
theorem HeldTil.free {i : Nat} {oi : Oper} {v : Value} (hi : ops[i]? = some oi) (him : i ≠ m) (hsel : ∀ (j : Nat) (o : Oper) cs b, ops[j]? = some o → o.op ≠ .select cs b)
    (hQ : ∀ c a w, Q (.panic c) (a.put oi.dst v) w → Q (.panic c) a w) : ∀ (n : Nat) (l : Array Bool) (a : Act) (w : World),
      (∀ j oj, ops[j]? = some oj → j ≠ i → l.getD j true = false → (∀ e ∈ oj.after, Region.binds md e = true → e.on ≠ i) → oi.apart ops oj = true) →
      i ∈ Region.ready md ops l → Yields P ops oi v a → S w →
      HeldTil P md ops Q S m n (l.setIfInBounds i true) (a.put oi.dst v) w → HeldTil P md ops Q S m (n + 1) l a w := by
  have here : ∀ {n : Nat} {l : Array Bool} {a : Act} {w : World}, Yields P ops oi v a → S w → HeldTil P md ops Q S m n (l.setIfInBounds i true) (a.put oi.dst v) w → wpOp P ops Q i (fun a' w' => (i = m → wpAny P md ops Q n (l.setIfInBounds i true) a' w') ∧ (i ≠ m → S w' ∧ HeldTil P md ops Q S m n (l.setIfInBounds i true) a' w')) a w :=
    fun hy hS H => hy.wpOp hi ⟨fun e => absurd e him, fun _ => ⟨hS, H⟩⟩
  intro n
  induction n with
  | zero =>
    intro l a w _ hr hy hS H
    refine ⟨fun h => absurd hr (by rw [h]; simp), fun j hj => ?_⟩
    by_cases e : j = i
    · subst e
      exact here hy hS H
    · have := ready_mono hj e
      rw [H.1] at this
      cases this
  | succ n ih =>
    intro l a w hfr hr hy hS H
    refine ⟨fun h => absurd hr (by rw [h]; simp), fun j hj => ?_⟩
    by_cases e : j = i
    · subst e
      exact here hy hS H
    have h1 := H.2 j (ready_mono hj e)
    obtain ⟨hun, oj, hoj, hall⟩ := mem_ready.1 hj
    have hno : ∀ x ∈ oj.after, Region.binds md x = true → x.on ≠ i := by
      intro x hx hb hq
      have k1 := hall x hx hb
      have k0 := (mem_ready.1 hr).1
      rw [hq] at k1
      rcases Nat.lt_or_ge i l.size with h | h
      · simp [h] at k0 k1
        rw [k0] at k1
        cases k1
      · simp [Array.getElem?_eq_none h] at k1
    have h2 := wpOp_put hoj (hfr j oj hoj e hun hno) (fun cs b => hsel i oi cs b hi) (fun cs b => hsel j oj cs b hoj) hQ hy h1
    have fr' : ∀ x ox, ops[x]? = some ox → x ≠ i → (l.setIfInBounds j true).getD x true = false → (∀ e ∈ ox.after, Region.binds md e = true → e.on ≠ i) → oi.apart ops ox = true := by
      intro x ox hx hxi hux hnx
      refine hfr x ox hx hxi ?_ hnx
      by_cases z : j = x
      · subst z
        exact hun
      · rwa [getD_set_ne true z] at hux
    have hr' := ready_mono hr (Ne.symm e)
    refine wpOp_mono (fun a' w' ⟨hy', k1, k2⟩ => ⟨fun x => ?_, fun x => ?_⟩) h2
    · refine wpAny_first hi hsel hQ _ _ a' w' fr' hr' hy' ?_
      rw [Array.setIfInBounds_comm _ _ e]
      exact k1 x
    · obtain ⟨hS', H'⟩ := k2 x
      refine ⟨hS', ih _ a' w' fr' hr' hy' hS' ?_⟩
      rw [Array.setIfInBounds_comm _ _ e]
      exact H'

def SeqT (P : Program) (md : Region.Mode) (ops : Array Oper) (Q : Exit → Act → World → Prop) (S : World → Prop) (m : Nat) (todo : List (Nat × Oper)) (l : Array Bool) (a : Act) (w : World) : Prop :=
  (∀ p ∈ todo, ops[p.1]? = some p.2) → HeldTil P md ops (NoPanic Q) S m todo.length l a w
theorem SeqT.take_any {pre rest : List (Nat × Oper)} {k : Nat} {o : Oper} {l : Array Bool} {a : Act} {w : World} {v : Value} (hS : S w) (hs : Region.noSelect ops = true)
    (hf : Region.free md ops l k = true) (hr : (Region.ready md ops l).contains k = true) (hy : YieldsIf P ops S o v a) (hm : waitsFor md ops m k = true)
    (h : SeqT P md ops Q S m (pre ++ rest) (l.setIfInBounds k true) (a.put o.dst v) w) : SeqT P md ops Q S m (pre ++ (k, o) :: rest) l a w := by
  intro hd
  have h1 : ops[k]? = some o := hd (k, o) (by simp)
  have h2 := h (fun p hp => hd p (by rcases List.mem_append.1 hp with hp | hp <;> simp [hp]))
  have hl : (pre ++ (k, o) :: rest).length = (pre ++ rest).length + 1 := by simp; omega
  rw [hl]
  have him : k ≠ m := by
    unfold waitsFor at hm
    split at hm
    · simp only [Bool.and_eq_true, bne_iff_ne] at hm
      exact hm.1
    · cases hm
  exact HeldTil.first h1 hm him (Region.noSelect_spec hs) (fun _ _ _ h => h) _ l a w (Region.free_spec h1 hf) (by simpa using hr) hy hS h2
theorem SeqT.take {k : Nat} {o : Oper} {rest : List (Nat × Oper)} {l : Array Bool} {a : Act} {w : World} {v : Value} (hS : S w) (hs : Region.noSelect ops = true)
    (hf : Region.free md ops l k = true) (hr : (Region.ready md ops l).contains k = true) (hy : YieldsIf P ops S o v a) (h : SeqT P md ops Q S m rest (l.setIfInBounds k true) (a.put o.dst v) w) (hm : waitsFor md ops m k = true := by decide +kernel) :
    SeqT P md ops Q S m ((k, o) :: rest) l a w := SeqT.take_any (pre := []) hS hs hf hr hy hm h
theorem SeqT.take1 {p : Nat × Oper} {k : Nat} {o : Oper} {rest : List (Nat × Oper)} {l : Array Bool} {a : Act} {w : World} {v : Value} (hS : S w) (hs : Region.noSelect ops = true)
    (hf : Region.free md ops l k = true) (hr : (Region.ready md ops l).contains k = true) (hy : YieldsIf P ops S o v a) (h : SeqT P md ops Q S m (p :: rest) (l.setIfInBounds k true) (a.put o.dst v) w) (hm : waitsFor md ops m k = true := by decide +kernel) :
    SeqT P md ops Q S m (p :: (k, o) :: rest) l a w := SeqT.take_any (pre := [p]) hS hs hf hr hy hm h
theorem SeqT.free_any {pre rest : List (Nat × Oper)} {k : Nat} {o : Oper} {l : Array Bool} {a : Act} {w : World} {v : Value} (hS : S w) (hs : Region.noSelect ops = true)
    (hf : Region.free md ops l k = true) (hr : (Region.ready md ops l).contains k = true) (hy : YieldsIf P ops (fun _ => True) o v a) (hk : (k != m) = true)
    (h : SeqT P md ops Q S m (pre ++ rest) (l.setIfInBounds k true) (a.put o.dst v) w) : SeqT P md ops Q S m (pre ++ (k, o) :: rest) l a w := by
  intro hd
  have h1 : ops[k]? = some o := hd (k, o) (by simp)
  have h2 := h (fun p hp => hd p (by rcases List.mem_append.1 hp with hp | hp <;> simp [hp]))
  have hl : (pre ++ (k, o) :: rest).length = (pre ++ rest).length + 1 := by simp; omega
  rw [hl]
  exact HeldTil.free h1 (by simpa using hk) (Region.noSelect_spec hs) (fun _ _ _ h => h) _ l a w (Region.free_spec h1 hf) (by simpa using hr) (hy.imp (fun ⟨x, y⟩ => ⟨x, fun w => y w trivial⟩) id) hS h2
theorem SeqT.free {k : Nat} {o : Oper} {rest : List (Nat × Oper)} {l : Array Bool} {a : Act} {w : World} {v : Value} (hS : S w) (hs : Region.noSelect ops = true)
    (hf : Region.free md ops l k = true) (hr : (Region.ready md ops l).contains k = true) (hy : YieldsIf P ops (fun _ => True) o v a) (h : SeqT P md ops Q S m (rest) (l.setIfInBounds k true) (a.put o.dst v) w) (hk : (k != m) = true := by decide) :
    SeqT P md ops Q S m ((k, o) :: rest) l a w := SeqT.free_any (pre := []) hS hs hf hr hy hk h
theorem SeqT.alone {k : Nat} {o : Oper} {rest : List (Nat × Oper)} {l : Array Bool} {a : Act} {w : World} (hr : Region.ready md ops l = [k])
    (hw : Region.wanted o (yielded ops a.tmps) = true) (hk : (k != m) = true)
    (h : ∀ K : Act → World → Prop, (∀ a' w', S w' → SeqT P md ops Q S m rest (l.setIfInBounds k true) a' w' → K a' w') → o.wp P a w K (NoPanic Q)) : SeqT P md ops Q S m ((k, o) :: rest) l a w := by
  intro hd
  have h1 : ops[k]? = some o := hd (k, o) (by simp)
  have hkm : k ≠ m := by simpa using hk
  refine ⟨fun h => absurd (hr.symm.trans h) (by simp), fun i hi => ?_⟩
  obtain rfl : i = k := by simpa [hr] using hi
  unfold wpOp
  simp only [h1, hw, if_true]
  exact .inl (h _ fun a' w' hs hq => ⟨fun e => absurd e hkm, fun _ => ⟨hs, hq fun p hp => hd p (by simp [hp])⟩⟩)
/-- The store itself: behind it nothing is asked. -/
theorem SeqT.last {o : Oper} {rest : List (Nat × Oper)} {l : Array Bool} {a : Act} {w : World} (hr : Region.ready md ops l = [m])
    (hw : Region.wanted o (yielded ops a.tmps) = true)
    (h : ∀ K : Act → World → Prop, (∀ a' w', SeqS P md ops Q (fun _ => True) rest (l.setIfInBounds m true) a' w' → K a' w') → o.wp P a w K (NoPanic Q)) : SeqT P md ops Q S m ((m, o) :: rest) l a w := by
  intro hd
  have h1 : ops[m]? = some o := hd (m, o) (by simp)
  refine ⟨fun h => absurd (hr.symm.trans h) (by simp), fun i hi => ?_⟩
  obtain rfl : i = m := by simpa [hr] using hi
  unfold wpOp
  simp only [h1, hw, if_true]
  exact .inl (h _ fun a' w' hq => ⟨fun _ => wpAny_of_held _ _ _ _ (hq fun p hp => hd p (by simp [hp])), fun e => absurd rfl e⟩)
theorem region_seqT (m : Nat) (S : World → Prop) {id : Nat} {l : List Oper} {a : Act} {w : World} (hm : P.follows .mixedOrders = true) (h : SeqT P .any l.toArray Q S m (pairs 0 l) (Array.replicate l.toArray.size false) a w.drew) : (Code.region id l.toArray true).wp P Q a w := by
  refine wp_region_noPanic (wp_region_any hm (HeldTil.any (S := S) (m := m) _ _ _ _ ?_))
  have := h (fun p hp => by
    obtain ⟨j, h1, h2⟩ := pairs_get l 0 p hp
    rw [h1, Nat.zero_add]; simpa using h2)
  rw [pairs_length] at this
  simpa using this
end
end Go.Proofs.YtcohbhimhacedaaGreatDoor

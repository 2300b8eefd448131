/-
  A block of memory that is known whole ('Blk'): what its cells read, what stays of it where other memory was written; a world in which one block alone may have been written, and new ones made. No Go function is spoken of here.
-/
import Derived.Test.YtinmmhbiomcdoaaGreatDoorSlices
import Derived.Laws.Rows
import Derived.Laws.Tables
import Derived.Deep.MidRow
import Derived.Deep.Draws
import Derived.Laws.CopyOwn
import Derived.StillTailTactics
namespace Go.Proofs.YtinmmhbiomcdoaaGreatDoor
open Go.RowKit

/-- Block g holds just these cells, of type t; each may be written. -/
def Blk (w : World) (g : Nat) (t : TypeId) (cs : List Value) : Prop := w.heap[g]? = some (.cells cs.toArray t (0, 0))

section
variable {w w' : World} {g : Nat} {t : TypeId} {cs : List Value}
theorem Blk.lt (h : Blk w g t cs) : g < w.heap.size := by
  by_cases hlt : g < w.heap.size
  · exact hlt
  · unfold Blk at h; rw [Array.getElem?_eq_none (by omega)] at h; cases h
theorem Blk.cell (h : Blk w g t cs) (i : Nat) : w.cell? ⟨g, i, none⟩ = cs[i]? := by rw [cell_of_row w g i _ t (0, 0) h]; simp
theorem Blk.frozen (h : Blk w g t cs) (i : Nat) : w.frozen? ⟨g, i, none⟩ = false := by
  unfold Blk at h; simp [World.frozen?, h]
theorem Blk.new (w : World) (t : TypeId) (cs : List Value) : Blk (w.alloc (.cells cs.toArray t)) w.heap.size t cs := heap_alloc_new w _
theorem Blk.new1 (w : World) (o : Obj) (t : TypeId) (cs : List Value) : Blk ((w.alloc o).alloc (.cells cs.toArray t)) (w.heap.size + 1) t cs := by
  have := Blk.new (w.alloc o) t cs; simpa using this
theorem Blk.keep {B : Nat} (h : Blk w g t cs) (hb : Below B w w') (hg : g < B) : Blk w' g t cs := (hb.block g hg).trans h
theorem Blk.grown {row : Option Nat} (h : Blk w g t cs) (hb : w.grownBy w' row) (hg : some g ≠ row) : Blk w' g t cs := (hb.block g h.lt hg).trans h
theorem Blk.drew (h : Blk w g t cs) : Blk w.drew g t cs := h
theorem Blk.alloc (h : Blk w g t cs) (o : Obj) : Blk (w.alloc o) g t cs := (Below.heap_alloc w o g h.lt).trans h
theorem Blk.set (h : Blk w g t cs) (i : Nat) (u : Value) : Blk (w.setCell ⟨g, i, none⟩ u) g t (cs.set i u) := by
  unfold Blk at h ⊢
  simp [World.setCell, Array.getElem?_modify, h]
theorem Blk.far (h : Blk w g t cs) {p : Addr} (hp : g ≠ p.block) (u : Value) : Blk (w.setCell p u) g t cs := (Below.heap_setCell w p u g hp).trans h
/-- A part of the cells, from place o on. -/
theorem Blk.range (h : Blk w g t cs) (o : Nat) (vs : List Value) (hv : ∀ j v, vs[j]? = some v → cs[o + j]? = some v) : w.rangeAt g o vs := fun j v hj => by
  rw [h.cell]; exact hv j v hj
theorem Blk.there (h : Blk w g t cs) (o n : Nat) (hn : o + n ≤ cs.length) : w.there g o n := fun j hj => by
  rw [h.cell, h.frozen]
  exact ⟨by rw [List.getElem?_eq_getElem (by omega)]; rfl, rfl⟩
/-- Many cells written, from place o on. -/
theorem Blk.setCells : ∀ (vs : List Value) (o : Nat) {w : World} {cs : List Value}, Blk w g t cs → o + vs.length ≤ cs.length → Blk (w.setCells g o vs) g t (cs.take o ++ (vs ++ cs.drop (o + vs.length)))
  | [], o, w, cs, h, hl => by
    rw [World.setCells]
    rw [show cs.take o ++ ([] ++ cs.drop (o + ([] : List Value).length)) = cs from by simp]; exact h
  | v :: r, o, w, cs, h, hl => by
    rw [World.setCells]
    simp only [List.length_cons] at hl
    have := Blk.setCells r (o + 1) (h.set o v) (by simp; omega)
    have e : (cs.set o v).take (o + 1) ++ (r ++ (cs.set o v).drop (o + 1 + r.length)) = cs.take o ++ (v :: r ++ cs.drop (o + (v :: r).length)) := by
      rw [List.drop_set, if_pos (by omega)]
      rw [List.take_succ_eq_append_getElem (by simp; omega)]
      simp only [List.getElem_set_self, List.take_set, List.length_cons, List.append_assoc, List.cons_append, List.nil_append]
      rw [List.set_eq_of_length_le (by rw [List.length_take]; omega)]
      congr 3
      congr 1
      omega
    rw [e] at this
    exact this
theorem Blk.cast {cs' : List Value} (h : Blk w g t cs) (e : cs = cs') : Blk w g t cs' := e ▸ h

/-- Many cells written are one row written. -/
theorem grown_setRow (w : World) (g : Nat) (cs : Array Value) : w.grownBy (w.setRow g cs) (some g) :=
  ⟨rfl, rfl, rfl, by simp, fun k _ hne => setRow_other w g k cs (fun e => hne (by rw [e]))⟩
theorem grown_setCell (w : World) (g i : Nat) (u : Value) : w.grownBy (w.setCell ⟨g, i, none⟩ u) (some g) :=
  ⟨rfl, rfl, rfl, by simp [World.setCell], fun k _ hne => Below.heap_setCell w _ u k (fun e => hne (by rw [e]))⟩
theorem grown_trans {a b c : World} {row : Option Nat} (h : a.grownBy b row) (k : b.grownBy c row) : a.grownBy c row :=
  ⟨k.os.trans h.os, k.tape.trans h.tape, k.output.trans h.output, Nat.le_trans h.size k.size, fun i hi hne => (k.block i (Nat.lt_of_lt_of_le hi h.size) hne).trans (h.block i hi hne)⟩
theorem grown_setCells (g : Nat) : ∀ (vs : List Value) (o : Nat) (w : World), w.grownBy (w.setCells g o vs) (some g)
  | [], _, w => by rw [World.setCells]; exact ⟨rfl, rfl, rfl, Nat.le_refl _, fun _ _ _ => rfl⟩
  | v :: r, o, w => by rw [World.setCells]; exact grown_trans (grown_setCell w g o v) (grown_setCells g r (o + 1) _)
theorem grown_of_below {a w : World} (h : Below a.heap.size a w) (row : Option Nat) : a.grownBy w row := ⟨h.os, h.tape, h.output, h.size, fun i hi _ => h.block i hi⟩
theorem grown_drew {a w : World} {row : Option Nat} (h : a.grownBy w row) : a.grownBy w.drew row := ⟨h.os, h.tape, h.output, h.size, h.block⟩
theorem grown_drewN {a w : World} {row : Option Nat} (h : a.grownBy w row) (n : Nat) : a.grownBy (w.drewN n) row := ⟨h.os, h.tape, h.output, h.size, h.block⟩
theorem grown_refl (w : World) (row : Option Nat) : w.grownBy w row := ⟨rfl, rfl, rfl, Nat.le_refl _, fun _ _ _ => rfl⟩
theorem below_of_grown {a b : World} {g B : Nat} (h : a.grownBy b (some g)) (hB : B ≤ g) (hg : g < a.heap.size) : Below B a b :=
  ⟨h.os, h.tape, h.output, h.size, fun k hk => h.block k (by omega) (fun e => by injection e; omega)⟩
theorem size1 (w : World) (o1 : Obj) : (w.alloc o1).heap.size = w.heap.size + 1 := by simp
theorem size2 (w : World) (o1 o2 : Obj) : ((w.alloc o1).alloc o2).heap.size = w.heap.size + 2 := by simp
theorem size3 (w : World) (o1 o2 o3 : Obj) : (((w.alloc o1).alloc o2).alloc o3).heap.size = w.heap.size + 3 := by simp
theorem below1 (w : World) (o1 : Obj) : Below w.heap.size w (w.alloc o1) := (Below.refl _ _).alloc (Nat.le_refl _) _
theorem below2 (w : World) (o1 o2 : Obj) : Below w.heap.size w ((w.alloc o1).alloc o2) := (below1 w o1).alloc (by simp) _
theorem below3 (w : World) (o1 o2 o3 : Obj) : Below w.heap.size w (((w.alloc o1).alloc o2).alloc o3) := (below2 w o1 o2).alloc (by simp; omega) _
theorem below_drewN {B : Nat} {a w : World} (h : Below B a w) (n : Nat) : Below B a (w.drewN n) := ⟨h.os, h.tape, h.output, h.size, h.block⟩
end

/-- A slice in another block than g stays what it is where g alone was written. -/
theorem Ints.grown {k : IntKind} {w w' : World} {a : Option Addr} {n cap : Nat} {xs : List Int} {g : Nat} (h : Ints k w a n cap xs) (hb : w.grownBy w' (some g)) (hne : ∀ x, a = some x → 0 < n → x.block ≠ g) : Ints k w' a n cap xs := by
  refine ⟨h.1, h.2.1, ?_⟩
  rcases h.2.2 with h0 | ⟨b, off, ha, hc⟩
  · exact .inl h0
  · by_cases hn : n = 0
    · exact .inl hn
    · refine .inr ⟨b, off, ha, fun i hi => ?_⟩
      rw [hb.cell (hc i hi) (fun e => hne _ ha (by omega) (by injection e))]
/-- Of a block that is known whole the cells from o on, as a slice. -/
theorem Ints.of_blk {k : IntKind} {w : World} {g o n cap : Nat} {t : TypeId} {cs : List Value} {xs : List Int} (h : Blk w g t cs) (hl : xs.length = n) (hc : n ≤ cap) (hx : ∀ i, i < n → cs[o + i]? = some (.int k (xs.getD i 0))) : Ints k w (some ⟨g, o, none⟩) n cap xs :=
  ⟨hl, hc, .inr ⟨g, o, rfl, fun i hi => by rw [h.cell]; exact hx i hi⟩⟩
theorem getElem?_mapInt (k : IntKind) (xs : List Int) (i : Nat) (h : i < xs.length) : (xs.map (Value.int k))[i]? = some (.int k (xs.getD i 0)) := by
  rw [List.getElem?_map, List.getElem?_eq_getElem h, List.getD_eq_getElem?_getD, List.getElem?_eq_getElem h]; rfl
/-- The rest of a slice, cut at k. -/
theorem Ints.cut {kd : IntKind} {w : World} {a : Option Addr} {n cap : Nat} {xs : List Int} (h : Ints kd w a n cap xs) (k : Nat) (hk : k ≤ n) (v : Option Addr) (c' : Nat) (hv : k < n → ∀ b off, a = some ⟨b, off, none⟩ → v = some ⟨b, off + k, none⟩) (hcc : n - k ≤ c') :
    Ints kd w v (n - k) c' (xs.drop k) := by
  refine ⟨by rw [List.length_drop, h.1], hcc, ?_⟩
  by_cases hn : n - k = 0
  · exact .inl hn
  · obtain ⟨b, off, ha, hcell⟩ := h.at (by omega)
    refine .inr ⟨b, off + k, hv (by omega) b off ha, fun i hi => ?_⟩
    rw [Nat.add_assoc, hcell (k + i) (by omega)]
    simp [List.getD_eq_getElem?_getD]

def overV (L : List Value) (off : Nat) (cs : List Value) : List Value := L.take off ++ (cs ++ L.drop (off + cs.length))
/-- copy into a block that is known whole, at place off; the source may be nil or empty. -/
theorem wpList_copy_blk {P : Program} {w : World} {ops : Array Oper} {rest : List Oper} {o : Oper} {a : Act} {Q : Exit → Act → World → Prop} (hgd : o.guard = none) (d s : Operand) (dT sT : TypeId)
    (ho : o.op = .call { callee := .builtin .copy, args := #[d, s], argTypes := #[dT, sT] }) (elem : TypeId) (hu : P.underlying dT = some (.slice elem)) (hsz : (P.info? elem).map (·.size) = some 1)
    (dp sp : Option Addr) (dLen dCap sLen sCap : Nat) (hd : a.eval d = .slice dp dLen dCap) (hs : a.eval s = .slice sp sLen sCap)
    (g off : Nat) (cur : List Value) (t : TypeId) (hg : Blk w g t cur) (cs : List Value) (hn : cs.length = Nat.min sLen dLen)
    (hpos : 0 < cs.length → dp = some ⟨g, off, none⟩ ∧ ∃ ad, sp = some ad ∧ ∀ j v, cs[j]? = some v → w.cell? (ad.add j) = some v)
    (hfit : off + cs.length ≤ cur.length) (h1 : ∀ v ∈ cs, v.oneCell' = true)
    (h : ∀ w', Blk w' g t (overV cur off cs) → w.grownBy w' (some g) → wpList P ops Q rest (a.put o.dst (goInt cs.length)) w') :
    wpList P ops Q (o :: rest) a w := by
  by_cases h0 : cs.length = 0
  · obtain rfl : cs = [] := List.eq_nil_of_length_eq_zero h0
    refine wpList_copy_nothing hgd d s dT sT ho elem hu hsz dp sp dLen dCap sLen sCap hd hs (by simpa using hn.symm) ?_
    exact h w (hg.cast (by simp [overV])) (grown_refl _ _)
  · obtain ⟨rfl, ad, rfl, hsrc⟩ := hpos (by omega)
    refine wpList_copy_own hgd d s dT sT ho elem hu hsz g off dLen dCap ad sLen sCap hd hs cur.toArray t hg cs hn hsrc (by simpa using hfit) h1 ?_
    exact h _ (show _ = _ by simpa [overV] using setRow_heap w g _ _ t _ hg) (grown_setRow _ _ _)
/-- The same as the last operation of a region. -/
theorem wp_copy_blk {P : Program} {o : Oper} {a : Act} {w : World} {K : Act → World → Prop} {Q : Exit → Act → World → Prop} (d s : Operand) (dT sT : TypeId)
    (ho : o.op = .call { callee := .builtin .copy, args := #[d, s], argTypes := #[dT, sT] }) (elem : TypeId) (hu : P.underlying dT = some (.slice elem)) (hsz : (P.info? elem).map (·.size) = some 1)
    (dp sp : Option Addr) (dLen dCap sLen sCap : Nat) (hd : a.eval d = .slice dp dLen dCap) (hs : a.eval s = .slice sp sLen sCap)
    (g off : Nat) (cur : List Value) (t : TypeId) (hg : Blk w g t cur) (cs : List Value) (hn : cs.length = Nat.min sLen dLen)
    (hpos : 0 < cs.length → dp = some ⟨g, off, none⟩ ∧ ∃ ad, sp = some ad ∧ ∀ j v, cs[j]? = some v → w.cell? (ad.add j) = some v)
    (hfit : off + cs.length ≤ cur.length) (h1 : ∀ v ∈ cs, v.oneCell' = true)
    (h : ∀ w', Blk w' g t (overV cur off cs) → w.grownBy w' (some g) → K (a.put o.dst (goInt cs.length)) w') : o.wp P a w K Q := by
  by_cases h0 : cs.length = 0
  · obtain rfl : cs = [] := List.eq_nil_of_length_eq_zero h0
    have hrun := run_copy_none (P := P) w dT sT o.type elem dp sp dLen dCap sLen sCap hu hsz (by simpa using hn.symm)
    unfold Oper.wp
    simp [execOp, ho, resolve, invoke, builtin, hd, hs, hrun, Result.andThen]
    exact h w (hg.cast (by simp [overV])) (grown_refl _ _)
  · obtain ⟨rfl, ad, rfl, hsrc⟩ := hpos (by omega)
    have hrun := run_copy_row (P := P) w dT sT o.type elem g off dLen dCap ad sLen sCap cur.toArray t cs hu hsz hg hn hsrc (by simpa using hfit) h1
    unfold Oper.wp
    simp [execOp, ho, resolve, invoke, builtin, hd, hs, hrun, Result.andThen]
    exact h _ (show _ = _ by simpa [overV] using setRow_heap w g _ _ t _ hg) (grown_setRow _ _ _)
/-- The cells of a slice of numbers, as the source of a copy. -/
theorem Ints.src {k : IntKind} {w : World} {a : Option Addr} {n cap : Nat} {xs : List Int} (h : Ints k w a n cap xs) (m : Nat) (hm : m ≤ n) (hp : 0 < m) :
    ∃ ad, a = some ad ∧ ∀ j v, ((xs.take m).map (Value.int k))[j]? = some v → w.cell? (ad.add j) = some v := by
  obtain ⟨b, off, ha, hc⟩ := h.at (by omega)
  refine ⟨_, ha, fun j v hj => ?_⟩
  have hl := h.len
  have hjl : j < m := by
    have := (List.getElem?_eq_some_iff.1 hj).1
    simp at this; omega
  rw [Addr.add_mid, hc j (by omega), ← hj, getElem?_mapInt _ _ _ (by rw [List.length_take]; omega)]
  rw [List.getD_eq_getElem?_getD, List.getD_eq_getElem?_getD, List.getElem?_take_of_lt hjl]
theorem ints_oneCell' (k : IntKind) (xs : List Int) : ∀ v ∈ xs.map (Value.int k), v.oneCell' = true := by
  intro v hv
  obtain ⟨x, _, rfl⟩ := List.mem_map.1 hv
  rfl
/-- All that a copy into a known block asks, behind one name. -/
structure CopyFits (w : World) (dp sp : Option Addr) (sLen dLen g off room : Nat) (cs : List Value) : Prop where
  n : cs.length = Nat.min sLen dLen
  pos : 0 < cs.length → dp = some ⟨g, off, none⟩ ∧ ∃ ad, sp = some ad ∧ ∀ j v, cs[j]? = some v → w.cell? (ad.add j) = some v
  fit : off + cs.length ≤ room
  one : ∀ v ∈ cs, v.oneCell' = true
theorem Ints.copyFits {k : IntKind} {w : World} {a : Option Addr} {n cap : Nat} {xs : List Int} (h : Ints k w a n cap xs) {dp : Option Addr} {dLen g off room m : Nat} (hm : m = Nat.min n dLen) (hd : 0 < m → dp = some ⟨g, off, none⟩) (hf : off + m ≤ room) :
    CopyFits w dp a n dLen g off room ((xs.take m).map (Value.int k)) := by
  have hl := h.len
  have hmn : m ≤ n := by rw [hm]; exact Nat.min_le_left _ _
  have hlen : ((xs.take m).map (Value.int k)).length = m := by rw [List.length_map, List.length_take]; omega
  refine ⟨by rw [hlen]; exact hm, fun hp => ?_, by rw [hlen]; exact hf, ints_oneCell' _ _⟩
  rw [hlen] at hp
  exact ⟨hd hp, h.src m hmn hp⟩
theorem wpList_copy_fits {P : Program} {w : World} {ops : Array Oper} {rest : List Oper} {o : Oper} {a : Act} {Q : Exit → Act → World → Prop} (hgd : o.guard = none) (d s : Operand) (dT sT : TypeId)
    (ho : o.op = .call { callee := .builtin .copy, args := #[d, s], argTypes := #[dT, sT] }) (elem : TypeId) (hu : P.underlying dT = some (.slice elem)) (hsz : (P.info? elem).map (·.size) = some 1)
    {dp sp : Option Addr} {dLen dCap sLen sCap : Nat} (hd : a.eval d = .slice dp dLen dCap) (hs : a.eval s = .slice sp sLen sCap)
    {g off : Nat} {cur : List Value} {t : TypeId} (hg : Blk w g t cur) {cs : List Value} (hf : CopyFits w dp sp sLen dLen g off cur.length cs)
    (h : ∀ w', Blk w' g t (overV cur off cs) → w.grownBy w' (some g) → wpList P ops Q rest (a.put o.dst (goInt cs.length)) w') :
    wpList P ops Q (o :: rest) a w :=
  wpList_copy_blk hgd d s dT sT ho elem hu hsz dp sp dLen dCap sLen sCap hd hs g off cur t hg cs hf.n hf.pos hf.fit hf.one h
theorem wpList_copy_num {P : Program} {w : World} {ops : Array Oper} {rest : List Oper} {o : Oper} {a : Act} {Q : Exit → Act → World → Prop} (hgd : o.guard = none) (d s : Operand) (dT sT : TypeId)
    (ho : o.op = .call { callee := .builtin .copy, args := #[d, s], argTypes := #[dT, sT] }) (elem : TypeId) (hu : P.underlying dT = some (.slice elem)) (hsz : (P.info? elem).map (·.size) = some 1)
    {dp sp : Option Addr} {dLen dCap sLen sCap : Nat} (hd : a.eval d = .slice dp dLen dCap) (hs : a.eval s = .slice sp sLen sCap)
    {g off : Nat} {cur : List Value} {t : TypeId} (hg : Blk w g t cur) {cs : List Value} (hf : CopyFits w dp sp sLen dLen g off cur.length cs) (n : Nat) (hn : cs.length = n)
    (h : ∀ w', Blk w' g t (overV cur off cs) → w.grownBy w' (some g) → wpList P ops Q rest (a.put o.dst (.int .i64 n)) w') :
    wpList P ops Q (o :: rest) a w := by
  subst hn
  exact wpList_copy_fits hgd d s dT sT ho elem hu hsz hd hs hg hf h
/-- The same as one step of a region that draws its order. -/
theorem step_copy_fits {P : Program} {ops : Array Oper} {o : Oper} {a : Act} {w : World} {K : Act → World → Prop} {Q : Exit → Act → World → Prop} {E : Prop} (hgd : o.guard = none) (d s : Operand) (dT sT : TypeId)
    (ho : o.op = .call { callee := .builtin .copy, args := #[d, s], argTypes := #[dT, sT] }) (elem : TypeId) (hu : P.underlying dT = some (.slice elem)) (hsz : (P.info? elem).map (·.size) = some 1)
    {dp sp : Option Addr} {dLen dCap sLen sCap : Nat} (hd : a.eval d = .slice dp dLen dCap) (hs : a.eval s = .slice sp sLen sCap)
    {g off : Nat} {cur : List Value} {t : TypeId} (hg : Blk w g t cur) {cs : List Value} (hf : CopyFits w dp sp sLen dLen g off cur.length cs)
    (h : ∀ w', Blk w' g t (overV cur off cs) → w.grownBy w' (some g) → K (a.put o.dst (goInt cs.length)) w') :
    if Region.wanted o (yielded ops a.tmps) = true then Oper.wp P o a w K Q else E := by
  have hw : Region.wanted o (yielded ops a.tmps) = true := by simp [Region.wanted, hgd]
  rw [if_pos hw]
  exact wp_copy_blk d s dT sT ho elem hu hsz dp sp dLen dCap sLen sCap hd hs g off cur t hg cs hf.n hf.pos hf.fit hf.one h
theorem overV_ints (k : IntKind) (xs ys : List Int) (off : Nat) : overV (xs.map (Value.int k)) off (ys.map (Value.int k)) = (xs.take off ++ (ys ++ xs.drop (off + ys.length))).map (Value.int k) := by
  simp [overV]

/-- The address of what is left of a slice, cut at l; at its capacity the address stays. -/
def cutAddr (A : Option Addr) (c l : Nat) : Option Addr := if c = l then A else A.map (·.add l)
theorem Ints.cutAt {kd : IntKind} {w : World} {a : Option Addr} {n cap : Nat} {xs : List Int} (h : Ints kd w a n cap xs) (l : Nat) (hl : l ≤ n) : Ints kd w (cutAddr a cap l) (n - l) (cap - l) (xs.drop l) := by
  have hc := h.2.1
  refine h.cut l hl _ _ (fun hlt b off ha => ?_) (by omega)
  unfold cutAddr
  rw [if_neg (by omega), ha]
  simp [Addr.add_mid]
theorem cutAddr_block {A : Option Addr} {c l : Nat} {x : Addr} (h : cutAddr A c l = some x) : ∃ y, A = some y ∧ y.block = x.block := by
  unfold cutAddr at h
  split at h
  · exact ⟨x, h, rfl⟩
  · cases A with
    | none => simp at h
    | some y =>
      refine ⟨y, rfl, ?_⟩
      have : y.add l = x := by simpa using h
      rw [← this]; unfold Addr.add; split <;> rfl
theorem run_cut {P : Program} (ty e : TypeId) (hu : P.underlying ty = some (.slice e)) (hs : (P.info? e).map (·.size) = some 1) (w : World) (A : Option Addr) (m c : Nat) (k : IntKind) (l : Nat) (hlm : l ≤ m) :
    (Instr.sliceAt ty (.slice A m c) (some (.int k l)) none none).run P w = .ok (.slice (cutAddr A c l) (m - l) (c - l)) w := by
  have he : P.elem ty = e := by simp [Program.elem, hu]
  rw [run_sliceAt_slice w ty _ _ _ _ (by rw [he]; exact hu), run_slice_l w ty A m c (by rw [he]; exact hu) k l (by omega) (by omega)]
  cases hq : P.info? e with
  | none => simp [hq] at hs
  | some i =>
    have hi : i.size = 1 := by simpa [hq] using hs
    simp [he, sizeOf, typeInfo, hq, hi, sliced, cutAddr, Result.andThen]
theorem run_cut2 {P : Program} (ty e : TypeId) (hu : P.underlying ty = some (.slice e)) (hs : (P.info? e).map (·.size) = some 1) (w : World) (A : Option Addr) (m c : Nat) (k k' : IntKind) (l h : Nat) (hlh : l ≤ h) (hc : h ≤ c) :
    (Instr.sliceAt ty (.slice A m c) (some (.int k l)) (some (.int k' h)) none).run P w = .ok (.slice (cutAddr A c l) (h - l) (c - l)) w := by
  have he : P.elem ty = e := by simp [Program.elem, hu]
  rw [run_sliceAt_slice w ty _ _ _ _ (by rw [he]; exact hu), run_slice_lh w ty A m c (by rw [he]; exact hu) k k' l h (by omega) (by omega) (by omega)]
  cases hq : P.info? e with
  | none => simp [hq] at hs
  | some i =>
    have hi : i.size = 1 := by simpa [hq] using hs
    simp [he, sizeOf, typeInfo, hq, hi, sliced, cutAddr, Result.andThen]
theorem wpList_cut {P : Program} {w : World} {ops : Array Oper} {rest : List Oper} {o : Oper} {a : Act} {Q : Exit → Act → World → Prop} (hgd : o.guard = none) (ty e : TypeId) (x lo : Operand) (ho : o.op = .slice ty x (some lo) none none)
    (hu : P.underlying ty = some (.slice e)) (hs : (P.info? e).map (·.size) = some 1) {A : Option Addr} {m c : Nat} (hx : a.eval x = .slice A m c) {k : IntKind} {l : Nat} (hl : a.eval lo = .int k l) (hlm : l ≤ m)
    (h : wpList P ops Q rest (a.put o.dst (.slice (cutAddr A c l) (m - l) (c - l))) w) : wpList P ops Q (o :: rest) a w := by
  refine wpList_plain hgd fun K hK => ?_
  have hrun := run_cut ty e hu hs w A m c k l hlm
  unfold Oper.wp
  simp only [execOp, ho, hx, hl, Option.map_some, Option.map_none, Sem.run_bind, hrun, Result.andThen_ok, Sem.run_pure, Oper.upon]
  exact hK _ _ h
/-- The part of a slice from l to h. -/
theorem Ints.cut2 {kd : IntKind} {w : World} {a : Option Addr} {n cap : Nat} {xs : List Int} (hi : Ints kd w a n cap xs) (l h : Nat) (hlh : l ≤ h) (hn : h ≤ n) : Ints kd w (cutAddr a cap l) (h - l) (cap - l) ((xs.drop l).take (h - l)) := by
  have h1 := hi.cutAt l (by omega)
  have hc := hi.2.1
  refine ⟨by rw [List.length_take, List.length_drop, hi.1]; omega, by omega, ?_⟩
  by_cases h0 : h - l = 0
  · exact .inl h0
  · obtain ⟨b, off, ha, hcell⟩ := h1.at (by omega)
    refine .inr ⟨b, off, ha, fun i hil => ?_⟩
    rw [hcell i (by omega)]
    congr 2
    rw [List.getD_eq_getElem?_getD, List.getD_eq_getElem?_getD, List.getElem?_take_of_lt hil]

/-- w' is w, some answers drawn later. -/
def Draws (w w' : World) : Prop := ∃ n, w' = w.drewN n
theorem Draws.refl (w : World) : Draws w w := ⟨0, rfl⟩
theorem Draws.drew {w w' : World} (h : Draws w w') : Draws w w'.drew := by
  obtain ⟨n, rfl⟩ := h
  exact ⟨n + 1, rfl⟩
theorem Draws.below {w w' : World} (h : Draws w w') (B : Nat) : Below B w w' := by
  obtain ⟨n, rfl⟩ := h
  exact ⟨rfl, rfl, rfl, Nat.le_refl _, fun _ _ => rfl⟩
theorem Draws.heap {w w' : World} (h : Draws w w') : w'.heap = w.heap := by
  obtain ⟨n, rfl⟩ := h
  rfl
theorem Draws.blk {w w' : World} {g : Nat} {t : TypeId} {cs : List Value} (h : Draws w w') (hb : Blk w g t cs) : Blk w' g t cs := by
  obtain ⟨n, rfl⟩ := h
  exact hb

/-- An array or a struct, by its type's description. -/
def IsRow (P : Program) (ty : TypeId) (n : Nat) : Prop := (∃ d, P.underlying ty = some d ∧ d.isRow = true) ∧ (P.info? ty).map (·.size) = some n
theorem IsRow.array {P : Program} {ty e : TypeId} {m n : Nat} (hu : P.underlying ty = some (.array m e)) (hi : (P.info? ty).map (·.size) = some n) : IsRow P ty n := ⟨⟨_, hu, rfl⟩, hi⟩
theorem IsRow.struct {P : Program} {ty : TypeId} {fs : Array Field} {n : Nat} (hu : P.underlying ty = some (.struct fs)) (hi : (P.info? ty).map (·.size) = some n) : IsRow P ty n := ⟨⟨_, hu, rfl⟩, hi⟩
/-- What a new variable of this type holds. -/
def Zero (P : Program) (ty : TypeId) (zs : List Value) : Prop := (P.info? ty).bind (fun i => i.zero) = some (.agg zs.toArray)
/-- A new variable of many cells. -/
theorem wpList_alloc_blk {P : Program} {w : World} {ops : Array Oper} {rest : List Oper} {o : Oper} {a : Act} {Q : Exit → Act → World → Prop} (hgd : o.guard = none) (ty : TypeId) (ho : o.op = .alloc ty) {zs : List Value} (hz : Zero P ty zs)
    (h : wpList P ops Q rest (a.put o.dst (.pointer (some ⟨w.heap.size, 0, none⟩))) (w.alloc (.cells zs.toArray ty))) : wpList P ops Q (o :: rest) a w := by
  refine wpList_plain hgd fun K hK => ?_
  unfold Zero at hz
  cases hq : P.info? ty with
  | none => simp [hq] at hz
  | some i =>
    have hz' : i.zero = some (.agg zs.toArray) := by simpa [hq] using hz
    unfold Oper.wp
    simp only [execOp, ho]
    simp [Instr.alloc, zeroValue, typeInfo, hq, hz', newVar, newRow, Value.cells, newObj]
    exact hK _ _ h
/-- All cells of a block, as one value. -/
theorem wpList_load_blk {P : Program} {w : World} {ops : Array Oper} {rest : List Oper} {o : Oper} {a : Act} {Q : Exit → Act → World → Prop} (hgd : o.guard = none) (ty : TypeId) (x : Operand) (ho : o.op = .load ty x)
    {g : Nat} (hx : a.eval x = .pointer (some ⟨g, 0, none⟩)) {t : TypeId} {cs : List Value} (hg : Blk w g t cs) {n : Nat} (hr : IsRow P ty n) (hn : cs.length = n)
    (h : wpList P ops Q rest (a.put o.dst (.agg cs.toArray)) w) : wpList P ops Q (o :: rest) a w := by
  subst hn
  obtain ⟨⟨d, hu, hd⟩, hi⟩ := hr
  exact wpList_load_mid hgd ty x ho g 0 hx cs d (hg.range 0 cs (fun j v hj => by simpa using hj)) hu hd (by simpa using hi) h
/-- The cells of a part of a block, as one value. -/
theorem wpList_load_part {P : Program} {w : World} {ops : Array Oper} {rest : List Oper} {o : Oper} {a : Act} {Q : Exit → Act → World → Prop} (hgd : o.guard = none) (ty : TypeId) (x : Operand) (ho : o.op = .load ty x)
    {g off : Nat} (hx : a.eval x = .pointer (some ⟨g, off, none⟩)) (cs : List Value) (hg : w.rangeAt g off cs) (hr : IsRow P ty cs.length)
    (h : wpList P ops Q rest (a.put o.dst (.agg cs.toArray)) w) : wpList P ops Q (o :: rest) a w := by
  obtain ⟨⟨d, hu, hd⟩, hi⟩ := hr
  exact wpList_load_mid hgd ty x ho g off hx cs d hg hu hd hi h
/-- A value of many cells laid into a block, from place off on. -/
theorem wpList_store_part {P : Program} {w : World} {ops : Array Oper} {rest : List Oper} {o : Oper} {a : Act} {Q : Exit → Act → World → Prop} (hgd : o.guard = none) (ty : TypeId) (x y : Operand) (ho : o.op = .store ty x y)
    {g off : Nat} {t : TypeId} {cur cs : List Value} (hx : a.eval x = .pointer (some ⟨g, off, none⟩)) (hy : a.eval y = .agg cs.toArray) (hg : Blk w g t cur) (hr : IsRow P ty cs.length) (hf : off + cs.length ≤ cur.length) (h1 : ∀ v ∈ cs, v.oneCell' = true)
    (h : ∀ w', Blk w' g t (overV cur off cs) → w.grownBy w' (some g) → wpList P ops Q rest (a.put o.dst undef) w') : wpList P ops Q (o :: rest) a w := by
  obtain ⟨⟨d, hu, hd⟩, hi⟩ := hr
  refine wpList_store_mid hgd ty x y ho g off cs.toArray hx hy (hg.there off _ (by simpa using hf)) (by simpa using hi) (all_oneCell_toArray h1) ?_
  exact h _ (hg.setCells cs off hf) (grown_setCells _ _ _ _)
theorem overV_all (cur cs : List Value) (h : cs.length = cur.length) : overV cur 0 cs = cs := by
  unfold overV; rw [List.take_zero, List.drop_of_length_le (by omega)]; simp
/-- A result that lies in a block of its own. -/
theorem results_blk {P : Program} {fn : Func} {p : Tmp} {ty : TypeId} (h : fn.results = #[.cell p ty]) {tmps : Array Value} {w : World} {g : Nat} {t : TypeId} {cs : List Value}
    (hp : tmps.getD p undef = .pointer (some ⟨g, 0, none⟩)) (hg : Blk w g t cs) (hr : IsRow P ty cs.length) : (results fn tmps).run P w = .ok (.agg cs.toArray) w := by
  obtain ⟨⟨d, hu, hd⟩, hi⟩ := hr
  have := run_loadVar_mid (P := P) w g 0 ty cs d (hg.range 0 cs (fun j v hj => by simpa using hj)) hu hd hi
  have hp' : tmps[p]?.getD undef = .pointer (some ⟨g, 0, none⟩) := by simpa using hp
  simp [results, h, hp', asAddr, this]
end Go.Proofs.YtinmmhbiomcdoaaGreatDoor

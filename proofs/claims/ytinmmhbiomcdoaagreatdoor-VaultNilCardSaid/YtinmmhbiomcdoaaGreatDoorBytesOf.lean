/-
  A string as bytes ('[]byte(s)'), and a byte appended behind it. No Go function is spoken of here.
-/
import Derived.Test.YtinmmhbiomcdoaaGreatDoorSteps
import Derived.Lib.ConvBytes
import Derived.ArgAppend
namespace Go.Proofs.YtinmmhbiomcdoaaGreatDoor
open Go.RowKit

def numsOf (s : ByteArray) : List Int := s.data.toList.map fun b => (b.toNat : Int)
theorem numsOf_length (s : ByteArray) : (numsOf s).length = s.size := by unfold numsOf; rw [List.length_map, Array.length_toList]; rfl
theorem numsOf_range (s : ByteArray) : ∀ x ∈ numsOf s, 0 ≤ x ∧ x < 256 := by
  intro x hx
  obtain ⟨b, _, rfl⟩ := List.mem_map.1 hx
  have := b.toNat_lt
  omega
/-- A block that a conversion has made: its cells, the mark behind them. -/
structure SRow (w : World) (g : Nat) (e : TypeId) (n cap : Nat) (xs : List Int) : Prop where
  row : ∃ cs, w.heap[g]? = some (.cells cs e (cs.size, cs.size + 1)) ∧ cs.size = cap ∧ ∀ i, i < n → cs[i]? = some (.int .u8 (xs.getD i 0))
  len : xs.length = n
  le : n ≤ cap
theorem cell_of_block {w : World} {g : Nat} {cs : Array Value} {e : TypeId} {fz : Nat × Nat} (h : w.heap[g]? = some (.cells cs e fz)) (i : Nat) : w.cell? ⟨g, i, none⟩ = cs[i]? := by
  simp [World.cell?, h]
theorem SRow.ints {w : World} {g n cap : Nat} {e : TypeId} {xs : List Int} (h : SRow w g e n cap xs) : Ints .u8 w (some ⟨g, 0, none⟩) n cap xs := by
  obtain ⟨⟨cs, h1, h2, h3⟩, hl, hle⟩ := h
  exact ⟨hl, hle, .inr ⟨g, 0, rfl, fun i hi => by rw [Nat.zero_add, cell_of_block h1]; exact h3 i hi⟩⟩
theorem SRow.lt {w : World} {g n cap : Nat} {e : TypeId} {xs : List Int} (h : SRow w g e n cap xs) : g < w.heap.size := by
  obtain ⟨⟨cs, h1, _⟩, _⟩ := h
  by_cases hlt : g < w.heap.size
  · exact hlt
  · rw [Array.getElem?_eq_none (by omega)] at h1; cases h1
theorem SRow.alloc {w : World} {g n cap : Nat} {e : TypeId} {xs : List Int} (h : SRow w g e n cap xs) (o : Obj) : SRow (w.alloc o) g e n cap xs := by
  have hlt := h.lt
  obtain ⟨⟨cs, h1, h2⟩, h3, h4⟩ := h
  exact ⟨⟨cs, (Below.heap_alloc w o g hlt).trans h1, h2⟩, h3, h4⟩

section
variable {P : Program} {w : World}
theorem wpList_bytes {ops : Array Oper} {rest : List Oper} {o : Oper} {a : Act} {Q : Exit → Act → World → Prop} (hgd : o.guard = none) (src dst e : TypeId) (x : Operand) (ho : o.op = .convert src dst x)
    (hs : P.underlying src = some .string) (hd : P.underlying dst = some (.slice e)) (he : P.underlying e = some (.int .u8)) {s : ByteArray} (hx : a.eval x = .string s)
    (h : ∀ w' cap, SRow w' w.heap.size e s.size cap (numsOf s) → Below w.heap.size w w' → wpList P ops Q rest (a.put o.dst (.slice (some ⟨w.heap.size, 0, none⟩) s.size cap)) w') : wpList P ops Q (o :: rest) a w := by
  refine wpList_plain hgd fun K hK => ?_
  have hrun := Lib.run_convert_string_bytes (P := P) w src dst e s hs hd he
  have hge : s.size ≤ grownCap w s.size 0 e := grownCap_ge w s.size 0 e
  unfold Oper.wp
  simp only [execOp, ho, hx, Sem.run_bind, hrun, Result.andThen_ok, Sem.run_pure, Oper.upon]
  have hsz : (Lib.bytesCells w e s).size = grownCap w s.size 0 e := by
    unfold Lib.bytesCells
    rw [Array.size_append, Array.size_map, Array.size_replicate]
    show s.size + _ = _
    omega
  refine hK _ _ (h _ _ ⟨⟨_, Lib.bytesWorld_at_new w e s, hsz, fun i hi => ?_⟩, numsOf_length s, hge⟩ ⟨rfl, rfl, rfl, by rw [Lib.bytesWorld_size]; omega, fun k hk => Lib.bytesWorld_at_old w e s k hk⟩)
  have hc := Lib.bytesWorld_cell w e s i hi
  rw [cell_of_block (Lib.bytesWorld_at_new w e s)] at hc
  rw [hc]
  congr 2
  have hi' : i < s.data.size := hi
  rw [List.getD_eq_getElem?_getD, List.getD_eq_getElem?_getD, numsOf, List.getElem?_map, Array.getElem?_toList, Array.getElem?_eq_getElem hi']
  rfl
theorem wpList_append_sbyte {ops : Array Oper} {rest : List Oper} {o : Oper} {a : Act} {Q : Exit → Act → World → Prop} (hgd : o.guard = none) (s x : Operand) (t : TypeId)
    (ho : o.op = .call { callee := .builtin .append, args := #[s, x], argTypes := #[t, t] })
    (e : TypeId) (i : TypeInfo) (z : Value) (ht : P.underlying t = some (.slice e)) (hi : P.info? e = some i) (hz : i.zero = some z) (hsize : i.size = 1) (hby : i.bytes = 1) (hzs : z.cells.size = 1)
    {g n cap : Nat} {xs : List Int} (hg : SRow w g e n cap xs) (hs : a.eval s = .slice (some ⟨g, 0, none⟩) n cap)
    {B : Nat} {y : Int} (hx : a.eval x = .slice (some ⟨B, 0, none⟩) 1 1) (hy : w.cell? ⟨B, 0, none⟩ = some (.int .u8 y)) (hn : n ≤ 1000000)
    (h : ∀ A c w', Ints .u8 w' A (n + 1) c (xs ++ [y]) → (∀ base, base ≤ g → base ≤ w.heap.size → Below base w w') → wpList P ops Q rest (a.put o.dst (.slice A (n + 1) c)) w') : wpList P ops Q (o :: rest) a w := by
  obtain ⟨⟨cs, h1, h2, h3⟩, hl, hle⟩ := hg
  refine wpList_append_arg w hgd s x t ho e i z 1 1 ht hi hz hsize hby hzs (by decide) g 0 n cap (xs.map (Value.int .u8)) hs (by simp [hl]) (fun j u hu => ?_) ⟨B, 0, none⟩ 1 1 [.int .u8 y] hx rfl (fun j u hu => ?_) (by intro u hu; simp at hu; subst hu; rfl) (fun hr j hj => ?_) (by unfold maxLen; omega) (by omega) (fun hr => ?_) (fun _ v' w' hown hgr => ?_)
  · have hj : j < n := by have := (List.getElem?_eq_some_iff.1 hu).1; simpa [hl] using this
    rw [Nat.zero_add, cell_of_block h1, h3 j hj, ← hu, getElem?_mapInt _ _ _ (by omega)]
  · have hj : j = 0 := by have := (List.getElem?_eq_some_iff.1 hu).1; simpa using this
    subst hj
    have e1 : (Value.int .u8 y) = u := by simpa using hu
    rw [← e1]
    simpa [Addr.add] using hy
  · have hj0 : j = 0 := by simpa using hj
    subst hj0
    have hlt : n < cs.size := by omega
    refine ⟨?_, ?_⟩
    · rw [cell_of_block h1]; simp [hlt]
    · simp [World.frozen?, h1]; omega
  · have e1 : w.setCells g (0 + n * 1) [.int .u8 y] = w.setCell ⟨g, n, none⟩ (.int .u8 y) := by simp [World.setCells]
    rw [e1]
    have hlt : n < cs.size := by omega
    have hh : (w.setCell ⟨g, n, none⟩ (.int .u8 y)).heap[g]? = some (.cells (cs.setIfInBounds n (.int .u8 y)) e (cs.size, cs.size + 1)) := by
      simp [World.setCell, Array.getElem?_modify, h1]
    refine h (some ⟨g, 0, none⟩) cap _ ⟨by simp [hl], hr, .inr ⟨g, 0, rfl, fun j hj => ?_⟩⟩ (fun base hb _ => (Below.refl _ _).setCell hb _)
    rw [Nat.zero_add, cell_of_block hh, Array.getElem?_setIfInBounds]
    by_cases hjn : n = j
    · subst hjn
      rw [if_pos rfl, if_pos hlt, List.getD_eq_getElem?_getD, List.getElem?_append_right (by omega), hl, Nat.sub_self]
      rfl
    · rw [if_neg hjn, h3 j (by omega)]
      congr 2
      rw [List.getD_eq_getElem?_getD, List.getD_eq_getElem?_getD, List.getElem?_append_left (by omega)]
  · have e1 : xs.map (Value.int .u8) ++ [.int .u8 y] = (xs ++ [y]).map (Value.int .u8) := by simp
    rw [e1] at hown
    obtain ⟨A, c, rfl, hI⟩ := Ints.of_owns hown
    exact h A c w' hI (fun base _ hb => (Below.refl _ _).grown hgr hb (by simp))
end
end Go.Proofs.YtinmmhbiomcdoaaGreatDoor

/-
  Slices of numbers in memory: 'Ints': a slice whose elements are known; it stays what it is where only new memory was written; a row that the call owns reads so; what a conversion to a string makes of bytes. Words as bytes and back: plain facts on lists. No Go function is spoken of here.
-/
import Derived.WalkKit
import Derived.WalkSpells
import Derived.Lib.Hide
import Derived.Deep.AppendLies
import Derived.Laws.BytesArg
namespace Go.Proofs.YtinmmhbiomcdoaaGreatDoor
open Go.RowKit

/-- The slice with this address, length and capacity holds the numbers xs. -/
def Ints (k : IntKind) (w : World) (a : Option Addr) (n cap : Nat) (xs : List Int) : Prop :=
  xs.length = n ∧ n ≤ cap ∧ (n = 0 ∨ ∃ b off, a = some ⟨b, off, none⟩ ∧ ∀ i, i < n → w.cell? ⟨b, off + i, none⟩ = some (.int k (xs.getD i 0)))

theorem Ints.len {k : IntKind} {w : World} {a : Option Addr} {n cap : Nat} {xs : List Int} (h : Ints k w a n cap xs) : xs.length = n := h.1

/-- Old memory is as it was: so is what stands in it. -/
theorem Ints.keep {k : IntKind} {w w' : World} {a : Option Addr} {n cap : Nat} {xs : List Int} (h : Ints k w a n cap xs) (hb : Below w.heap.size w w') : Ints k w' a n cap xs := by
  refine ⟨h.1, h.2.1, ?_⟩
  rcases h.2.2 with h0 | ⟨b, off, ha, hc⟩
  · exact .inl h0
  · refine .inr ⟨b, off, ha, fun i hi => ?_⟩
    rw [hb.cell (World.block_lt_of_cell? w _ (hc i hi))]
    exact hc i hi

/-- As above, said with the block's number at hand: what lies below B. -/
def IntsIn (B : Nat) (k : IntKind) (w : World) (a : Option Addr) (n cap : Nat) (xs : List Int) : Prop := Ints k w a n cap xs ∧ ∀ x, a = some x → 0 < n → x.block < B

theorem Ints.isIn {k : IntKind} {w : World} {a : Option Addr} {n cap : Nat} {xs : List Int} (h : Ints k w a n cap xs) : IntsIn w.heap.size k w a n cap xs := by
  refine ⟨h, fun x hx hn => ?_⟩
  rcases h.2.2 with h0 | ⟨b, off, ha, hc⟩
  · omega
  · rw [ha] at hx; injection hx with hx; subst hx
    have := World.block_lt_of_cell? w _ (hc 0 hn)
    simpa using this

theorem IntsIn.keep {B : Nat} {k : IntKind} {w w' : World} {a : Option Addr} {n cap : Nat} {xs : List Int} (h : IntsIn B k w a n cap xs) (hb : Below B w w') : IntsIn B k w' a n cap xs := by
  refine ⟨⟨h.1.1, h.1.2.1, ?_⟩, h.2⟩
  rcases h.1.2.2 with h0 | ⟨b, off, ha, hc⟩
  · exact .inl h0
  · by_cases hn : n = 0
    · exact .inl hn
    · refine .inr ⟨b, off, ha, fun i hi => ?_⟩
      rw [hb.cell (p := ⟨b, off + i, none⟩) (show b < B from h.2 _ ha (by omega))]
      exact hc i hi

/-- The address and the cells, where there is an element. -/
theorem Ints.at {k : IntKind} {w : World} {a : Option Addr} {n cap : Nat} {xs : List Int} (h : Ints k w a n cap xs) (hn : 0 < n) :
    ∃ b off, a = some ⟨b, off, none⟩ ∧ ∀ i, i < n → w.cell? ⟨b, off + i, none⟩ = some (.int k (xs.getD i 0)) := by
  rcases h.2.2 with h0 | h0
  · omega
  · exact h0

/-- A slice that came in, opened: its elements. -/
theorem Ints.of_open {k : IntKind} {w : World} {x : Addr} {n cap : Nat} {zs : List Int} (hl : n ≤ cap) (hz : zs.length = cap) (hc : ∀ i, i < zs.length → w.cell? (x.add i) = some (.int k (zs.getD i 0))) : Ints k w (some x) n cap (zs.take n) := by
  refine ⟨by rw [List.length_take]; omega, hl, ?_⟩
  by_cases h0 : n = 0
  · exact .inl h0
  · obtain ⟨b, off, spot⟩ := x
    have hc0 := hc 0 (by omega)
    have hspot : spot = none := by simpa [Addr.add] using World.cell?_spot hc0
    subst hspot
    refine .inr ⟨b, off, rfl, fun i hi => ?_⟩
    have h := hc i (by omega)
    have hadd : (⟨b, off, none⟩ : Addr).add i = ⟨b, off + i, none⟩ := by unfold Addr.add; split <;> simp_all
    rw [hadd] at h
    rw [h]; congr 2
    rw [List.getD_eq_getElem?_getD, List.getD_eq_getElem?_getD, List.getElem?_take_of_lt hi]

/-- What the call owns reads as its numbers. -/
theorem Ints.of_owns {k : IntKind} {w : World} {B : Nat} {e : TypeId} {v : Value} {n : Nat} {xs : List Int} (h : w.ownsRow B e 1 v n (xs.map (Value.int k))) :
    ∃ a cap, v = .slice a n cap ∧ Ints k w a n cap xs := by
  have hl : xs.length = n := by have := h.1; simpa using this
  rcases h.2 with ⟨hv, hn⟩ | ⟨g, cap, cur, hv, _, _, hnc, _, _, _⟩
  · exact ⟨none, 0, by rw [hv, hn], hl, by omega, .inl hn⟩
  · refine ⟨some ⟨g, 0, none⟩, cap, hv, hl, hnc, .inr ⟨g, 0, rfl, fun i hi => ?_⟩⟩
    subst hv
    rw [Nat.zero_add, h.cellAt i (by omega)]
    rw [List.getElem?_map, List.getD_eq_getElem?_getD, List.getElem?_eq_getElem (by omega)]
    simp

/-- A slice of bytes as a string. -/
theorem Ints.string {P : Program} {w : World} {a : Option Addr} {n cap : Nat} {xs : List Int} (h : Ints .u8 w a n cap xs) (src dst e : TypeId) (hs : P.underlying src = some (.slice e)) (he : P.underlying e = some (.int .u8)) (hd : P.underlying dst = some .string) :
    (convert src dst (.slice a n cap)).run P w = .ok (.string (strOfNums xs)) w := by
  rcases h.2.2 with h0 | ⟨b, off, rfl, hc⟩
  · subst h0
    have hx : xs = [] := List.length_eq_zero_iff.1 h.1
    subst hx
    cases a with
    | none => exact run_convert_bytes_nil w src e hs he 0 cap dst hd
    | some a =>
      rw [run_convert_bytes_string w src dst e _ 0 cap hs he hd, run_bytesToString w a 0 cap [] (by simpa using run_loadCells_list (P := P) w a [] (by simp))]
      rfl
  · exact run_convert_bytes_arg w src e hs he b off n cap xs h.1 hc dst hd

theorem Ints.string' {P : Program} {w : World} {a : Option Addr} {n cap : Nat} {xs : List Int} (h : Ints .u8 w a n cap xs) (src dst e : TypeId) (hs : P.underlying src = some (.slice e)) (he : P.underlying e = some (.int .u8)) (hd : P.underlying dst = some .string) {w' : World} (hb : Below w.heap.size w w') :
    (convert src dst (.slice a n cap)).run P w' = .ok (.string (strOfNums xs)) w' := (h.keep hb).string src dst e hs he hd

theorem fold_snoc {α β : Type} (f : β → α → β) (z : β) (l : List α) (k : Nat) (d : α) (h : k < l.length) : (l.take (k + 1)).foldl f z = f ((l.take k).foldl f z) (l.getD k d) := by
  rw [List.take_succ_eq_append_getElem h, List.foldl_append]; simp [List.getD_eq_getElem?_getD, List.getElem?_eq_getElem h]

/-! ### Words as bytes, and back -/
def bytes4 (x : Int) : List Int := [x / 16777216, x / 65536 % 256, x / 256 % 256, x % 256]
def bytesOf (xs : List Int) : List Int := xs.flatMap bytes4
theorem bytesOf_nil : bytesOf [] = [] := rfl
theorem bytesOf_cons (x : Int) (xs : List Int) : bytesOf (x :: xs) = bytes4 x ++ bytesOf xs := by simp [bytesOf]
theorem bytesOf_length (xs : List Int) : (bytesOf xs).length = 4 * xs.length := by
  induction xs with
  | nil => rfl
  | cons x xs ih => rw [bytesOf_cons, List.length_append, ih]; simp [bytes4]; omega
theorem bytesOf_snoc (xs : List Int) (k : Nat) (h : k < xs.length) : bytesOf (xs.take (k + 1)) = bytesOf (xs.take k) ++ bytes4 (xs.getD k 0) := by
  rw [List.take_succ_eq_append_getElem h]; simp only [bytesOf, List.flatMap_append, List.flatMap_cons, List.flatMap_nil, List.append_nil, List.getD_eq_getElem?_getD, List.getElem?_eq_getElem h, Option.getD_some]
def word4 (a b c d : Int) : Int := a * 16777216 + b * 65536 + c * 256 + d
def wordsOf : List Int → List Int
  | a :: b :: c :: d :: r => word4 a b c d :: wordsOf r
  | _ => []
theorem wordsOf_bytesOf (xs : List Int) (h : ∀ x ∈ xs, 0 ≤ x ∧ x < 4294967296) : wordsOf (bytesOf xs) = xs := by
  induction xs with
  | nil => rfl
  | cons x xs ih =>
    have hx := h x (by simp)
    rw [bytesOf_cons]
    show word4 _ _ _ _ :: wordsOf (bytesOf xs) = _
    rw [ih fun y hy => h y (by simp [hy])]
    congr 1
    unfold word4; omega
theorem bytesOf_wordsOf : ∀ (bs : List Int), bs.length % 4 = 0 → (∀ x ∈ bs, 0 ≤ x ∧ x < 256) → bytesOf (wordsOf bs) = bs
  | [], _, _ => rfl
  | [_], h, _ => by simp at h
  | [_, _], h, _ => by simp at h
  | [_, _, _], h, _ => by simp at h
  | a :: b :: c :: d :: r, h, hr => by
    have ha := hr a (by simp)
    have hb := hr b (by simp)
    have hc := hr c (by simp)
    have hd := hr d (by simp)
    show bytesOf (word4 a b c d :: wordsOf r) = _
    rw [bytesOf_cons, bytesOf_wordsOf r (by simp at h ⊢; omega) fun y hy => hr y (by simp [hy])]
    simp only [bytes4, word4, List.cons_append, List.nil_append, List.cons.injEq, and_true]
    omega
theorem wordsOf_length : ∀ (bs : List Int), (wordsOf bs).length = bs.length / 4
  | [] => rfl
  | [_] => by simp [wordsOf]
  | [_, _] => by simp [wordsOf]
  | [_, _, _] => by simp [wordsOf]
  | a :: b :: c :: d :: r => by
    show (word4 a b c d :: wordsOf r).length = _
    rw [List.length_cons, wordsOf_length r]; simp; omega
theorem wordsOf_append : ∀ (l : List Int) (a b c d : Int), l.length % 4 = 0 → wordsOf (l ++ [a, b, c, d]) = wordsOf l ++ [word4 a b c d]
  | [], _, _, _, _, _ => rfl
  | [_], _, _, _, _, h => by simp at h
  | [_, _], _, _, _, _, h => by simp at h
  | [_, _, _], _, _, _, _, h => by simp at h
  | x :: y :: z :: t :: r, a, b, c, d, h => by
    show word4 x y z t :: wordsOf (r ++ [a, b, c, d]) = word4 x y z t :: (wordsOf r ++ [word4 a b c d])
    rw [wordsOf_append r a b c d (by simp at h ⊢; omega)]
theorem take_four (l : List Int) (k : Nat) (h : 4 * k + 4 ≤ l.length) : l.take (4 * (k + 1)) = l.take (4 * k) ++ [l.getD (4 * k) 0, l.getD (4 * k + 1) 0, l.getD (4 * k + 2) 0, l.getD (4 * k + 3) 0] := by
  rw [show 4 * (k + 1) = 4 * k + 1 + 1 + 1 + 1 from by omega]
  rw [List.take_succ_eq_append_getElem (by omega), List.take_succ_eq_append_getElem (by omega), List.take_succ_eq_append_getElem (by omega), List.take_succ_eq_append_getElem (by omega)]
  simp only [List.append_assoc, List.cons_append, List.nil_append, Option.getD_some, List.getD_eq_getElem?_getD, List.getElem?_eq_getElem (show 4 * k < l.length by omega), List.getElem?_eq_getElem (show 4 * k + 1 < l.length by omega), List.getElem?_eq_getElem (show 4 * k + 2 < l.length by omega), List.getElem?_eq_getElem (show 4 * k + 3 < l.length by omega)]
theorem wordsOf_snoc (l : List Int) (k : Nat) (h : 4 * k + 4 ≤ l.length) : wordsOf (l.take (4 * (k + 1))) = wordsOf (l.take (4 * k)) ++ [word4 (l.getD (4 * k) 0) (l.getD (4 * k + 1) 0) (l.getD (4 * k + 2) 0) (l.getD (4 * k + 3) 0)] := by
  rw [take_four l k h, wordsOf_append _ _ _ _ _ (by rw [List.length_take]; omega)]
theorem getD_range {xs : List Int} {p : Int → Prop} (h : ∀ x ∈ xs, p x) (i : Nat) (hi : i < xs.length) : p (xs.getD i 0) := by
  rw [List.getD_eq_getElem?_getD, List.getElem?_eq_getElem hi]; exact h _ (List.getElem_mem hi)
end Go.Proofs.YtinmmhbiomcdoaaGreatDoor

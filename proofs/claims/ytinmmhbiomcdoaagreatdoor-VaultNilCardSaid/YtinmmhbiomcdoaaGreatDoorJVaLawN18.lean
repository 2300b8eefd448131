/-
  Texts of stages that were proved on their own, joined: RdIds, RdSame. Each begins with its own words.
-/
import Derived.Test.YtinmmhbiomcdoaaGreatDoorJVaLawN0
import Derived.Great.BuildSlice
import Derived.Test.YtinmmhbiomcdoaaGreatDoorJVaLawN5

/-
  The document's own ids (layer 9). New memory alone is written. Conditions: bytes below 256, at most a million; the place is within them.
-/
namespace Go.Proofs.YtinmmhbiomcdoaaGreatDoor
open Go.RowKit

theorem fold_set9 (off : Nat) : ∀ (X : List Value) (s : Nat) (L : List Value), off + s + X.length ≤ L.length →
    (X.zipIdx s).foldl (fun (cs : Array Value) (p : Value × Nat) => cs.setIfInBounds (off + p.2) p.1) L.toArray = (L.take (off + s) ++ (X ++ L.drop (off + s + X.length))).toArray
  | [], s, L, _ => by simp
  | x :: X, s, L, h => by
    rw [List.zipIdx_cons, List.foldl_cons, List.setIfInBounds_toArray]
    rw [fold_set9 off X (s + 1) (L.set (off + s) x) (by rw [List.length_set]; simp only [List.length_cons] at h; omega)]
    congr 1
    simp only [List.length_cons] at h ⊢
    have h1 : (L.set (off + s) x).take (off + (s + 1)) = L.take (off + s) ++ [x] := by
      rw [show off + (s + 1) = off + s + 1 by omega, List.take_add_one, List.take_set_of_le (Nat.le_refl _), List.getElem?_set_self (by omega)]
      rfl
    have h2 : (L.set (off + s) x).drop (off + (s + 1) + X.length) = L.drop (off + s + (X.length + 1)) := by
      rw [List.drop_set_of_lt (by omega), show off + (s + 1) + X.length = off + s + (X.length + 1) by omega]
    rw [h1, h2]
    simp
theorem fill_one9 (place : Nat → Option (Nat × Nat)) (L : List Value) (i off size : Nat) (v : Value) (X : List Value) (rest : List (Nat × Value)) (hp : place i = some (off, size)) (hv : v.cells = X.toArray) (hs : X.length = size) (hf : off + X.length ≤ L.length) :
    Instr.fill place L.toArray ((i, v) :: rest) = Instr.fill place (L.take off ++ (X ++ L.drop (off + X.length))).toArray rest := by
  subst hs
  have h := fold_set9 off X 0 L (by omega)
  rw [Nat.add_zero] at h
  rw [Instr.fill, hp, hv, ← h]
  simp only [List.size_toArray, ne_eq, not_true_eq_false, decide_false, Bool.false_or, Array.zipIdx_toArray]
  rw [if_neg (by simp; omega)]
  simp
/-- A slice of one row: what it is built of. -/
theorem fill_row (place : Nat → Option (Nat × Nat)) (L XS : List Value) (n : Nat) (hp : place 0 = some (0, n)) (hX : XS.length = n) (hL : L.length = n) : Instr.fill place L.toArray [(0, .agg XS.toArray)] = some XS.toArray := by
  rw [fill_one9 place L 0 0 n (.agg XS.toArray) XS [] hp rfl hX (by omega), Instr.fill]
  rw [List.take_zero, List.nil_append, Nat.zero_add, hX, List.drop_of_length_le (by omega), List.append_nil]
theorem fill_id (i0 : TypeInfo) (z : Value) (hs : i0.size = 32) (XS : List Value) (hX : XS.length = 32) (ps : List (Nat × Value)) (hps : ps = [(0, .agg XS.toArray)]) : Instr.fill (fun i => some (i * i0.size, i0.size)) ((Array.range (1 * i0.size)).map (z.cells[· % z.cells.size]!)) ps = some XS.toArray := by
  rw [hs, hps]
  have h := fill_row (fun i => some (i * 32, 32)) ((Array.range (1 * 32)).map (z.cells[· % z.cells.size]!)).toList XS 32 rfl hX (by simp)
  rw [Array.toArray_toList] at h
  exact h
theorem ids_step (xs : List Int) (p j Q : Nat) (h : p + 32 * j = Q) : ((xs.drop p).take (32 * (j + 1))).map (Value.int .u8) = ((xs.drop p).take (32 * j)).map (Value.int .u8) ++ ((xs.drop Q).take 32).map (Value.int .u8) := by
  subst h
  rw [show 32 * (j + 1) = 32 * j + 32 by omega, List.take_add, List.map_append, List.drop_drop]
theorem own_stay9 {w w' : World} {b : Nat} {e : TypeId} {size : Nat} {v : Value} {n : Nat} {xs : List Value} (h : w.ownsRow b e size v n xs) (hb : Below w.heap.size w w') : w'.ownsRow b e size v n xs :=
  h.kept (grown_of_below hb none) (by cases hv : v.ownBlock <;> simp)
theorem own_far9 {w w' : World} {B g : Nat} {e : TypeId} {size : Nat} {v : Value} {n : Nat} {xs : List Value} (h : w.ownsRow B e size v n xs) (hg : w.grownBy w' (some g)) (hB : g < B) : w'.ownsRow B e size v n xs :=
  h.kept hg (by
    cases hv : v.ownBlock with
    | none => simp
    | some o =>
      have := (h.lt o hv).1
      simp only [ne_eq, Option.some.injEq]
      omega)
theorem add_at9 (b j : Nat) : (⟨b, 0, none⟩ : Addr).add j = ⟨b, j, none⟩ := by unfold Addr.add; split <;> simp_all
theorem own_slice32 {w : World} {base : Nat} {e : TypeId} {size : Nat} {v : Value} {n : Nat} {xs : List Value} (h : w.ownsRow base e size v n xs) : ∃ b c, v = .slice b n c := by
  rcases h.2 with ⟨rfl, rfl⟩ | ⟨g, cap, cur, rfl, _⟩
  · exact ⟨_, _, rfl⟩
  · exact ⟨_, _, rfl⟩
theorem own_low9 {w : World} {B B' : Nat} {e : TypeId} {size : Nat} {v : Value} {n : Nat} {xs : List Value} (h : w.ownsRow B e size v n xs) (hB : B' ≤ B) : w.ownsRow B' e size v n xs := by
  refine ⟨h.1, ?_⟩
  rcases h.2 with h0 | ⟨g, cap, cur, hv, hb, hr⟩
  · exact .inl h0
  · exact .inr ⟨g, cap, cur, hv, Nat.le_trans hB hb, hr⟩
theorem wrap_two (a b : Nat) (h : a + b ≤ 100000000) : wrap64 ((a : Int) + (b : Int)) = ((a + b : Nat) : Int) := by unfold wrap64; omega

/-- Place, fault and how many ids, behind Ids(A). -/
def rdIds (n p : Nat) (e A : Int) : Nat × Int × Nat :=
  if e ≠ 0 then (p, e, 0) else if A < 0 then (p, 1, 0) else if (((n - p) / 32 : Nat) : Int) < A then (p, 2, 0) else (p + 32 * A.toNat, 0, A.toNat)
theorem rdIds_le {n p : Nat} (e A : Int) (h : p ≤ n) : (rdIds n p e A).1 ≤ n ∧ 32 * (rdIds n p e A).2.2 ≤ n - p := by
  unfold rdIds
  split
  · exact ⟨h, Nat.zero_le _⟩
  split
  · exact ⟨h, Nat.zero_le _⟩
  split
  · exact ⟨h, Nat.zero_le _⟩
  · exact ⟨by simp only; omega, by simp only; omega⟩

/-- A slice of ids in memory: its bytes, one id behind the other. -/
def IdsAt (w : World) (a : Option Addr) (n cap : Nat) (zs : List Int) : Prop :=
  zs.length = 32 * n ∧ n ≤ cap ∧ (n = 0 ∨ ∃ b off, a = some ⟨b, off, none⟩ ∧ ∀ i, i < 32 * n → w.cell? ⟨b, off + i, none⟩ = some (.int .u8 (zs.getD i 0)))
theorem IdsAt.keep {w w' : World} {a : Option Addr} {n cap : Nat} {zs : List Int} (h : IdsAt w a n cap zs) (hb : Below w.heap.size w w') : IdsAt w' a n cap zs := by
  refine ⟨h.1, h.2.1, ?_⟩
  rcases h.2.2 with h0 | ⟨b, off, ha, hc⟩
  · exact .inl h0
  · exact .inr ⟨b, off, ha, fun i hi => by rw [hb.cell (World.block_lt_of_cell? w _ (hc i hi))]; exact hc i hi⟩
theorem IdsAt.of_owns {w : World} {B : Nat} {e : TypeId} {a : Option Addr} {n cap : Nat} {zs : List Int} (h : w.ownsRow B e 32 (.slice a n cap) n (zs.map (Value.int .u8))) : IdsAt w a n cap zs := by
  have hl : zs.length = 32 * n := by have := h.1; rw [List.length_map] at this; omega
  rcases h.2 with ⟨hv, hn⟩ | ⟨g, cap', cur, hv, _, hg, hnc, _, hsz, htk⟩
  · injection hv with _ _ h3
    exact ⟨hl, by omega, .inl hn⟩
  · injection hv with h1 _ h3
    subst h1; subst h3
    refine ⟨hl, hnc, .inr ⟨g, 0, rfl, fun i hi => ?_⟩⟩
    rw [Nat.zero_add]
    have h1 : (zs.map (Value.int .u8))[i]? = some (.int .u8 (zs.getD i 0)) := getElem?_mapInt .u8 zs i (by omega)
    rw [← htk, List.getElem?_take_of_lt (by omega)] at h1
    have h2 : cur[i]? = some (.int .u8 (zs.getD i 0)) := by simpa using h1
    rw [cell_of_row w g i cur e (0, 0) hg]
    exact h2
end Go.Proofs.YtinmmhbiomcdoaaGreatDoor

/-
  The document's own comparison of ids (layer 9): of the same bytes it tells that they are the same. Nothing is written. Conditions: at most 40000 ids.
-/
namespace Go.Proofs.YtinmmhbiomcdoaaGreatDoor
open Go.RowKit

theorem sizeU8s : (Tryz.prog.info? 5).map (·.size) = some 1 := by kernel_rfl

theorem ids_part {w : World} {b off n : Nat} {zs : List Int} (hl : zs.length = 32 * n) (hc : ∀ i, i < 32 * n → w.cell? ⟨b, off + i, none⟩ = some (.int .u8 (zs.getD i 0))) (i : Nat) (hi : i < n) :
    w.rangeAt b (off + 32 * i) (((zs.drop (32 * i)).take 32).map (Value.int .u8)) := fun j v hj => by
  have hlt : j < 32 := by
    rcases Nat.lt_or_ge j 32 with h | h
    · exact h
    · rw [List.getElem?_eq_none (by rw [List.length_map, List.length_take]; omega)] at hj; cases hj
  rw [Nat.add_assoc, hc (32 * i + j) (by omega)]
  rw [List.getElem?_map, List.getElem?_take_of_lt hlt, List.getElem?_drop, List.getElem?_eq_getElem (by omega)] at hj
  rw [← hj, List.getD_eq_getElem?_getD, List.getElem?_eq_getElem (by omega)]
  rfl
end Go.Proofs.YtinmmhbiomcdoaaGreatDoor

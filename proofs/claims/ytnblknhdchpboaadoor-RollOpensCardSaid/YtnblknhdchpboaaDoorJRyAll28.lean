/-
  Texts of stages that were proved on their own, joined: FrLawT. Each begins with its own words.
-/
import Derived.Test.YtnblknhdchpboaaDoorJRyAll23
import Derived.Test.YtnblknhdchpboaaDoorShaJoin

/-
  The law FrameTorn: frames one behind the other, and any beginning of one more, are scanned as these frames. New memory alone is written. Conditions: parts and bytes are at most a hundred million.
-/
namespace Go.Proofs.YtnblknhdchpboaaDoor
open Go.RowKit

/-- The bodies that have a frame. -/
def goodL (L : List (List Int)) : List (List Int) := L.filter fun p => decide (1 ≤ p.length)
theorem goodL_snoc (L : List (List Int)) (j : Nat) (hj : j < L.length) : goodL (L.take (j + 1)) = if 1 ≤ (L.getD j []).length then goodL (L.take j) ++ [L.getD j []] else goodL (L.take j) := by
  have e : L.take (j + 1) = L.take j ++ [L[j]] := by rw [List.take_add_one, List.getElem?_eq_getElem hj]; rfl
  have g : L.getD j [] = L[j] := by rw [List.getD_eq_getElem?_getD, List.getElem?_eq_getElem hj]; rfl
  unfold goodL
  rw [e, g, List.filter_append]
  by_cases h : 1 ≤ L[j].length
  · rw [if_pos h, List.filter_cons_of_pos (by simpa using h), List.filter_nil]
  · rw [if_neg h, List.filter_cons_of_neg (by simpa using h), List.filter_nil, List.append_nil]
theorem goodL_len : ∀ L : List (List Int), ((goodL L).map frB).flatten.length ≤ 8 * L.length + L.flatten.length
  | [] => Nat.le_refl _
  | p :: L => by
    have ih := goodL_len L
    unfold goodL at ih ⊢
    by_cases h : 1 ≤ p.length
    · rw [List.filter_cons_of_pos (by simpa using h), List.map_cons, List.flatten_cons, List.flatten_cons, List.length_append, List.length_append, List.length_cons, frB_len]
      omega
    · rw [List.filter_cons_of_neg (by simpa using h), List.flatten_cons, List.length_append, List.length_cons]
      omega
theorem goodL_count (L : List (List Int)) : (goodL L).length ≤ L.length := List.length_filter_le _ _
theorem flat_snoc19 (L : List (List Int)) (p : List Int) : ((L ++ [p]).map frB).flatten = (L.map frB).flatten ++ frB p := by simp
theorem len_mem19 {L : List (List Int)} {p : List Int} (h : p ∈ L) : p.length ≤ L.flatten.length := by
  induction L with
  | nil => cases h
  | cons q L ih =>
    rw [List.flatten_cons, List.length_append]
    rcases List.mem_cons.1 h with rfl | h
    · omega
    · have := ih h; omega
theorem getD_mem19 {L : List (List Int)} {j : Nat} (h : j < L.length) : L.getD j [] ∈ L := by
  rw [List.getD_eq_getElem?_getD, List.getElem?_eq_getElem h]
  exact List.getElem_mem _
/-- A row of another type is left alone. -/
theorem own_other19 {w w' : World} {B1 B2 : Nat} {t1 t2 : TypeId} {v1 v2 : Value} {n1 n2 : Nat} {xs1 xs2 : List Value} (h1 : w.ownsRow B1 t1 1 v1 n1 xs1) (h2 : w.ownsRow B2 t2 1 v2 n2 xs2) (ht : t1 ≠ t2) (hg : w.grownBy w' v2.ownBlock) : w'.ownsRow B1 t1 1 v1 n1 xs1 := by
  refine own_same h1 fun b hb => hg.block b (h1.lt b hb).2 fun e => ?_
  rcases h1.2 with ⟨hv, _⟩ | ⟨g1, _, cur1, hv1, _, hg1, _⟩
  · rw [hv] at hb; cases hb
  rcases h2.2 with ⟨hv, _⟩ | ⟨g2, _, cur2, hv2, _, hg2, _⟩
  · rw [hv] at e; cases e
  rw [hv1] at hb
  rw [hv2] at e
  injection hb with hb
  injection e with e
  have hb' : g1 = b := hb
  have e' : b = g2 := e
  subst hb'
  subst e'
  rw [hg1] at hg2
  injection hg2 with hg2
  injection hg2 with _ hg2 _
  exact ht hg2
/-- What is wanted: slices that came in. -/
def WantO (w w' : World) (B : Nat) (v : Value) (ps : List (List Int)) : Prop := ∃ SL : List Value, w'.ownsRow B 33 1 v ps.length SL ∧ ∀ i, i < ps.length → ∃ a n c, SL[i]? = some (.slice a n c) ∧ Ints .u8 w a n c (ps.getD i [])
theorem WantO.parts {w w' : World} {B : Nat} {v : Value} {ps : List (List Int)} (h : WantO w w' B v ps) (hb : Below w.heap.size w w') : ∃ a c, v = .slice a ps.length c ∧ Parts w' a ps.length c ps := by
  obtain ⟨SL, ho, hx⟩ := h
  exact RowsO.parts (B := B) (E := w.heap.size) ⟨SL, ho, fun i hi => by
    obtain ⟨a, n, c, h1, h2⟩ := hx i hi
    exact ⟨a, n, c, h1, ElemAt.low (h2.keep hb) h2.isIn.2⟩⟩
theorem want_snoc {w : World} {ps : List (List Int)} {SL : List Value} {a : Option Addr} {n c : Nat} {p : List Int} (hl : SL.length = ps.length) (hx : ∀ i, i < ps.length → ∃ a n c, SL[i]? = some (.slice a n c) ∧ Ints .u8 w a n c (ps.getD i [])) (hI : Ints .u8 w a n c p) :
    ∀ i, i < (ps ++ [p]).length → ∃ a' n' c', (SL ++ [Value.slice a n c])[i]? = some (.slice a' n' c') ∧ Ints .u8 w a' n' c' ((ps ++ [p]).getD i []) := by
  intro i hi
  rw [List.length_append, List.length_singleton] at hi
  by_cases hlt : i < ps.length
  · obtain ⟨a', n', c', h1, h2⟩ := hx i hlt
    refine ⟨a', n', c', by rw [List.getElem?_append_left (by omega)]; exact h1, ?_⟩
    rw [List.getD_eq_getElem?_getD, List.getElem?_append_left hlt, ← List.getD_eq_getElem?_getD]
    exact h2
  · obtain rfl : i = ps.length := by omega
    refine ⟨a, n, c, by rw [List.getElem?_append_right (by omega), hl]; simp, ?_⟩
    rw [List.getD_eq_getElem?_getD, List.getElem?_append_right (Nat.le_refl _), Nat.sub_self]
    exact hI
theorem cut_idx19 (t : Int) (L : Nat) (ht : 0 ≤ t ∧ t < 65536) (hL : 1 ≤ L ∧ L ≤ 400) : ∃ k : Nat, wrap64 t = t ∧ t.tmod (L : Int) = (k : Int) ∧ k < L := by
  refine ⟨(t % (L : Int)).toNat, by unfold wrap64; omega, ?_, ?_⟩
  · rw [Int.tmod_eq_emod_of_nonneg ht.1]
    have := Int.emod_nonneg t (show (L : Int) ≠ 0 by omega)
    omega
  · have := Int.emod_nonneg t (show (L : Int) ≠ 0 by omega)
    have := Int.emod_lt_of_pos t (show (0 : Int) < (L : Int) by omega)
    omega
theorem torn_nums19 {n j T F : Nat} {x : Nat} (hf : n + T ≤ 1000) (hj : j ≤ n) (hF : F ≤ 8 * j + T) (hx : x ≤ 1008) : F + x ≤ maxLen ∧ (F + x) * 1 ≤ 140737488355328 ∧ F + x ≤ 1000000000 := by
  unfold maxLen
  omega
theorem torn_cnt19 {n j C : Nat} (hf : n ≤ 1000) (hj : j ≤ n) (hC : C ≤ j) : C + 1 ≤ maxLen ∧ (C + 1) * 24 ≤ 140737488355328 := by
  unfold maxLen
  omega
end Go.Proofs.YtnblknhdchpboaaDoor

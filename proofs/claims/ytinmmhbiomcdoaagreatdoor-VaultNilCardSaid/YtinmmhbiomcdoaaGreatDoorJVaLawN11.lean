/-
  Texts of stages that were proved on their own, joined: RowsIn. Each begins with its own words.
-/
import Derived.Test.YtinmmhbiomcdoaaGreatDoorParts
import Derived.Test.YtinmmhbiomcdoaaGreatDoorRows
import Derived.Deep.Matrix

/-
  A [][]byte that came in, read as data: its parts in memory ('Parts'), each byte a number from 0 to 255; and what a bound on the reading's bulk says of their number and of their bytes in all. No Go function is spoken of here.
-/
namespace Go.Proofs.YtinmmhbiomcdoaaGreatDoor
open Go.ChangeShapes Go.WideShapes Go.RowKit

theorem bulk_one {H : Type} (d : DataW H) : 1 ≤ Rows.uptoBulk d := by
  cases d with
  | lit l => cases l <;> simp [Rows.uptoBulk]
  | nil => simp [Rows.uptoBulk]
  | ptr d => simp [Rows.uptoBulk]
  | slice elems spare => simp [Rows.uptoBulk]
  | agg parts => simp [Rows.uptoBulk]
  | iface t d => simp [Rows.uptoBulk]
  | map entries => simp [Rows.uptoBulk]
  | held h => simp [Rows.uptoBulk]
theorem bulk_length {H : Type} : ∀ l : List (DataW H), l.length ≤ Rows.uptoBulkAll l
  | [] => Nat.zero_le _
  | x :: r => by
    have h1 := bulk_one x
    have h2 := bulk_length r
    simp only [Rows.uptoBulkAll, List.length_cons]; omega
theorem bulk_row {H : Type} (A : Option Addr) (L C : Nat) (zs : List Int) (hz : zs.length = C) (hL : L ≤ C) (hn : A = none → C = 0) : 1 + (zs.take L).length ≤ Rows.uptoBulk (Go.Deep.intRow (H := H) .u8 A L zs) := by
  cases A with
  | none =>
    have h0 := hn rfl
    simp only [Go.Deep.intRow, Rows.uptoBulk, List.length_take]; omega
  | some a =>
    have h1 := bulk_length (lits (H := H) .u8 (zs.take L))
    simp only [lits, List.length_map] at h1
    simp only [Go.Deep.intRow, Rows.uptoBulk, lits] at h1 ⊢
    omega
theorem bulk_rows {H : Type} (D : Nat → DataW H) (P : Nat → List Int) : ∀ l : List Nat, (∀ r ∈ l, 1 + (P r).length ≤ Rows.uptoBulk (D r)) → l.length + (l.map P).flatten.length ≤ Rows.uptoBulkAll (l.map D)
  | [], _ => Nat.zero_le _
  | x :: r, h => by
    have h1 := h x (by simp)
    have h2 := bulk_rows D P r (fun y hy => h y (by simp [hy]))
    simp only [List.map_cons, List.flatten_cons, List.length_append, List.length_cons, Rows.uptoBulkAll]; omega
theorem spot_none {w : World} {a : Addr} {v : Value} (h : w.cell? (a.add 0) = some v) : ∃ b off, a = ⟨b, off, none⟩ := by
  obtain ⟨b, off, spot⟩ := a
  have hs : spot = none := by simpa [Addr.add] using World.cell?_spot h
  subst hs
  exact ⟨b, off, rfl⟩
theorem add_none (b off i : Nat) : (⟨b, off, none⟩ : Addr).add i = ⟨b, off + i, none⟩ := by unfold Addr.add; split <;> simp_all

theorem parts_open {H : Type} {enc : TypeId × Value → H} {P : Program} {w : World} {base : Nat} {held : Bool} {t e q : TypeId} {fuel : Nat} {v : Value} {x : DataW H × List MemPlace}
    (ht : P.underlying t = some (.slice e)) (he : P.underlying e = some (.slice q)) (hq : P.underlying q = some (.int .u8)) (ce : P.cellsOf e = 1) (cq : P.cellsOf q = 1)
    (h : DataW.trod enc P w base (fun _ => true) held fuel t [v] = some x) :
    ∃ (a : Option Addr) (n cap : Nat) (ps : List (List Int)), v = .slice a n cap ∧ Parts w a n cap ps ∧ (∀ p ∈ ps, ∀ y ∈ p, 0 ≤ y ∧ y < 256) ∧ n + ps.flatten.length ≤ Rows.uptoBulk x.1 := by
  rcases Go.Deep.open_int_rows ht he hq ce cq h with ⟨hcs, rfl⟩ | ⟨a, len, cap, A, L, C, Z, hcs, _, hl, _, rfl, hc⟩
  · exact ⟨none, 0, 0, [], by simpa using hcs, parts_nil _ _, by simp, by simp [Rows.uptoBulk]⟩
  · refine ⟨some a, len, cap, (List.range len).map (fun r => (Z r).take (L r)), by simpa using hcs, ⟨by simp, hl, ?_⟩, ?_, ?_⟩
    · by_cases h0 : len = 0
      · exact .inl h0
      · obtain ⟨b, off, rfl⟩ := spot_none (hc 0 (by omega)).1
        refine .inr ⟨b, off, rfl, fun i hi => ?_⟩
        obtain ⟨h1, h2, h3, h4, h5, h6, h7⟩ := hc i (by omega)
        rw [add_none] at h1
        refine ⟨A i, L i, C i, h1, ?_⟩
        have hg : ((List.range len).map (fun r => (Z r).take (L r))).getD i [] = (Z i).take (L i) := by
          rw [List.getD_eq_getElem?_getD, List.getElem?_map, List.getElem?_range hi]; rfl
        rw [hg]
        cases hA : A i with
        | none =>
          have hz := h6 hA
          exact ⟨by rw [List.length_take]; omega, h2, .inl (by omega)⟩
        | some a' => exact Ints.of_open h2 h4 (fun c hc' => (h7 a' hA).2 c (by omega))
    · intro p hp y hy
      obtain ⟨r, hr, rfl⟩ := List.mem_map.1 hp
      have hw := (hc r (by have := List.mem_range.1 hr; omega)).2.2.2.2.1 y (List.mem_of_mem_take hy)
      simp [Lit.wf, IntKind.min, IntKind.max, IntKind.signed, IntKind.bits] at hw
      omega
    · have hb := bulk_rows (fun r => Go.Deep.intRow (H := H) .u8 (A r) (L r) (Z r)) (fun r => (Z r).take (L r)) (List.range len) (fun r hr => by
        obtain ⟨h1, h2, h3, h4, h5, h6, h7⟩ := hc r (by have := List.mem_range.1 hr; omega)
        exact bulk_row _ _ _ _ h4 h2 h6)
      rw [List.length_range] at hb
      simp only [Rows.uptoBulk]
      omega
end Go.Proofs.YtinmmhbiomcdoaaGreatDoor

/-
  The document's own text of an id, and its reading of a text as an id (layer 12): Id, IdOf. New memory alone is written. Conditions: at most a million signs.
-/
import Derived.Test.YtbiabjehdmddbaaDoorHexRefB
import Derived.Test.YtbiabjehdmddbaaDoorRdIds
import Derived.Test.YtbiabjehdmddbaaDoorRdPad
namespace Go.Proofs.YtbiabjehdmddbaaDoor
open Go.RowKit

theorem slice_to12 {P : Program} {t e : TypeId} {n g off : Nat} (hu : P.underlying t = some (.array n e)) (hs : (P.info? e).map (·.size) = some 1) (h : Nat) (hh : h ≤ n) (w : World) :
    (Instr.sliceAt t (.pointer (some ⟨g, off, none⟩)) none (some (.int .i64 (h : Int))) none).run P w = .ok (.slice (some ⟨g, off, none⟩) h n) w := by
  have hn : P.arrayLen t = n := by simp [Program.arrayLen, hu]
  have he : P.elem t = e := by simp [Program.elem, hu]
  have hrun := run_sliceAt_array_h w t ⟨g, off, none⟩ (by rw [hn, he]; exact hu) .i64 (h : Int) (by omega) (by rw [hn]; omega)
  have hsz : (sizeOf e).run P w = .ok 1 w := by
    cases hq : P.info? e with
    | none => simp [hq] at hs
    | some i => simp [sizeOf, typeInfo, hq, (by simpa [hq] using hs : i.size = 1)]
  rw [hn, he, hsz] at hrun
  rw [hrun]
  unfold slicedAt
  have : (⟨g, off, none⟩ : Addr).add (0 * 1) = ⟨g, off, none⟩ := by simp [Addr.add_mid]
  simp [this]
theorem cell_far (w : World) (p a : Addr) (v : Value) (h : a.block ≠ p.block) : (w.setCell p v).cell? a = w.cell? a := World.cell?_of_block (w := w) (Below.heap_setCell w p v a.block h)
theorem cutN_step {xs : List Int} {n : Nat} (h1 : 1 < n) (h0 : xs.getD (n - 1) 0 = 0) : cutN xs n = cutN xs (n - 1) := by
  obtain ⟨k, rfl⟩ : ∃ k, n = k + 1 := ⟨n - 1, by omega⟩
  rw [cutN, if_pos ⟨by omega, h0⟩]
  rfl
theorem cutN_stop {xs : List Int} {n : Nat} (hn : 0 < n) (h : ¬ (1 < n ∧ xs.getD (n - 1) 0 = 0)) : cutN xs n = n := by
  obtain ⟨k, rfl⟩ : ∃ k, n = k + 1 := ⟨n - 1, by omega⟩
  rw [cutN, if_neg (fun e => h ⟨by omega, e.2⟩)]
theorem blk_take {w : World} {g : Nat} {t : TypeId} {xs : List Int} {m n : Nat} (h : Blk w g t (xs.map (Value.int .u8))) (hl : xs.length = m) (hn : n ≤ m) : Ints .u8 w (some ⟨g, 0, none⟩) n m (xs.take n) := by
  refine ⟨by rw [List.length_take]; omega, hn, .inr ⟨g, 0, rfl, fun i hi => ?_⟩⟩
  rw [Nat.zero_add, h.cell, List.getElem?_map, List.getElem?_eq_getElem (by omega), List.getD_eq_getElem?_getD, List.getElem?_take_of_lt hi, List.getElem?_eq_getElem (by omega)]
  rfl
end Go.Proofs.YtbiabjehdmddbaaDoor

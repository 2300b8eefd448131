/-
  The program's text of bytes (layer 12): Text, by a strings.Builder. New memory alone is written. Conditions: at most three thousand bytes.
-/
import Derived.Test.YtnfjmhppajdmaaaDoorHpDig
import Derived.Test.YtnfjmhppajdmaaaDoorHpShelf
import Derived.Test.YtnfjmhppajdmaaaDoorHexRef
namespace Go.Proofs.YtnfjmhppajdmaaaDoor
open Go.RowKit

/-- Numbers' bytes. -/
def u8s (xs : List Int) : List UInt8 := xs.map fun n => UInt8.ofNat n.toNat
theorem u8s_cells {xs : List Int} (h : okB xs) : Lib.byteCells (u8s xs) = xs.map (Value.int .u8) := by
  unfold Lib.byteCells u8s
  rw [List.map_map]
  apply List.map_congr_left
  intro x hx
  have := h x hx
  simp only [Function.comp_def, UInt8.toNat_ofNat']
  congr 1
  omega
theorem hexS_get16 : ∀ n : Fin 16, (((hexS[n.1]'(n.2)).toNat : Nat) : Int) = sgn (n.1 : Int) := by decide +kernel
/-- A half byte's sign, as the walk spells it. -/
theorem hexS_get (n : Nat) (h : n < ({ data := #[48, 49, 50, 51, 52, 53, 54, 55, 56, 57, 97, 98, 99, 100, 101, 102] } : ByteArray).size) : (((({ data := #[48, 49, 50, 51, 52, 53, 54, 55, 56, 57, 97, 98, 99, 100, 101, 102] } : ByteArray)[n]'h).toNat : Nat) : Int) = sgn (n : Int) := hexS_get16 ⟨n, h⟩

set_option maxRecDepth 100000 in
set_option maxHeartbeats 1000000 in
theorem hText_any (a : Option Addr) (n c : Nat) (xs : List Int) (w : World) (hI : Ints .u8 w a n c xs) (hr : okB xs) (hn : n ≤ 3000) :
    Calls Tryd.prog 7 #[.slice a n c] w fun q w' => q = .returned (.string (strOfNums (textL xs))) ∧ Below w.heap.size w w' := by
  have hl := hI.len
  by_cases h0 : n = 0
  · have e : xs = [] := List.length_eq_zero_iff.1 (by omega)
    subst e
    have hni : (n : Int) = 0 := by omega
    rw [show strOfNums (textL []) = { data := #[45] } by decide +kernel]
    go_enter Tryd.func7, Tryd.ntmps7
    go_wp2
    go_ret
    exact ⟨rfl, Below.refl _ _⟩
  have e : textL xs = textB xs := if_neg (fun e => h0 (by rw [← hl, e]; rfl))
  have hok : okB (textB xs) := textB_range hr
  rw [e]
  have hni : ((n : Int) == 0) = false := beq_false_of_ne (by omega)
  have hnI : (n : Int) ≤ 3000 := by omega
  have hg := bld_grow w.heap.size w.heap.size (2 * n) (w.alloc (.cells #[.pointer none, .slice none 0 0] 42)) (Nat.le_refl _) (heap_alloc_new w _) (by rw [size1]; omega) (by omega)
  rw [Int.natCast_mul, show ((2 : Nat) : Int) = 2 from rfl] at hg
  clear e h0 hn
  go_enter Tryd.func7, Tryd.ntmps7
  go_wp2_with fail
  refine hg.mono ?_
  rintro q w1 ⟨rfl, hA, hB⟩
  have hB1 : Below w.heap.size w w1 := (below1 w _).trans hB
  clear hB hg
  go_wp2_with fail
  go_loopw [15] (fun i wr => ∃ j : Nat, j ≤ n ∧ i = .int .i64 j ∧ Lib.BuilderAt 42 5 w.heap.size w.heap.size (.pointer (some ⟨w.heap.size, 0, none⟩)) ((textB (xs.take j)).map (Value.int .u8)) wr ∧ Below w.heap.size w wr) (fun i _ => n - (intOf i).toNat)
  case atStart => exact ⟨0, Nat.zero_le _, rfl, hA, hB1⟩
  case round =>
    clear hA hB1
    obtain ⟨j, hj, rfl, hA, hB⟩ := hrel
    by_cases hlt : j < n
    · have hji : (j : Int) < (n : Int) := by omega
      obtain ⟨b, off, rfl, hcell⟩ := (hI.keep hB).at (by omega)
      have hc := hcell j hlt
      have hv := getD_range (p := fun x => 0 ≤ x ∧ x < 256) hr j (by omega)
      have hst := textB_take xs j (by omega)
      have hln : (textB (xs.take j)).length ≤ 6000 := by rw [textB_len, List.length_take]; omega
      obtain ⟨v, hvv⟩ : ∃ v, xs.getD j 0 = v := ⟨_, rfl⟩
      rw [hvv] at hc hv hst
      obtain ⟨V, rfl⟩ : ∃ V : Nat, v = (V : Int) := ⟨v.toNat, by omega⟩
      have c1 := bld_byte w.heap.size w.heap.size _ (sgn ((V / 16 : Nat) : Int)) wr (.inr hA) (by rw [List.length_map]; omega) hB.size
      have hstH := Lib.hid hst
      have hltH := Lib.hid hlt
      clear hlt hj hvv hcell hst
      go_wp2_with fail
      rw [hexS_get]
      refine c1.mono ?_
      rintro q w1 ⟨rfl, hA1, hB1⟩
      have hB2 := hB.trans hB1
      have c2 := bld_byte w.heap.size w.heap.size _ (sgn ((V % 16 : Nat) : Int)) w1 (.inr hA1) (by rw [List.length_append, List.length_map]; simp only [List.length_cons, List.length_nil]; omega) hB2.size
      clear c1 hA hB hB1 hA1
      go_wp2_with fail
      rw [hexS_get]
      refine c2.mono ?_
      rintro q w2 ⟨rfl, hA3, hB3⟩
      have hB4 := hB2.trans hB3
      clear c2 hB2 hB3
      go_wp2
      refine ⟨⟨j + 1, by have := hltH.out; omega, by congr 1, ?_, hB4⟩, by simp only [intOf]; have := hltH.out; omega⟩
      have e : (textB (xs.take (j + 1))).map (Value.int .u8) = (textB (xs.take j)).map (Value.int .u8) ++ [.int .u8 (sgn ((V / 16 : Nat) : Int))] ++ [.int .u8 (sgn ((V % 16 : Nat) : Int))] := by
        rw [hstH.out, List.map_append, List.append_assoc]
        congr 1
      rw [e]
      exact hA3
    · obtain rfl : j = n := by omega
      have hji : ¬ (j : Int) < (j : Int) := by omega
      rw [List.take_of_length_le (by omega), ← u8s_cells hok] at hA
      have c3 := bld_string w.heap.size w.heap.size _ wr (.inr hA) hB.size
      clear hlt hj
      go_wp2_with fail
      refine c3.mono ?_
      rintro q w1 ⟨rfl, hB1⟩
      go_wp2
      go_ret
      exact ⟨rfl, hB.trans hB1⟩
end Go.Proofs.YtnfjmhppajdmaaaDoor

/-
  Texts of stages that were proved on their own, joined: HexStr. Each begins with its own words.
-/
import Derived.Test.YtinmmhbiomcdoaaGreatDoorJVaLawN4
import Derived.Test.YtinmmhbiomcdoaaGreatDoorBytesOf

/-
  Texts as the model has them (strings of bytes) against lists of numbers: equality, joining, a sign at a place, a piece. No Go function is spoken of.
-/
namespace Go.Proofs.YtinmmhbiomcdoaaGreatDoor
open Go.RowKit

def okB (xs : List Int) : Prop := ∀ x ∈ xs, 0 ≤ x ∧ x < 256
theorem nums_str {xs : List Int} (h : okB xs) : numsOf (strOfNums xs) = xs := by
  unfold numsOf
  rw [strOfNums_data, List.map_map]
  conv => rhs; rw [← List.map_id xs]
  apply List.map_congr_left
  intro x hx
  have := h x hx
  simp only [Function.comp_def, id_eq, UInt8.toNat_ofNat']
  omega
theorem str_nums (s : ByteArray) : strOfNums (numsOf s) = s := by
  unfold strOfNums numsOf
  rw [List.map_map]
  have : (fun n : Int => UInt8.ofNat n.toNat) ∘ (fun b : UInt8 => (b.toNat : Int)) = id := by
    funext b
    simp
  rw [this, List.map_id]
theorem toList_nums (s t : ByteArray) : (s.toList == t.toList) = decide (numsOf s = numsOf t) := by
  by_cases h : s.toList = t.toList
  · have e : s = t := by
      rw [ByteArray.toList_eq, ByteArray.toList_eq] at h
      cases s; cases t
      simpa using h
    rw [e, beq_self_eq_true, decide_eq_true rfl]
  · rw [beq_false_of_ne h, decide_eq_false]
    intro e
    apply h
    rw [← str_nums s, ← str_nums t, e]
theorem str_eq {xs ys : List Int} (hx : okB xs) (hy : okB ys) : ((strOfNums xs).toList == (strOfNums ys).toList) = decide (xs = ys) := by
  rw [toList_nums, nums_str hx, nums_str hy]
theorem str_append (xs ys : List Int) : strOfNums xs ++ strOfNums ys = strOfNums (xs ++ ys) := by
  unfold strOfNums
  rw [ByteArray.mk_append_mk, List.map_append]
theorem okB_append {xs ys : List Int} (hx : okB xs) (hy : okB ys) : okB (xs ++ ys) := fun z hz => (List.mem_append.1 hz).elim (hx z) (hy z)

section
variable {P : Program}
theorem str_index (s : ByteArray) (i : Nat) (hi : i < s.size) (t : TypeId) (ht : P.underlying t = some .string) (w : World) : (Instr.index t (.string s) (.int .i64 (i : Int))).run P w = .ok (.int .u8 ((numsOf s).getD i 0)) w := by
  rw [run_index_string (w := w) t s .i64 (i : Int) ht, dif_pos ⟨by omega, by omega⟩]
  have hl := numsOf_length s
  rw [List.getD_eq_getElem?_getD, List.getElem?_eq_getElem (by omega)]
  unfold numsOf
  rw [Option.getD_some, List.getElem_map]
  rfl
theorem str_slice (s : ByteArray) (i j : Nat) (h1 : i ≤ j) (h2 : j ≤ s.size) (t : TypeId) (ht : P.underlying t = some .string) (w : World) : (Instr.slice t (.string s) (some (.int .i64 (i : Int))) (some (.int .i64 (j : Int))) none).run P w = .ok (.string (s.extract i j)) w := by
  rw [run_slice_string_if w t s .i64 .i64 (i : Int) (j : Int) ht, if_pos ⟨by omega, by omega⟩, if_pos ⟨by omega, by omega⟩]
  rfl
end
def hexS : ByteArray := { data := #[48, 49, 50, 51, 52, 53, 54, 55, 56, 57, 97, 98, 99, 100, 101, 102] }
theorem hexS_half : ∀ n : Nat, n < 16 → hexS.extract n (n + 1) = strOfNums [sgn n] := by decide +kernel
theorem hexS_at : ∀ n : Nat, n < 16 → (numsOf hexS).getD n 0 = sgn n := by decide +kernel
end Go.Proofs.YtinmmhbiomcdoaaGreatDoor

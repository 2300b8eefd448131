/-
  Texts of stages that were proved on their own, joined: HexStr. Each begins with its own words.
-/
import Derived.Test.YtcohbhimhacedaaGreatDoorJSzAll18
import Derived.Test.YtcohbhimhacedaaGreatDoorBytesOf

/-
  Texts as the model has them (strings of bytes) against lists of numbers: equality, joining, a sign at a place, a piece. No Go function is spoken of.
-/
namespace Go.Proofs.YtcohbhimhacedaaGreatDoor
open Go.RowKit

def okB (xs : List Int) : Prop := ∀ x ∈ xs, 0 ≤ x ∧ x < 256
theorem nums_str {xs : List Int} (h : okB xs) : numsOf (strOfNums xs) = xs := by
  unfold numsOf
  rw [strOfNums_data, List.map_map]
  conv => rhs; rw [← List.map_id xs]
  apply List.map_congr_left
  intro x hx
  have := h x hx
  simp only [Function.comp_def, id_eq, UInt8.toNat_ofNat']
  omega
theorem str_nums (s : ByteArray) : strOfNums (numsOf s) = s := by
  unfold strOfNums numsOf
  rw [List.map_map]
  have : (fun n : Int => UInt8.ofNat n.toNat) ∘ (fun b : UInt8 => (b.toNat : Int)) = id := by
    funext b
    simp
  rw [this, List.map_id]
theorem toList_nums (s t : ByteArray) : (s.toList == t.toList) = decide (numsOf s = numsOf t) := by
  by_cases h : s.toList = t.toList
  · have e : s = t := by
      rw [ByteArray.toList_eq, ByteArray.toList_eq] at h
      cases s; cases t
      simpa using h
    rw [e, beq_self_eq_true, decide_eq_true rfl]
  · rw [beq_false_of_ne h, decide_eq_false]
    intro e
    apply h
    rw [← str_nums s, ← str_nums t, e]
theorem str_eq {xs ys : List Int} (hx : okB xs) (hy : okB ys) : ((strOfNums xs).toList == (strOfNums ys).toList) = decide (xs = ys) := by
  rw [toList_nums, nums_str hx, nums_str hy]
section
variable {P : Program}
end
def hexS : ByteArray := { data := #[48, 49, 50, 51, 52, 53, 54, 55, 56, 57, 97, 98, 99, 100, 101, 102] }
end Go.Proofs.YtcohbhimhacedaaGreatDoor

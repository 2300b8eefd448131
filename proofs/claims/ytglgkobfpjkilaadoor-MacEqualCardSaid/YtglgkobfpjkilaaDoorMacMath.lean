/-
  Keyed hashes on lists of numbers: a key's block, the tag, the bytes derived; plain facts, no Go. No conditions but those that each row names.
-/
import Derived.Test.YtglgkobfpjkilaaDoorShaMath
import Derived.Test.YtglgkobfpjkilaaDoorByteMath
namespace Go.Proofs.YtglgkobfpjkilaaDoor

def xorAll (xs : List Int) (y : Int) : List Int := xs.map fun x => bits .xor .u8 x y
theorem xorAll_length (xs : List Int) (y : Int) : (xorAll xs y).length = xs.length := by simp [xorAll]
theorem xorAll_range (xs : List Int) (y : Int) : ∀ x ∈ xorAll xs y, 0 ≤ x ∧ x < 256 := by
  intro x hx
  obtain ⟨z, _, rfl⟩ := List.mem_map.1 hx
  exact xor8_range z y
theorem xorAll_getD (xs : List Int) (y : Int) (i : Nat) (h : i < xs.length) : (xorAll xs y).getD i 0 = bits .xor .u8 (xs.getD i 0) y := by
  simp [xorAll, List.getD_eq_getElem?_getD, List.getElem?_map, List.getElem?_eq_getElem h]
/-- What stands for a key: itself, or its hash. -/
def keyOf (key : List Int) : List Int := if 64 < key.length then shaSum key else key
theorem keyOf_long {key : List Int} (h : 64 < key.length) : keyOf key = shaSum key := if_pos h
theorem keyOf_short {key : List Int} (h : ¬ 64 < key.length) : keyOf key = key := if_neg h
theorem keyOf_le (key : List Int) : (keyOf key).length ≤ 64 := by
  unfold keyOf
  split
  · rw [shaSum_length]; omega
  · omega
def keyBlock (key : List Int) : List Int := keyOf key ++ List.replicate (64 - (keyOf key).length) 0
theorem keyBlock_length (key : List Int) : (keyBlock key).length = 64 := by
  have := keyOf_le key
  unfold keyBlock; rw [List.length_append, List.length_replicate]; omega
theorem keyBlock_at (key : List Int) (i : Nat) (_h : i < 64) : (keyBlock key).getD i 0 = (keyOf key).getD i 0 := by
  unfold keyBlock
  by_cases hi : i < (keyOf key).length
  · rw [List.getD_eq_getElem?_getD, List.getD_eq_getElem?_getD, List.getElem?_append_left hi]
  · rw [List.getD_eq_getElem?_getD, List.getD_eq_getElem?_getD, List.getElem?_append_right (by omega), List.getElem?_eq_none (l := keyOf key) (by omega)]
    cases h : (List.replicate (64 - (keyOf key).length) (0 : Int))[i - (keyOf key).length]? with
    | none => rfl
    | some v =>
      have := List.mem_of_getElem? h
      rw [List.mem_replicate] at this
      simp [this.2]
theorem keyBlock_range (key : List Int) (h : ∀ x ∈ keyOf key, 0 ≤ x ∧ x < 256) : ∀ x ∈ keyBlock key, 0 ≤ x ∧ x < 256 := by
  intro x hx
  unfold keyBlock at hx
  rcases List.mem_append.1 hx with hx | hx
  · exact h x hx
  · rw [List.mem_replicate] at hx; omega
def pad (key : List Int) (y : Int) : List Int := xorAll (keyBlock key) y
theorem pad_length (key : List Int) (y : Int) : (pad key y).length = 64 := by unfold pad; rw [xorAll_length, keyBlock_length]
theorem pad_range (key : List Int) (y : Int) : ∀ x ∈ pad key y, 0 ≤ x ∧ x < 256 := xorAll_range _ _
def tagOf (key bs : List Int) : List Int := shaSum (pad key 92 ++ shaSum (pad key 54 ++ bs))
theorem tagOf_length (key bs : List Int) : (tagOf key bs).length = 32 := shaSum_length _
/-- The tags of a label and a number behind it, one behind the other. -/
def tags (key label : List Int) : Nat → List Int
  | 0 => []
  | n + 1 => tags key label n ++ tagOf key (label ++ [((n % 256 : Nat) : Int)])
theorem tags_length (key label : List Int) : ∀ n, (tags key label n).length = 32 * n
  | 0 => rfl
  | n + 1 => by rw [tags, List.length_append, tags_length key label n, tagOf_length]; omega
theorem tags_prefix (key label : List Int) (n : Nat) : ∀ d, (tags key label (n + d)).take (32 * n) = tags key label n
  | 0 => List.take_of_length_le (by rw [tags_length]; omega)
  | d + 1 => by
    rw [show n + (d + 1) = n + d + 1 from rfl, tags, List.take_append_of_le_length (by rw [tags_length]; omega), tags_prefix key label n d]
def derived (key label : List Int) (m : Nat) : List Int := (tags key label (m / 32 + 1)).take m
theorem derived_length (key label : List Int) (m : Nat) : (derived key label m).length = m := by
  unfold derived; rw [List.length_take, tags_length]; omega
theorem derived_of_tags (key label : List Int) (m n : Nat) (h : m ≤ 32 * n) : (tags key label n).take m = derived key label m := by
  unfold derived
  rcases Nat.le_total n (m / 32 + 1) with hn | hn
  · have := tags_prefix key label n (m / 32 + 1 - n)
    rw [Nat.add_sub_cancel' hn] at this
    rw [← this, List.take_take, Nat.min_eq_left h]
  · have := tags_prefix key label (m / 32 + 1) (n - (m / 32 + 1))
    rw [Nat.add_sub_cancel' hn] at this
    rw [← this, List.take_take, Nat.min_eq_left (by omega)]
theorem derived_take (key label : List Int) (m n : Nat) (h : m ≤ n) : (derived key label n).take m = derived key label m := by
  rw [← derived_of_tags key label n (n / 32 + 1) (by omega), List.take_take, Nat.min_eq_left h, derived_of_tags key label m (n / 32 + 1) (by omega)]
end Go.Proofs.YtglgkobfpjkilaaDoor

/-
  What New, Len and Clone of package sha come to: a hash in memory that was told these bytes ('HashAt'). Conditions: the package's variables hold the constants and the starts; fewer than 2^33 bytes in all.
-/
import Derived.Test.YtcfachgfgogllaaDoorShaTake
namespace Go.Proofs.YtcfachgfgogllaaDoor
open Go.RowKit

/-- The cells of a hash that was told xs, with these bytes at hand. -/
def hcells (s : S8) (rest : List Int) (n : Nat) : List Value := s.list.map (Value.int .u32) ++ (rest.map (Value.int .u8) ++ [.int .u64 n])
def HashAt (w : World) (g : Nat) (xs : List Int) : Prop :=
  ∃ rest, Told xs rest ∧ (∀ x ∈ rest, 0 ≤ x ∧ x < 256) ∧ Blk w g 108 (hcells (chain8 xs (xs.length / 64)) rest xs.length) ∧ 1 < g ∧ 0 < g
theorem list8 (s : S8) : (s.list.map (Value.int .u32)).length = 8 := rfl
theorem hcells_length (s : S8) (rest : List Int) (n : Nat) (h : rest.length = 64) : (hcells s rest n).length = 73 := by
  unfold hcells; rw [List.length_append, list8, List.length_append, List.length_map, h]; rfl
theorem hcells_len (s : S8) (rest : List Int) (n : Nat) (h : rest.length = 64) : (hcells s rest n)[72]? = some (.int .u64 n) := by
  unfold hcells
  rw [List.getElem?_append_right (by rw [list8]; omega), list8, List.getElem?_append_right (by rw [List.length_map, h]; omega), List.length_map, h]
  rfl
theorem hcells_rest (s : S8) (rest : List Int) (n : Nat) (i : Nat) (hi : i < rest.length) : (hcells s rest n)[8 + i]? = some (.int .u8 (rest.getD i 0)) := by
  unfold hcells
  rw [List.getElem?_append_right (by rw [list8]; omega), list8, List.getElem?_append_left (by rw [List.length_map]; omega), show 8 + i - 8 = i from by omega, getElem?_mapInt _ _ _ hi]
theorem hcells_state (s : S8) (rest : List Int) (n : Nat) : ∀ j v, (s.list.map (Value.int .u32))[j]? = some v → (hcells s rest n)[0 + j]? = some v := by
  intro j v h
  rw [Nat.zero_add]
  unfold hcells
  rw [List.getElem?_append_left (List.getElem?_eq_some_iff.1 h).1]
  exact h
theorem hcells_over (s : S8) (rest cs : List Int) (n off : Nat) (h : off + cs.length ≤ rest.length) : overV (hcells s rest n) (8 + off) (cs.map (Value.int .u8)) = hcells s (over rest off cs) n := by
  unfold overV hcells over
  have h8 := list8 s
  rw [List.take_append, List.take_of_length_le (by rw [h8]; omega), h8, show 8 + off - 8 = off from by omega, List.take_append_of_le_length (by rw [List.length_map]; omega)]
  rw [List.drop_append, List.drop_of_length_le (by rw [h8]; omega), h8, List.length_map, show 8 + off + cs.length - 8 = off + cs.length from by omega, List.drop_append_of_le_length (by rw [List.length_map]; omega)]
  simp
theorem hcells_setLen (s : S8) (rest : List Int) (n m : Nat) (h : rest.length = 64) : (hcells s rest n).set 72 (.int .u64 m) = hcells s rest m := by
  unfold hcells
  rw [List.set_append_right _ _ (by rw [list8]; omega), list8, List.set_append_right _ _ (by rw [List.length_map, h]; omega), List.length_map, h]
  rfl
theorem hcells_setLen' (s : S8) (rest : List Int) (n m : Nat) (h : rest.length = 64) : (hcells s rest n).set 72 (.int .u64 ((n : Int) + (m : Int))) = hcells s rest (n + m) := by
  rw [← hcells_setLen s rest n (n + m) h]; simp
theorem hcells_len' (s : S8) (rest : List Int) (n m : Nat) (h : rest.length = 64) : (hcells s rest (n + m))[72]? = some (.int .u64 ((n : Int) + (m : Int))) := by
  rw [hcells_len _ _ _ h]; simp
theorem hcells_setState (s s' : S8) (rest : List Int) (n : Nat) : overV (hcells s rest n) 0 (s'.list.map (Value.int .u32)) = hcells s' rest n := by
  unfold overV hcells
  rw [List.take_zero, list8, List.nil_append, Nat.zero_add, List.drop_append, List.drop_of_length_le (by rw [list8]; omega), list8]
  simp
theorem hcells_one (s : S8) (rest : List Int) (n : Nat) : ∀ v ∈ hcells s rest n, v.oneCell' = true := by
  intro v hv
  unfold hcells at hv
  rcases List.mem_append.1 hv with hv | hv
  · exact ints_oneCell' _ _ v hv
  · rcases List.mem_append.1 hv with hv | hv
    · exact ints_oneCell' _ _ v hv
    · simp at hv; subst hv; rfl
theorem HashAt.keep {B : Nat} {w w' : World} {g : Nat} {xs : List Int} (h : HashAt w g xs) (hb : Below B w w') (hg : g < B) : HashAt w' g xs := by
  obtain ⟨rest, h1, h2, h3, h4⟩ := h
  exact ⟨rest, h1, h2, h3.keep hb hg, h4⟩
theorem HashAt.grown {w w' : World} {g g' : Nat} {xs : List Int} (h : HashAt w g xs) (hb : w.grownBy w' (some g')) (hg : g ≠ g') : HashAt w' g xs := by
  obtain ⟨rest, h1, h2, h3, h4⟩ := h
  exact ⟨rest, h1, h2, h3.grown hb (by simpa using hg), h4⟩
theorem HashAt.lt {w : World} {g : Nat} {xs : List Int} (h : HashAt w g xs) : g < w.heap.size := by
  obtain ⟨rest, h1, h2, h3, h4⟩ := h
  exact h3.lt
theorem HashAt.far {w w' : World} {g : Nat} {xs : List Int} (h : HashAt w g xs) (hG : Glob w) (hb : w.grownBy w' (some g)) : Glob w' := by
  obtain ⟨rest, h1, h2, h3, h4, h5⟩ := h
  exact hG.grown hb (by omega) (by omega)
theorem sizeHash : (Tryd.prog.info? 108).map (·.size) = some 73 := by kernel_rfl
theorem rowHash : IsRow Tryd.prog 108 73 := IsRow.struct Tryd.underlying108 sizeHash
def hzero : List Value := List.replicate 8 (.int .u32 0) ++ (List.replicate 64 (.int .u8 0) ++ [.int .u64 0])
theorem zeroHash : Zero Tryd.prog 108 hzero := by unfold Zero; kernel_rfl
theorem hzero_length : hzero.length = 73 := rfl

set_option maxRecDepth 100000 in
set_option maxHeartbeats 800000 in
theorem new_any (w : World) (hG : Glob w) : Calls Tryd.prog 55 #[] w fun e w' => e = .returned (.pointer (some ⟨w.heap.size, 0, none⟩)) ∧ HashAt w' w.heap.size [] ∧ Below w.heap.size w w' := by
  have hr : w.rangeAt 0 0 (starts8.list.map (Value.int .u32)) := fun j v hv => by
    have hj : j < 8 := by have := (List.getElem?_eq_some_iff.1 hv).1; rwa [list8] at this
    rw [Nat.zero_add, hG.s j hj, ← hv, getElem?_mapInt _ _ _ (by exact hj)]
  have hf := hG.klt
  have hf' := hG.slt
  go_enter Tryd.func55, Tryd.ntmps55
  go_wp2_with (first
    | ((with_reducible refine wpList_load_part rfl 105 (.global 0) rfl ?_ (starts8.list.map (Value.int .u32)) hr ?_ ?_); rfl; exact row8)
    | ((with_reducible refine wpList_buildTo rfl 108 _ rfl _ rfl (hcells starts8 (List.replicate 64 0) 0).toArray ?_ ?_); kernel_rfl))
  go_ret
  exact ⟨rfl, ⟨List.replicate 64 0, told_nil _ (by simp), by simp, Blk.new w _ _, hf, hf'⟩, below1 _ _⟩
end Go.Proofs.YtcfachgfgogllaaDoor

/-
  Texts of stages that were proved on their own, joined: RlJoin. Each begins with its own words.
-/
import Derived.Test.YtbiabjehdmddbaaGreatDoorJRlAll3
import Derived.Lib.Join
import Derived.Lib.Split
import Derived.Lib.IndexBytes
import Derived.Lib.SplitLaws
import Derived.Laws.AppendOwn

/-
  Words and lines (layer 15) as strings: what strings.Join and strings.SplitN make of them; rows of strings of the call's own. No Go function is spoken of. No conditions but those that each row names.
-/
namespace Go.Proofs.YtbiabjehdmddbaaGreatDoor
open Go.RowKit

def u8l (l : List Int) : List UInt8 := l.map fun n => UInt8.ofNat n.toNat
theorem str_u8l (l : List Int) : (strOfNums l).data.toList = u8l l := strOfNums_data l
theorem str_of_u8l (l : List Int) : (⟨(u8l l).toArray⟩ : ByteArray) = strOfNums l := rfl
theorem u8l_append (a b : List Int) : u8l (a ++ b) = u8l a ++ u8l b := List.map_append
theorem u8l_len (a : List Int) : (u8l a).length = a.length := List.length_map ..
theorem str_size (l : List Int) : (strOfNums l).size = l.length := by
  rw [Lib.size_eq, str_u8l, u8l_len]

/-! ### Joined -/
def tailW : List (List Int) → List Int
  | [] => []
  | v :: r => 32 :: (v ++ tailW r)
theorem joinW_tail : ∀ (r : List (List Int)) (w : List Int), joinW (w :: r) = w ++ tailW r
  | [], w => by show w = w ++ []; rw [List.append_nil]
  | v :: r, w => by
    show w ++ 32 :: joinW (v :: r) = w ++ 32 :: (v ++ tailW r)
    rw [joinW_tail r v]
theorem joinTail_u8l : ∀ r : List (List Int), Lib.joinTail [32] (r.map u8l) = u8l (tailW r)
  | [] => rfl
  | v :: r => by
    have ih := joinTail_u8l r
    unfold Lib.joinTail at ih ⊢
    rw [List.map_cons, List.map_cons, List.flatten_cons, ih]
    show [32] ++ u8l v ++ u8l (tailW r) = u8l (32 :: (v ++ tailW r))
    rw [show (32 : Int) :: (v ++ tailW r) = [32] ++ (v ++ tailW r) from rfl, u8l_append, u8l_append]
    simp [u8l]
/-- What strings.Join makes of words with a blank between. -/
theorem join_words (ws : List (List Int)) : Lib.join ((ws.map strOfNums).map (·.data.toList)) ({ data := #[32] } : ByteArray).data.toList = u8l (joinW ws) := by
  have e : (ws.map strOfNums).map (·.data.toList) = ws.map u8l := by
    rw [List.map_map]
    apply List.map_congr_left
    intro l _
    exact str_u8l l
  rw [e]
  show Lib.join (ws.map u8l) [32] = _
  cases ws with
  | nil => rfl
  | cons w r => rw [List.map_cons, Lib.join_cons, joinTail_u8l, joinW_tail, u8l_append]
theorem tailW_len (m : Nat) : ∀ r : List (List Int), (∀ v ∈ r, v.length ≤ m) → (tailW r).length ≤ r.length * (m + 1)
  | [], _ => by simp [tailW]
  | v :: r, h => by
    have h1 := h v (by simp)
    have h2 := tailW_len m r (fun u hu => h u (by simp [hu]))
    show (32 :: (v ++ tailW r)).length ≤ (r.length + 1) * (m + 1)
    rw [List.length_cons, List.length_append, Nat.add_mul, Nat.one_mul]
    omega
theorem joinW_len (m : Nat) (ws : List (List Int)) (h : ∀ v ∈ ws, v.length ≤ m) : (joinW ws).length ≤ ws.length * (m + 1) := by
  cases ws with
  | nil => simp [joinW]
  | cons w r =>
    have h1 := h w (by simp)
    have h2 := tailW_len m r (fun u hu => h u (by simp [hu]))
    rw [joinW_tail, List.length_append, List.length_cons, Nat.add_mul, Nat.one_mul]
    omega
theorem tailW_ge : ∀ r : List (List Int), r.length ≤ (tailW r).length
  | [] => Nat.le_refl _
  | v :: r => by
    have := tailW_ge r
    show r.length + 1 ≤ (32 :: (v ++ tailW r)).length
    rw [List.length_cons, List.length_append]
    omega
theorem joinW_ge (ws : List (List Int)) : ws.length ≤ (joinW ws).length + 1 := by
  cases ws with
  | nil => simp
  | cons w r =>
    have := tailW_ge r
    rw [joinW_tail, List.length_append, List.length_cons]
    omega
theorem nameL_len {ns : List (List Int)} (h : ∀ x ∈ ns, x.length ≤ 10) (k : Int) : (nameL ns k).length ≤ 10 := by
  unfold nameL
  split
  · rename_i hk
    have hl : k.toNat < ns.length := by omega
    rw [List.getD_eq_getElem?_getD, List.getElem?_eq_getElem hl]
    exact h _ (List.getElem_mem hl)
  · decide
theorem wordsR_len (r : RplV) : (wordsR r).length ≤ 7 := by
  unfold wordsR
  split
  · simp [numsR]
  · simp
theorem numL_len10 {x : Int} (h : 0 ≤ x ∧ x < 4294967296) : (numL x.toNat).length ≤ 10 := by
  refine numL_size x.toNat 9 (Nat.lt_of_lt_of_le (show x.toNat < 4294967296 by omega) ?_)
  decide
theorem wordsR_each {r : RplV} (h : RplOk r) : ∀ v ∈ wordsR r, v.length ≤ 10 := by
  intro v hv
  unfold wordsR at hv
  rcases List.mem_cons.1 hv with rfl | hv
  · exact nameL_len (fun x hx => (kinds_ok x hx).2.2) _
  rcases List.mem_cons.1 hv with rfl | hv
  · exact nameL_len (fun x hx => (errs_ok x hx).2.2) _
  split at hv
  · obtain ⟨n, hn, rfl⟩ := List.mem_map.1 hv
    exact numL_len10 (h n hn)
  · cases hv
theorem joined_len {r : RplV} (h : RplOk r) : (joinW (wordsR r)).length ≤ 77 := by
  have h1 := joinW_len 10 (wordsR r) (wordsR_each h)
  have h2 := wordsR_len r
  have h3 := Nat.mul_le_mul_right (10 + 1) h2
  omega
theorem lineR_len {r : RplV} (h : RplOk r) : (lineR r).length ≤ 77 := by
  unfold lineR
  split
  · exact joined_len h
  · simp

/-! ### Rows of strings -/
section
variable {w : World} {B : Nat} {t : TypeId} {v : Value} {n : Nat} {ws : List (List Int)}
theorem own_strs (h : w.ownsRow B t 1 v n (strsV ws)) (h0 : 0 < n) : ∃ g cap, v = .slice (some ⟨g, 0, none⟩) n cap ∧ n ≤ cap ∧ g < w.heap.size ∧ B ≤ g ∧ (∀ j x, (ws.map strOfNums)[j]? = some x → w.cell? ⟨g, 0 + j, none⟩ = some (.string x)) ∧ ws.length = n := by
  have hl : ws.length = n := by have := h.1; rw [strsV_len] at this; omega
  rcases h.2 with ⟨_, e⟩ | ⟨g, cap, cur, hv, hB, hg, hnc, hm, hs, ht⟩
  · omega
  have hgl : g < w.heap.size := by
    by_cases hlt : g < w.heap.size
    · exact hlt
    · rw [Array.getElem?_eq_none (by omega)] at hg; cases hg
  refine ⟨g, cap, hv, hnc, hgl, hB, fun j x hj => ?_, hl⟩
  have hj' : j < ws.length := by have := (List.getElem?_eq_some_iff.1 hj).1; rwa [List.length_map] at this
  rw [Nat.zero_add, cell_of_row w g j _ t (0, 0) hg]
  have e1 : (strsV ws)[j]? = some (.string x) := by
    unfold strsV
    rw [List.getElem?_map] at hj ⊢
    cases hq : ws[j]? with
    | none => rw [hq] at hj; cases hj
    | some y =>
      rw [hq] at hj
      injection hj with hj
      rw [← hj]
      rfl
  rw [← ht, List.getElem?_take_of_lt (by omega)] at e1
  rw [← Array.getElem?_toList]
  exact e1
theorem own_two (w : World) (x y : List Int) (hB : B ≤ w.heap.size) : (w.alloc (.cells #[.string (strOfNums x), .string (strOfNums y)] t)).ownsRow B t 1 (.slice (some ⟨w.heap.size, 0, none⟩) 2 2) 2 (strsV [x, y]) :=
  ⟨rfl, .inr ⟨w.heap.size, 2, _, rfl, hB, heap_alloc_new w _, Nat.le_refl _, by unfold maxLen; omega, rfl, rfl⟩⟩
theorem own_one (w : World) (x : ByteArray) (hB : B ≤ w.heap.size) : (w.alloc (.cells #[.string x] t)).ownsRow B t 1 (.slice (some ⟨w.heap.size, 0, none⟩) 1 1) 1 [.string x] :=
  ⟨rfl, .inr ⟨w.heap.size, 1, _, rfl, hB, heap_alloc_new w _, Nat.le_refl _, by unfold maxLen; omega, rfl, rfl⟩⟩
end
theorem strsV_snoc (ws : List (List Int)) (x : List Int) : strsV (ws ++ [x]) = strsV ws ++ [.string (strOfNums x)] := by
  unfold strsV
  rw [List.map_append]
  rfl

/-! ### Split -/
theorem indexByte_at (c : UInt8) : ∀ (l r : List UInt8), (∀ b ∈ l, b ≠ c) → Lib.indexByte (l ++ c :: r) c = (l.length : Int)
  | [], r, _ => by simp [Lib.indexByte]
  | b :: l, r, h => by
    have h1 := indexByte_at c l r (fun x hx => h x (by simp [hx]))
    have h2 : ¬ b = c := h b (by simp)
    have h3 : ¬ Lib.indexByte (l ++ c :: r) c = -1 := by rw [h1]; omega
    simp only [List.cons_append, Lib.indexByte, List.length_cons]
    simp [h1, h2]
theorem indexByte_no (c : UInt8) : ∀ (l : List UInt8), (∀ b ∈ l, b ≠ c) → Lib.indexByte l c = -1
  | [], _ => rfl
  | b :: l, h => by
    have h1 := indexByte_no c l (fun x hx => h x (by simp [hx]))
    have h2 : ¬ b = c := h b (by simp)
    simp [Lib.indexByte, h1, h2]
theorem u8l_noB {w : List Int} (h : noB w) (ho : okB w) : ∀ b ∈ u8l w, b ≠ (32 : UInt8) := by
  intro b hb e
  obtain ⟨n, hn, rfl⟩ := List.mem_map.1 hb
  have h1 := h n hn
  have h2 := ho n hn
  have h3 := congrArg UInt8.toNat e
  rw [UInt8.toNat_ofNat'] at h3
  have h4 : (32 : UInt8).toNat = 32 := rfl
  omega
def blankS : ByteArray := { data := #[32] }
theorem index_at {w rest : List Int} (h : noB w) (ho : okB w) : Lib.indexB (strOfNums (w ++ 32 :: rest)) blankS = (w.length : Int) := by
  unfold Lib.indexB
  rw [str_u8l, show blankS.data.toList = [32] from rfl, Lib.index_one, u8l_append, ← u8l_len w]
  exact indexByte_at 32 (u8l w) (u8l rest) (u8l_noB h ho)
theorem index_no {w : List Int} (h : noB w) (ho : okB w) : Lib.indexB (strOfNums w) blankS = -1 := by
  unfold Lib.indexB
  rw [str_u8l, show blankS.data.toList = [32] from rfl, Lib.index_one]
  exact indexByte_no 32 (u8l w) (u8l_noB h ho)
theorem ba_ext {a b : ByteArray} (h : a.data.toList = b.data.toList) : a = b := by
  cases a; cases b
  simpa using h
theorem extract_at (w rest : List Int) : (strOfNums (w ++ 32 :: rest)).extract 0 (w.length + 0) = strOfNums w ∧ (strOfNums (w ++ 32 :: rest)).extract (w.length + blankS.size) (strOfNums (w ++ 32 :: rest)).size = strOfNums rest := by
  constructor
  · apply ba_ext
    rw [Lib.extract_from_zero, str_u8l, str_u8l, u8l_append, Nat.add_zero, List.take_append_of_le_length (by rw [u8l_len]; exact Nat.le_refl _), List.take_of_length_le (by rw [u8l_len]; exact Nat.le_refl _)]
  · apply ba_ext
    rw [Lib.extract_to_end, str_u8l, str_u8l, show (32 : Int) :: rest = [32] ++ rest from rfl, ← List.append_assoc, u8l_append, List.drop_append_of_le_length (by rw [u8l_len, List.length_append]; exact Nat.le_refl _), List.drop_of_length_le (by rw [u8l_len, List.length_append]; exact Nat.le_refl _), List.nil_append]
/-- What strings.SplitN makes of a line: its words. -/
theorem split_words : ∀ (r : List (List Int)) (w : List Int) (k : Nat), (∀ v ∈ w :: r, noB v ∧ okB v) → r.length ≤ k → Lib.splitB blankS 0 k (strOfNums (joinW (w :: r))) = (w :: r).map strOfNums
  | [], w, k, h, _ => Lib.splitB_miss blankS 0 k _ (index_no (h w (by simp)).1 (h w (by simp)).2)
  | v :: r, w, 0, _, hk => by simp at hk
  | v :: r, w, k + 1, h, hk => by
    have hw := h w (by simp)
    have ih := split_words r v k (fun u hu => h u (by simp only [List.mem_cons] at hu ⊢; exact .inr hu)) (by simpa using hk)
    have e : joinW (w :: v :: r) = w ++ 32 :: joinW (v :: r) := rfl
    rw [e, Lib.splitB_hit blankS 0 k _ w.length (index_at hw.1 hw.2), (extract_at w _).1, (extract_at w _).2, ih]
    rfl
theorem splitB_sizes (sep : ByteArray) : ∀ (k : Nat) (s : ByteArray), ∀ x ∈ Lib.splitB sep 0 k s, x.size ≤ s.size
  | 0, s, x, h => by
    have := List.mem_singleton.1 h
    rw [this]
    exact Nat.le_refl _
  | k + 1, s, x, h => by
    unfold Lib.splitB at h
    split at h
    · have := List.mem_singleton.1 h
      rw [this]
      exact Nat.le_refl _
    · rcases List.mem_cons.1 h with rfl | h
      · rw [ByteArray.size_extract]; omega
      · have := splitB_sizes sep k _ x h
        rw [ByteArray.size_extract] at this
        omega
/-- The pieces of a text, and what the program reads of them. -/
def pieces (s : ByteArray) : List ByteArray := Lib.splitB blankS 0 (min 7 (s.size + 1) - 1) s
theorem pieces_len (s : ByteArray) : 1 ≤ (pieces s).length ∧ (pieces s).length ≤ min 7 (s.size + 1) := by
  have h1 := Lib.splitB_length_le blankS 0 (min 7 (s.size + 1) - 1) s
  constructor
  · unfold pieces
    generalize min 7 (s.size + 1) - 1 = k
    cases k with
    | zero => exact Nat.le_refl _
    | succ k =>
      unfold Lib.splitB
      split
      · exact Nat.le_refl _
      · simp
  · unfold pieces
    omega
theorem pieces_sizes (s : ByteArray) : ∀ x ∈ pieces s, x.size ≤ s.size := splitB_sizes _ _ _
theorem pieces_line {r : RplV} (h : RplRight r) {s : ByteArray} (e : lineR r = numsOf s) : (pieces s).map numsOf = wordsR r := by
  have hs : s = strOfNums (joinW (wordsR r)) := by
    rw [← str_nums s, ← e]
    unfold lineR
    rw [if_pos ((rightR_iff r).2 h)]
  have hz : s.size = (joinW (wordsR r)).length := by rw [hs, str_size]
  have hg := joinW_ge (wordsR r)
  have h7 := wordsR_len r
  have hno := wordsR_noB h
  have hok := wordsR_ok r
  obtain ⟨w, q, hw⟩ : ∃ w q, wordsR r = w :: q := ⟨_, _, rfl⟩
  rw [hw] at hg h7 hno hok hs hz ⊢
  unfold pieces
  rw [hz, hs, split_words q w _ (fun v hv => ⟨hno v hv, hok v hv⟩) (by rw [List.length_cons] at hg h7; omega), List.map_map]
  conv => rhs; rw [← List.map_id (w :: q)]
  apply List.map_congr_left
  intro l hl
  exact nums_str (hok l hl)
/-- What the program reads of a line is the line's reply. -/
theorem cand_line {r : RplV} (h : RplRight r) (ho : RplOk r) {s : ByteArray} (e : lineR r = numsOf s) : candW ((pieces s).map numsOf) = r := by
  rw [pieces_line h e]
  exact candW_words h ho
/-- The program's answer is the document's. -/
theorem cand_parse (s : ByteArray) : (lineR (candW ((pieces s).map numsOf)) = numsOf s → s ≠ ByteArray.empty → parseR (numsOf s) = (candW ((pieces s).map numsOf), 0)) ∧ (lineR (candW ((pieces s).map numsOf)) ≠ numsOf s → parseR (numsOf s) = (noRpl, 4)) := by
  constructor
  · intro e hne
    have hr : RplRight (candW ((pieces s).map numsOf)) := by
      by_cases hr : rightR (candW ((pieces s).map numsOf)) = true
      · exact (rightR_iff _).1 hr
      · exfalso
        apply hne
        unfold lineR at e
        rw [if_neg hr] at e
        rw [← str_nums s, ← e]
        rfl
    exact parseR_is hr (candW_ok _) e
  · intro hne
    refine parseR_none fun r h ho e => hne ?_
    rw [cand_line h ho e]
    exact e
theorem parse_few {s : ByteArray} (h : (pieces s).length < 2) : parseR (numsOf s) = (noRpl, 4) := by
  refine parseR_none fun r hr ho e => ?_
  have := congrArg List.length (pieces_line hr e)
  rw [List.length_map] at this
  have h2 : 2 ≤ (wordsR r).length := by unfold wordsR; simp
  omega
end Go.Proofs.YtbiabjehdmddbaaGreatDoor

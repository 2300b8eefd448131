/-
  Texts of stages that were proved on their own, joined: BytesOf, HexStr, HexNum. Each begins with its own words.
-/
import Derived.Test.YtbiabjehdmddbaaGreatDoorSteps
import Derived.Lib.ConvBytes
import Derived.ArgAppend
import Derived.Test.YtbiabjehdmddbaaGreatDoorJRlAll0

/-
  A string as bytes ('[]byte(s)'), and a byte appended behind it. No Go function is spoken of here.
-/
namespace Go.Proofs.YtbiabjehdmddbaaGreatDoor
open Go.RowKit

def numsOf (s : ByteArray) : List Int := s.data.toList.map fun b => (b.toNat : Int)
theorem numsOf_length (s : ByteArray) : (numsOf s).length = s.size := by unfold numsOf; rw [List.length_map, Array.length_toList]; rfl
theorem numsOf_range (s : ByteArray) : ∀ x ∈ numsOf s, 0 ≤ x ∧ x < 256 := by
  intro x hx
  obtain ⟨b, _, rfl⟩ := List.mem_map.1 hx
  have := b.toNat_lt
  omega
/-- A block that a conversion has made: its cells, the mark behind them. -/
structure SRow (w : World) (g : Nat) (e : TypeId) (n cap : Nat) (xs : List Int) : Prop where
  row : ∃ cs, w.heap[g]? = some (.cells cs e (cs.size, cs.size + 1)) ∧ cs.size = cap ∧ ∀ i, i < n → cs[i]? = some (.int .u8 (xs.getD i 0))
  len : xs.length = n
  le : n ≤ cap
theorem cell_of_block {w : World} {g : Nat} {cs : Array Value} {e : TypeId} {fz : Nat × Nat} (h : w.heap[g]? = some (.cells cs e fz)) (i : Nat) : w.cell? ⟨g, i, none⟩ = cs[i]? := by
  simp [World.cell?, h]
theorem SRow.ints {w : World} {g n cap : Nat} {e : TypeId} {xs : List Int} (h : SRow w g e n cap xs) : Ints .u8 w (some ⟨g, 0, none⟩) n cap xs := by
  obtain ⟨⟨cs, h1, h2, h3⟩, hl, hle⟩ := h
  exact ⟨hl, hle, .inr ⟨g, 0, rfl, fun i hi => by rw [Nat.zero_add, cell_of_block h1]; exact h3 i hi⟩⟩
theorem SRow.lt {w : World} {g n cap : Nat} {e : TypeId} {xs : List Int} (h : SRow w g e n cap xs) : g < w.heap.size := by
  obtain ⟨⟨cs, h1, _⟩, _⟩ := h
  by_cases hlt : g < w.heap.size
  · exact hlt
  · rw [Array.getElem?_eq_none (by omega)] at h1; cases h1
theorem SRow.alloc {w : World} {g n cap : Nat} {e : TypeId} {xs : List Int} (h : SRow w g e n cap xs) (o : Obj) : SRow (w.alloc o) g e n cap xs := by
  have hlt := h.lt
  obtain ⟨⟨cs, h1, h2⟩, h3, h4⟩ := h
  exact ⟨⟨cs, (Below.heap_alloc w o g hlt).trans h1, h2⟩, h3, h4⟩

section
variable {P : Program} {w : World}
theorem wpList_bytes {ops : Array Oper} {rest : List Oper} {o : Oper} {a : Act} {Q : Exit → Act → World → Prop} (hgd : o.guard = none) (src dst e : TypeId) (x : Operand) (ho : o.op = .convert src dst x)
    (hs : P.underlying src = some .string) (hd : P.underlying dst = some (.slice e)) (he : P.underlying e = some (.int .u8)) {s : ByteArray} (hx : a.eval x = .string s)
    (h : ∀ w' cap, SRow w' w.heap.size e s.size cap (numsOf s) → Below w.heap.size w w' → wpList P ops Q rest (a.put o.dst (.slice (some ⟨w.heap.size, 0, none⟩) s.size cap)) w') : wpList P ops Q (o :: rest) a w := by
  refine wpList_plain hgd fun K hK => ?_
  have hrun := Lib.run_convert_string_bytes (P := P) w src dst e s hs hd he
  have hge : s.size ≤ grownCap w s.size 0 e := grownCap_ge w s.size 0 e
  unfold Oper.wp
  simp only [execOp, ho, hx, Sem.run_bind, hrun, Result.andThen_ok, Sem.run_pure, Oper.upon]
  have hsz : (Lib.bytesCells w e s).size = grownCap w s.size 0 e := by
    unfold Lib.bytesCells
    rw [Array.size_append, Array.size_map, Array.size_replicate]
    show s.size + _ = _
    omega
  refine hK _ _ (h _ _ ⟨⟨_, Lib.bytesWorld_at_new w e s, hsz, fun i hi => ?_⟩, numsOf_length s, hge⟩ ⟨rfl, rfl, rfl, by rw [Lib.bytesWorld_size]; omega, fun k hk => Lib.bytesWorld_at_old w e s k hk⟩)
  have hc := Lib.bytesWorld_cell w e s i hi
  rw [cell_of_block (Lib.bytesWorld_at_new w e s)] at hc
  rw [hc]
  congr 2
  have hi' : i < s.data.size := hi
  rw [List.getD_eq_getElem?_getD, List.getD_eq_getElem?_getD, numsOf, List.getElem?_map, Array.getElem?_toList, Array.getElem?_eq_getElem hi']
  rfl
theorem wpList_append_sbyte {ops : Array Oper} {rest : List Oper} {o : Oper} {a : Act} {Q : Exit → Act → World → Prop} (hgd : o.guard = none) (s x : Operand) (t : TypeId)
    (ho : o.op = .call { callee := .builtin .append, args := #[s, x], argTypes := #[t, t] })
    (e : TypeId) (i : TypeInfo) (z : Value) (ht : P.underlying t = some (.slice e)) (hi : P.info? e = some i) (hz : i.zero = some z) (hsize : i.size = 1) (hby : i.bytes = 1) (hzs : z.cells.size = 1)
    {g n cap : Nat} {xs : List Int} (hg : SRow w g e n cap xs) (hs : a.eval s = .slice (some ⟨g, 0, none⟩) n cap)
    {B : Nat} {y : Int} (hx : a.eval x = .slice (some ⟨B, 0, none⟩) 1 1) (hy : w.cell? ⟨B, 0, none⟩ = some (.int .u8 y)) (hn : n ≤ 1000000)
    (h : ∀ A c w', Ints .u8 w' A (n + 1) c (xs ++ [y]) → (∀ base, base ≤ g → base ≤ w.heap.size → Below base w w') → wpList P ops Q rest (a.put o.dst (.slice A (n + 1) c)) w') : wpList P ops Q (o :: rest) a w := by
  obtain ⟨⟨cs, h1, h2, h3⟩, hl, hle⟩ := hg
  refine wpList_append_arg w hgd s x t ho e i z 1 1 ht hi hz hsize hby hzs (by decide) g 0 n cap (xs.map (Value.int .u8)) hs (by simp [hl]) (fun j u hu => ?_) ⟨B, 0, none⟩ 1 1 [.int .u8 y] hx rfl (fun j u hu => ?_) (by intro u hu; simp at hu; subst hu; rfl) (fun hr j hj => ?_) (by unfold maxLen; omega) (by omega) (fun hr => ?_) (fun _ v' w' hown hgr => ?_)
  · have hj : j < n := by have := (List.getElem?_eq_some_iff.1 hu).1; simpa [hl] using this
    rw [Nat.zero_add, cell_of_block h1, h3 j hj, ← hu, getElem?_mapInt _ _ _ (by omega)]
  · have hj : j = 0 := by have := (List.getElem?_eq_some_iff.1 hu).1; simpa using this
    subst hj
    have e1 : (Value.int .u8 y) = u := by simpa using hu
    rw [← e1]
    simpa [Addr.add] using hy
  · have hj0 : j = 0 := by simpa using hj
    subst hj0
    have hlt : n < cs.size := by omega
    refine ⟨?_, ?_⟩
    · rw [cell_of_block h1]; simp [hlt]
    · simp [World.frozen?, h1]; omega
  · have e1 : w.setCells g (0 + n * 1) [.int .u8 y] = w.setCell ⟨g, n, none⟩ (.int .u8 y) := by simp [World.setCells]
    rw [e1]
    have hlt : n < cs.size := by omega
    have hh : (w.setCell ⟨g, n, none⟩ (.int .u8 y)).heap[g]? = some (.cells (cs.setIfInBounds n (.int .u8 y)) e (cs.size, cs.size + 1)) := by
      simp [World.setCell, Array.getElem?_modify, h1]
    refine h (some ⟨g, 0, none⟩) cap _ ⟨by simp [hl], hr, .inr ⟨g, 0, rfl, fun j hj => ?_⟩⟩ (fun base hb _ => (Below.refl _ _).setCell hb _)
    rw [Nat.zero_add, cell_of_block hh, Array.getElem?_setIfInBounds]
    by_cases hjn : n = j
    · subst hjn
      rw [if_pos rfl, if_pos hlt, List.getD_eq_getElem?_getD, List.getElem?_append_right (by omega), hl, Nat.sub_self]
      rfl
    · rw [if_neg hjn, h3 j (by omega)]
      congr 2
      rw [List.getD_eq_getElem?_getD, List.getD_eq_getElem?_getD, List.getElem?_append_left (by omega)]
  · have e1 : xs.map (Value.int .u8) ++ [.int .u8 y] = (xs ++ [y]).map (Value.int .u8) := by simp
    rw [e1] at hown
    obtain ⟨A, c, rfl, hI⟩ := Ints.of_owns hown
    exact h A c w' hI (fun base _ hb => (Below.refl _ _).grown hgr hb (by simp))
end
end Go.Proofs.YtbiabjehdmddbaaGreatDoor

/-
  Texts as the model has them (strings of bytes) against lists of numbers: equality, joining, a sign at a place, a piece. No Go function is spoken of.
-/
namespace Go.Proofs.YtbiabjehdmddbaaGreatDoor
open Go.RowKit

def okB (xs : List Int) : Prop := ∀ x ∈ xs, 0 ≤ x ∧ x < 256
theorem nums_str {xs : List Int} (h : okB xs) : numsOf (strOfNums xs) = xs := by
  unfold numsOf
  rw [strOfNums_data, List.map_map]
  conv => rhs; rw [← List.map_id xs]
  apply List.map_congr_left
  intro x hx
  have := h x hx
  simp only [Function.comp_def, id_eq, UInt8.toNat_ofNat']
  omega
theorem str_nums (s : ByteArray) : strOfNums (numsOf s) = s := by
  unfold strOfNums numsOf
  rw [List.map_map]
  have : (fun n : Int => UInt8.ofNat n.toNat) ∘ (fun b : UInt8 => (b.toNat : Int)) = id := by
    funext b
    simp
  rw [this, List.map_id]
theorem toList_nums (s t : ByteArray) : (s.toList == t.toList) = decide (numsOf s = numsOf t) := by
  by_cases h : s.toList = t.toList
  · have e : s = t := by
      rw [ByteArray.toList_eq, ByteArray.toList_eq] at h
      cases s; cases t
      simpa using h
    rw [e, beq_self_eq_true, decide_eq_true rfl]
  · rw [beq_false_of_ne h, decide_eq_false]
    intro e
    apply h
    rw [← str_nums s, ← str_nums t, e]
theorem str_eq {xs ys : List Int} (hx : okB xs) (hy : okB ys) : ((strOfNums xs).toList == (strOfNums ys).toList) = decide (xs = ys) := by
  rw [toList_nums, nums_str hx, nums_str hy]
theorem str_append (xs ys : List Int) : strOfNums xs ++ strOfNums ys = strOfNums (xs ++ ys) := by
  unfold strOfNums
  rw [ByteArray.mk_append_mk, List.map_append]
theorem okB_append {xs ys : List Int} (hx : okB xs) (hy : okB ys) : okB (xs ++ ys) := fun z hz => (List.mem_append.1 hz).elim (hx z) (hy z)

section
variable {P : Program}
theorem str_index (s : ByteArray) (i : Nat) (hi : i < s.size) (t : TypeId) (ht : P.underlying t = some .string) (w : World) : (Instr.index t (.string s) (.int .i64 (i : Int))).run P w = .ok (.int .u8 ((numsOf s).getD i 0)) w := by
  rw [run_index_string (w := w) t s .i64 (i : Int) ht, dif_pos ⟨by omega, by omega⟩]
  have hl := numsOf_length s
  rw [List.getD_eq_getElem?_getD, List.getElem?_eq_getElem (by omega)]
  unfold numsOf
  rw [Option.getD_some, List.getElem_map]
  rfl
theorem str_slice (s : ByteArray) (i j : Nat) (h1 : i ≤ j) (h2 : j ≤ s.size) (t : TypeId) (ht : P.underlying t = some .string) (w : World) : (Instr.slice t (.string s) (some (.int .i64 (i : Int))) (some (.int .i64 (j : Int))) none).run P w = .ok (.string (s.extract i j)) w := by
  rw [run_slice_string_if w t s .i64 .i64 (i : Int) (j : Int) ht, if_pos ⟨by omega, by omega⟩, if_pos ⟨by omega, by omega⟩]
  rfl
end
def hexS : ByteArray := { data := #[48, 49, 50, 51, 52, 53, 54, 55, 56, 57, 97, 98, 99, 100, 101, 102] }
theorem hexS_half : ∀ n : Nat, n < 16 → hexS.extract n (n + 1) = strOfNums [sgn n] := by decide +kernel
theorem hexS_at : ∀ n : Nat, n < 16 → (numsOf hexS).getD n 0 = sgn n := by decide +kernel
end Go.Proofs.YtbiabjehdmddbaaGreatDoor

/-
  Numbers as text (layer 12), as lists of signs: digits of a number and back; which text is greater. No Go function is spoken of.
-/
namespace Go.Proofs.YtbiabjehdmddbaaGreatDoor

def numL (n : Nat) : List Int := if n < 10 then [48 + (n : Int)] else numL (n / 10) ++ [48 + ((n % 10 : Nat) : Int)]
termination_by n
decreasing_by omega
theorem numL_small {n : Nat} (h : n < 10) : numL n = [48 + (n : Int)] := by rw [numL, if_pos h]
theorem numL_big {n : Nat} (h : ¬ n < 10) : numL n = numL (n / 10) ++ [48 + ((n % 10 : Nat) : Int)] := by rw [numL, if_neg h]
def isDig (c : Int) : Prop := 48 ≤ c ∧ c ≤ 57
instance (c : Int) : Decidable (isDig c) := by unfold isDig; exact inferInstance
def valF (n : Nat) (c : Int) : Nat := 10 * n + (c - 48).toNat
def valL (ss : List Int) : Nat := ss.foldl valF 0
def digsL (ss : List Int) : Prop := ∀ c ∈ ss, isDig c
/-- A number's text: not empty, digits alone, no needless nought ahead. -/
def canon (ss : List Int) : Prop := ss ≠ [] ∧ ¬ (1 < ss.length ∧ ss.getD 0 0 = 48) ∧ digsL ss
theorem valL_snoc (ss : List Int) (c : Int) : valL (ss ++ [c]) = 10 * valL ss + (c - 48).toNat := by unfold valL; rw [List.foldl_append]; rfl
theorem digsL_append {a b : List Int} (h : digsL (a ++ b)) : digsL a ∧ digsL b := ⟨fun c hc => h c (List.mem_append_left _ hc), fun c hc => h c (List.mem_append_right _ hc)⟩
theorem getD_append0 (a b : List Int) (h : a ≠ []) : (a ++ b).getD 0 0 = a.getD 0 0 := by
  cases a with
  | nil => exact absurd rfl h
  | cons x r => rfl
theorem numL_ne (n : Nat) : numL n ≠ [] := by
  by_cases h : n < 10
  · rw [numL_small h]; simp
  · rw [numL_big h]; simp
theorem numL_digs (n : Nat) : digsL (numL n) := by
  induction n using Nat.strongRecOn with
  | ind n ih =>
    by_cases h : n < 10
    · rw [numL_small h]
      intro c hc
      rw [List.mem_singleton.1 hc]
      unfold isDig
      omega
    · rw [numL_big h]
      intro c hc
      rcases List.mem_append.1 hc with hc | hc
      · exact ih (n / 10) (by omega) c hc
      · rw [List.mem_singleton.1 hc]
        unfold isDig
        omega
theorem numL_head (n : Nat) (h : 0 < n) : (numL n).getD 0 0 ≠ 48 := by
  induction n using Nat.strongRecOn with
  | ind n ih =>
    by_cases h10 : n < 10
    · rw [numL_small h10]
      show 48 + (n : Int) ≠ 48
      omega
    · rw [numL_big h10, getD_append0 _ _ (numL_ne _)]
      exact ih (n / 10) (by omega) (by omega)
theorem numL_len (n : Nat) (h : 1 < (numL n).length) : 0 < n := by
  by_cases h10 : n < 10
  · rw [numL_small h10] at h; simp at h
  · omega
theorem canon_numL (n : Nat) : canon (numL n) := ⟨numL_ne n, fun h => numL_head n (numL_len n h.1) h.2, numL_digs n⟩
theorem valL_numL (n : Nat) : valL (numL n) = n := by
  induction n using Nat.strongRecOn with
  | ind n ih =>
    by_cases h : n < 10
    · rw [numL_small h]
      show 10 * 0 + (48 + (n : Int) - 48).toNat = n
      omega
    · rw [numL_big h, valL_snoc, ih (n / 10) (by omega)]
      omega
theorem valL_cons_fold (ss : List Int) : ∀ z : Nat, ss.foldl valF z = z * 10 ^ ss.length + valL ss := by
  induction ss with
  | nil => intro z; show z = z * 10 ^ 0 + 0; omega
  | cons c r ih =>
    intro z
    show r.foldl valF (valF z c) = _
    rw [ih (valF z c)]
    have h2 : valL (c :: r) = valF 0 c * 10 ^ r.length + valL r := ih (valF 0 c)
    rw [h2]
    show (10 * z + (c - 48).toNat) * 10 ^ r.length + valL r = z * 10 ^ (r.length + 1) + ((10 * 0 + (c - 48).toNat) * 10 ^ r.length + valL r)
    rw [Nat.mul_zero, Nat.zero_add, Nat.add_mul, Nat.pow_succ, Nat.mul_comm 10 z, Nat.mul_assoc z 10, Nat.mul_comm 10 (10 ^ r.length)]
    omega
theorem valL_cons (c : Int) (r : List Int) : valL (c :: r) = (c - 48).toNat * 10 ^ r.length + valL r := by
  have h := valL_cons_fold r (valF 0 c)
  show r.foldl valF (valF 0 c) = _
  rw [h]
  unfold valF
  rw [Nat.mul_zero, Nat.zero_add]
theorem valL_lt {ss : List Int} (h : digsL ss) : valL ss < 10 ^ ss.length := by
  induction ss with
  | nil => show 0 < 1; decide
  | cons c r ih =>
    have h1 := ih (fun x hx => h x (by simp [hx]))
    have h2 := h c (by simp)
    unfold isDig at h2
    rw [valL_cons, List.length_cons, Nat.pow_succ]
    have h3 : (c - 48).toNat ≤ 9 := by omega
    have h4 := Nat.mul_le_mul_right (10 ^ r.length) h3
    omega
theorem valL_ge {ss : List Int} (h : digsL ss) (h0 : ss ≠ []) (hh : ss.getD 0 0 ≠ 48) : 10 ^ (ss.length - 1) ≤ valL ss := by
  cases ss with
  | nil => exact absurd rfl h0
  | cons c r =>
    have h2 := h c (by simp)
    unfold isDig at h2
    rw [valL_cons, List.length_cons, Nat.add_sub_cancel]
    have hc : c ≠ 48 := hh
    have h3 : 1 ≤ (c - 48).toNat := by omega
    have h4 := Nat.mul_le_mul_right (10 ^ r.length) h3
    omega
theorem numL_valL : ∀ (k : Nat) (ss : List Int), ss.length = k → canon ss → numL (valL ss) = ss
  | 0, ss, hl, h => absurd (List.length_eq_zero_iff.1 hl) h.1
  | k + 1, ss, hl, h => by
    obtain ⟨r, c, rfl⟩ : ∃ r c, ss = r ++ [c] := ⟨ss.dropLast, ss.getLast h.1, (List.dropLast_concat_getLast h.1).symm⟩
    have hd := digsL_append h.2.2
    have hc : isDig c := hd.2 c (by simp)
    unfold isDig at hc
    rw [valL_snoc]
    by_cases hr : r = []
    · subst hr
      rw [numL_small (by show 10 * 0 + _ < 10; omega)]
      show [48 + ((10 * 0 + (c - 48).toNat : Nat) : Int)] = [c]
      congr 1
      omega
    · have hrl : 0 < r.length := List.length_pos_iff.2 hr
      have hh : r.getD 0 0 ≠ 48 := fun e => h.2.1 ⟨by simp; omega, by rw [getD_append0 _ _ hr]; exact e⟩
      have hv := valL_ge hd.1 hr hh
      have hp : 0 < 10 ^ (r.length - 1) := Nat.pow_pos (by decide)
      rw [numL_big (by omega)]
      have e1 : (10 * valL r + (c - 48).toNat) / 10 = valL r := by omega
      have e2 : (10 * valL r + (c - 48).toNat) % 10 = (c - 48).toNat := by omega
      rw [e1, e2, numL_valL k r (by simp at hl; omega) ⟨hr, fun e => hh e.2, hd.1⟩]
      congr 2
      omega
instance (ss : List Int) : Decidable (digsL ss) := by unfold digsL; exact inferInstance
/-- The number and the fault behind NumOf(ss, m). -/
def unNum (ss : List Int) (m : Nat) : Nat × Int := if ss = [] ∨ (1 < ss.length ∧ ss.getD 0 0 = 48) ∨ ¬ digsL ss then (0, 4) else if m < valL ss then (0, 3) else (valL ss, 0)
theorem unNum_bad {ss : List Int} {m : Nat} (h : ¬ canon ss) : unNum ss m = (0, 4) := by
  unfold unNum
  rw [if_pos]
  by_cases h1 : ss = []
  · exact .inl h1
  by_cases h2 : 1 < ss.length ∧ ss.getD 0 0 = 48
  · exact .inr (.inl h2)
  · exact .inr (.inr fun h3 => h ⟨h1, h2, h3⟩)
theorem unNum_long {ss : List Int} {m : Nat} (h : canon ss) (hm : m < valL ss) : unNum ss m = (0, 3) := by
  unfold unNum
  rw [if_neg (by rintro (h1 | h1 | h1); exact h.1 h1; exact h.2.1 h1; exact h1 h.2.2), if_pos hm]
theorem unNum_ok {ss : List Int} {m : Nat} (h : canon ss) (hm : ¬ m < valL ss) : unNum ss m = (valL ss, 0) := by
  unfold unNum
  rw [if_neg (by rintro (h1 | h1 | h1); exact h.1 h1; exact h.2.1 h1; exact h1 h.2.2), if_neg hm]
/-- A number's text is read as it was. -/
theorem unNum_numL (n m : Nat) : unNum (numL n) m = if m < n then (0, 3) else (n, 0) := by
  by_cases h : m < n
  · rw [if_pos h, unNum_long (canon_numL n) (by rw [valL_numL]; exact h)]
  · rw [if_neg h, unNum_ok (canon_numL n) (by rw [valL_numL]; exact h), valL_numL]
/-- What is read as a number is its text. -/
theorem numL_unNum {ss : List Int} {m v : Nat} (h : unNum ss m = (v, 0)) : numL v = ss ∧ v ≤ m := by
  by_cases hc : canon ss
  · by_cases hm : m < valL ss
    · rw [unNum_long hc hm] at h; cases h
    · rw [unNum_ok hc hm] at h
      injection h with h _
      rw [← h]
      exact ⟨numL_valL _ ss rfl hc, by omega⟩
  · rw [unNum_bad hc] at h; cases h

/-- The order of texts. -/
def lexL : List Int → List Int → Bool
  | _, [] => false
  | [], _ :: _ => true
  | a :: x, b :: y => a < b || (a == b && lexL x y)
theorem lexL_val : ∀ (x y : List Int), x.length = y.length → digsL x → digsL y → lexL x y = decide (valL x < valL y)
  | [], [], _, _, _ => by decide
  | [], _ :: _, h, _, _ => by simp at h
  | _ :: _, [], h, _, _ => by simp at h
  | a :: x, b :: y, h, hx, hy => by
    have hl : x.length = y.length := by simpa using h
    have ih := lexL_val x y hl (fun c hc => hx c (by simp [hc])) (fun c hc => hy c (by simp [hc]))
    have ha := hx a (by simp)
    have hb := hy b (by simp)
    have vx := valL_lt (ss := x) (fun c hc => hx c (by simp [hc]))
    have vy := valL_lt (ss := y) (fun c hc => hy c (by simp [hc]))
    unfold isDig at ha hb
    rw [lexL, ih, valL_cons, valL_cons, ← hl]
    rw [← hl] at vy
    obtain ⟨A, hA⟩ : ∃ A : Nat, (a - 48).toNat = A := ⟨_, rfl⟩
    obtain ⟨B, hB⟩ : ∃ B : Nat, (b - 48).toNat = B := ⟨_, rfl⟩
    obtain ⟨P, hP⟩ : ∃ P : Nat, 10 ^ x.length = P := ⟨_, rfl⟩
    rw [hA, hB, hP]
    rw [hP] at vx vy
    by_cases h1 : a < b
    · have h2 : A + 1 ≤ B := by omega
      have h3 := Nat.mul_le_mul_right P h2
      rw [Nat.add_mul] at h3
      rw [decide_eq_true h1, Bool.true_or, decide_eq_true]
      omega
    · rw [decide_eq_false h1, Bool.false_or]
      by_cases h2 : a = b
      · have h4 : A = B := by omega
        rw [h2, beq_self_eq_true, Bool.true_and, h4]
        congr 1
        apply propext
        constructor <;> intro h5 <;> omega
      · have h4 : B + 1 ≤ A := by omega
        have h3 := Nat.mul_le_mul_right P h4
        rw [Nat.add_mul] at h3
        rw [beq_false_of_ne h2, Bool.false_and, decide_eq_false]
        omega
/-- Which of two numbers is greater, by their texts. -/
theorem val_cmp {x y : List Int} (hx : canon x) (hy : canon y) : (y.length < x.length ∨ (x.length = y.length ∧ ¬ lexL x y = true ∧ x ≠ y)) ↔ valL y < valL x := by
  by_cases hl : x.length = y.length
  · have h1 := lexL_val x y hl hx.2.2 hy.2.2
    constructor
    · rintro (h | ⟨_, h2, h3⟩)
      · omega
      · rw [h1] at h2
        have h4 : ¬ valL x < valL y := fun h => h2 (decide_eq_true h)
        have h5 : valL x ≠ valL y := fun e => h3 (by rw [← numL_valL _ x rfl hx, ← numL_valL _ y rfl hy, e])
        omega
    · intro h
      refine .inr ⟨hl, ?_, fun e => by rw [e] at h; omega⟩
      rw [h1]
      intro h2
      have := of_decide_eq_true h2
      omega
  · have big : ∀ {p q : List Int}, canon p → canon q → q.length < p.length → valL q < valL p := by
      intro p q hp hq h
      have h0 : 0 < q.length := List.length_pos_iff.2 hq.1
      have h1 := valL_ge hp.2.2 hp.1 (fun e => hp.2.1 ⟨by omega, e⟩)
      have h2 := valL_lt hq.2.2
      have h3 : 10 ^ q.length ≤ 10 ^ (p.length - 1) := Nat.pow_le_pow_right (by decide) (by omega)
      omega
    constructor
    · rintro (h | ⟨h, _⟩)
      · exact big hx hy h
      · exact absurd h hl
    · intro h
      by_cases h1 : y.length < x.length
      · exact .inl h1
      · have := big hy hx (by omega)
        omega
theorem lex_bytes : ∀ (s t : List UInt8), Op.bytesLess s t = lexL (s.map fun b => (b.toNat : Int)) (t.map fun b => (b.toNat : Int))
  | _, [] => by unfold Op.bytesLess; cases ‹List UInt8› <;> rfl
  | [], _ :: _ => rfl
  | a :: x, b :: y => by
    rw [Op.bytesLess, lex_bytes x y]
    show _ = (decide ((a.toNat : Int) < (b.toNat : Int)) || ((a.toNat : Int) == (b.toNat : Int) && _))
    congr 1
    · exact decide_eq_decide.2 (by rw [UInt8.lt_iff_toNat_lt]; omega)
    · congr 1
      by_cases h : a = b
      · rw [h, beq_self_eq_true, beq_self_eq_true]
      · rw [beq_false_of_ne h, beq_false_of_ne]
        intro e
        exact h (UInt8.toNat_inj.1 (by omega))
theorem lex_str (s t : ByteArray) : Op.bytesLess s.toList t.toList = lexL (numsOf s) (numsOf t) := by
  rw [lex_bytes, ByteArray.toList_eq, ByteArray.toList_eq]
  rfl
theorem numL_ok (n : Nat) : okB (numL n) := fun c hc => by have := numL_digs n c hc; unfold isDig at this; omega
theorem numL_size (n k : Nat) (h : n < 10 ^ (k + 1)) : (numL n).length ≤ k + 1 := by
  have hc := canon_numL n
  by_cases h1 : 1 < (numL n).length
  · have h2 := valL_ge hc.2.2 hc.1 (fun e => hc.2.1 ⟨h1, e⟩)
    rw [valL_numL] at h2
    have h3 := (Nat.pow_lt_pow_iff_right (a := 10) (by decide)).1 (Nat.lt_of_le_of_lt h2 h)
    omega
  · omega
end Go.Proofs.YtbiabjehdmddbaaGreatDoor

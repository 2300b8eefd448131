/-
  What the landed writer's Num, Bytes, Id, Hint, Ids and Fail come to, by write. New memory and the writer's own alone are written. Conditions: at most eighty million bytes; what is handed in does not lie in the writer's own memory.
-/
import Derived.Test.YtlbhpicebefpnaaWpPut
import Derived.Test.YtlbhpicebefpnaaWpWith
namespace Go.Proofs.Ytlbhpicebefpnaa
open Go.RowKit

theorem one_out {F : Nat → Prop} {w : World} {b : Option Addr} {m d : Nat} {ys : List Int} {T : TypeId} (hF : ∀ b, F b → b < w.heap.size) (hI : Ints .u8 w b m d ys) (hb : ∀ x, b = some x → 0 < m → ¬ F x.block) :
    Outs F (w.alloc (.cells #[.slice b m d] T)) (some ⟨w.heap.size, 0, none⟩) 1 [ys] := by
  refine ⟨rfl, .inr ⟨w.heap.size, 0, rfl, fun h => by have := hF _ h; omega, fun i hi => ?_⟩⟩
  obtain rfl : i = 0 := by omega
  exact ⟨b, m, d, (Blk.new w T [.slice b m d]).cell 0, hI.keep (below1 w _), hb⟩
theorem blk_ints {w : World} {g n : Nat} {t : TypeId} {ys : List Int} (h : Blk w g t (ys.map (Value.int .u8))) (hl : ys.length = n) : Ints .u8 w (some ⟨g, 0, none⟩) n n ys :=
  ⟨hl, Nat.le_refl _, .inr ⟨g, 0, rfl, fun i hi => by
    rw [Nat.zero_add, h.cell, List.getElem?_map, List.getElem?_eq_getElem (by omega), List.getD_eq_getElem?_getD, List.getElem?_eq_getElem (by omega)]
    rfl⟩⟩
theorem Grows.of_le {F F' : Nat → Prop} {w w' : World} (h : Grows F F' w') (hs : w.heap.size ≤ w'.heap.size) : Grows F F' w := fun b hb => (h b hb).imp id (fun h => Nat.le_trans hs h)
theorem within {F : Nat → Prop} {w w2 w' : World} {g : Nat} {r : Int} {X : List Int} {E : Int} {q : Ending} (hB : Below w.heap.size w w2) (h : ∃ F', q = .returned (.tuple #[]) ∧ WrAt F' w' g r X E ∧ Grows F F' w2 ∧ Moved F w2 w') :
    q = .returned (.tuple #[]) ∧ ∃ F', WrAt F' w' g r X E ∧ Grows F F' w ∧ Moved F w w' := by
  obtain ⟨F', hq, hw, hg, hm⟩ := h
  exact ⟨hq, F', hw, hg.of_le hB.size, (Moved.of_below hB).then hm⟩
theorem without {F : Nat → Prop} {w w' : World} {g : Nat} {r : Int} {X : List Int} {E : Int} {q : Ending} (h : q = .returned (.tuple #[]) ∧ ∃ F', WrAt F' w' g r X E ∧ Grows F F' w ∧ Moved F w w') :
    ∃ F', q = .returned (.tuple #[]) ∧ WrAt F' w' g r X E ∧ Grows F F' w ∧ Moved F w w' := by
  obtain ⟨hq, F', h⟩ := h
  exact ⟨F', hq, h⟩

theorem wNote_any {F : Nat → Prop} {w : World} {g : Nat} {r : Int} {xs : List Int} {e : Int} (h : WrAt F w g r xs e) (x : Int) (hm : xs.length ≤ 90000000) :
    Calls Try.prog 34 #[.pointer (some ⟨g, 0, none⟩), .int .i64 x, .slice none 0 0] w fun q w' => ∃ F', q = .returned (.tuple #[]) ∧ WrAt F' w' g r xs (badOf e x) ∧ Grows F F' w ∧ Moved F w w'  := by
  unfold badOf
  by_cases he : e = 0
  · subst he
    rw [if_pos rfl]
    by_cases hx : x = 0
    · subst hx
      refine (wWrite_any h none 0 0 [] ⟨rfl, .inl rfl⟩ (by simpa using hm) (by decide)).mono ?_
      rintro q w1 ⟨F', rfl, hw, hg, hm1⟩
      have hst : wrStep r xs 0 ([] : List (List Int)).flatten = (xs, 0) := by
        unfold wrStep
        rw [if_neg (by simp), if_neg (by have := h.fit; simp; omega)]
        simp
      rw [hst] at hw
      exact ⟨F', rfl, hw, hg, hm1⟩
    · refine (wWrite_fault h x hx none 0 0).mono ?_
      rintro q w1 ⟨rfl, hw, hm1⟩
      exact ⟨F, rfl, hw, grows_self, hm1⟩
  · rw [if_neg he]
    refine (wWrite_bad h he x none 0 0).mono ?_
    rintro q w1 ⟨rfl, rfl⟩
    exact ⟨F, rfl, h, grows_self, Moved.rfl'⟩

theorem wFail_any {F : Nat → Prop} {w : World} {g : Nat} {r : Int} {xs : List Int} {e : Int} (h : WrAt F w g r xs e) (x : Int) (hm : xs.length ≤ 90000000) :
    Calls Try.prog 27 #[.pointer (some ⟨g, 0, none⟩), .int .i64 x] w fun q w' => ∃ F', q = .returned (.tuple #[]) ∧ WrAt F' w' g r xs (badOf e x) ∧ Grows F F' w ∧ Moved F w w' :=
  (fail_with x ((wNote_any h x hm).mono fun _ _ k => within (Below.refl _ _) k)).mono fun _ _ k => without k

/-- One part, laid in new memory. -/
theorem wOne_any {F : Nat → Prop} {w : World} {g : Nat} {r : Int} {xs : List Int} {e : Int} (h : WrAt F w g r xs e) {W : World} (hB : Below w.heap.size w W) (b : Option Addr) (m d : Nat) (ys : List Int) (T : TypeId) (hI : Ints .u8 W b m d ys) (hb : ∀ x, b = some x → 0 < m → ¬ F x.block) (hm : xs.length + m ≤ 90000000) :
    Calls Try.prog 34 #[.pointer (some ⟨g, 0, none⟩), .int .i64 0, .slice (some ⟨W.heap.size, 0, none⟩) 1 1] (W.alloc (.cells #[.slice b m d] T)) fun q w' => q = .returned (.tuple #[]) ∧ ∃ F', WrAt F' w' g r (wrStep r xs e ys).1 (wrStep r xs e ys).2 ∧ Grows F F' w ∧ Moved F w w' := by
  have hW := h.keep (fun y hy => hB.block y (h.lt y hy)) hB.size
  have hO := one_out (T := T) hW.lt hI hb
  have b1 := below1 W (.cells #[.slice b m d] T)
  have h1 := hW.keep (fun y hy => b1.block y (hW.lt y hy)) b1.size
  have C := wWrite_any h1 (some ⟨W.heap.size, 0, none⟩) 1 1 [ys] hO (by have := hI.len; simp; omega) (by decide)
  rw [show [ys].flatten = ys by simp] at C
  exact C.mono fun _ _ k => within (hB.trans (b1.mono hB.size)) k

theorem wBytes_any {F : Nat → Prop} {w : World} {g : Nat} {r : Int} {xs : List Int} {e : Int} (h : WrAt F w g r xs e) (b : Option Addr) (m d : Nat) (ys : List Int) (hI : Ints .u8 w b m d ys) (hb : ∀ x, b = some x → 0 < m → ¬ F x.block) (hm : xs.length + m ≤ 80000000) :
    Calls Try.prog 17 #[.pointer (some ⟨g, 0, none⟩), .slice b m d] w fun q w' => ∃ F', q = .returned (.tuple #[]) ∧ WrAt F' w' g r (wrStep r xs e ys).1 (wrStep r xs e ys).2 ∧ Grows F F' w ∧ Moved F w w' :=
  (bytes_with b m d (wOne_any h (Below.refl _ _) b m d ys _ hI hb (by omega))).mono fun _ _ k => without k

theorem wId_any {F : Nat → Prop} {w : World} {g : Nat} {r : Int} {xs : List Int} {e : Int} (h : WrAt F w g r xs e) (ys : List Int) (hl : ys.length = 32) (hm : xs.length ≤ 80000000) :
    Calls Try.prog 16 #[.pointer (some ⟨g, 0, none⟩), .agg (ys.map (Value.int .u8)).toArray] w fun q w' => ∃ F', q = .returned (.tuple #[]) ∧ WrAt F' w' g r (wrStep r xs e ys).1 (wrStep r xs e ys).2 ∧ Grows F F' w ∧ Moved F w w' := by
  have b0 := below1 w (.cells (ys.map (Value.int .u8)).toArray 34)
  have hI : Ints .u8 (w.alloc (.cells (ys.map (Value.int .u8)).toArray 34)) (some ⟨w.heap.size, 0, none⟩) 32 32 ys := blk_ints (Blk.new w _ _) hl
  have C := wOne_any h b0 (some ⟨w.heap.size, 0, none⟩) 32 32 ys 27 hI (fun x hx _ hf => by injection hx with hx; subst hx; have := h.lt _ hf; exact Nat.lt_irrefl _ this) (by omega)
  rw [size1] at C
  exact (id_with (ys.map (Value.int .u8)) C).mono fun _ _ k => without k

theorem wHint_any {F : Nat → Prop} {w : World} {g : Nat} {r : Int} {xs : List Int} {e : Int} (h : WrAt F w g r xs e) (ys : List Int) (hl : ys.length = 16) (hm : xs.length ≤ 80000000) :
    Calls Try.prog 30 #[.pointer (some ⟨g, 0, none⟩), .agg (ys.map (Value.int .u8)).toArray] w fun q w' => ∃ F', q = .returned (.tuple #[]) ∧ WrAt F' w' g r (wrStep r xs e ys).1 (wrStep r xs e ys).2 ∧ Grows F F' w ∧ Moved F w w' := by
  have b0 := below1 w (.cells (ys.map (Value.int .u8)).toArray 65)
  have hI : Ints .u8 (w.alloc (.cells (ys.map (Value.int .u8)).toArray 65)) (some ⟨w.heap.size, 0, none⟩) 16 16 ys := blk_ints (Blk.new w _ _) hl
  have C := wOne_any h b0 (some ⟨w.heap.size, 0, none⟩) 16 16 ys 27 hI (fun x hx _ hf => by injection hx with hx; subst hx; have := h.lt _ hf; exact Nat.lt_irrefl _ this) (by omega)
  rw [size1] at C
  exact (hint_with (ys.map (Value.int .u8)) C).mono fun _ _ k => without k

theorem wNum_any {F : Nat → Prop} {w : World} {g : Nat} {r : Int} {xs : List Int} {e : Int} (h : WrAt F w g r xs e) (N A : Int) (hm : xs.length ≤ 80000000) (hN : 0 ≤ N) :
    Calls Try.prog 15 #[.pointer (some ⟨g, 0, none⟩), .int .u64 N, .int .i64 A] w fun q w' => ∃ F', q = .returned (.tuple #[]) ∧ WrAt F' w' g r (wrNum r xs e N A).1 (wrNum r xs e N A).2 ∧ Grows F F' w ∧ Moved F w w' := by
  unfold wrNum
  rcases num_cases N A hN with ⟨hf, K, rfl, h1, h8, hz⟩ | ⟨hf, hA⟩
  · rw [if_pos hf, Int.toNat_natCast]
    refine (num_fits_with N K h1 h8 hz fun W hb hB => ?_).mono fun _ _ k => without k
    have hI := laidN_ints hb K (8 - K) (by omega)
    exact wOne_any h hB _ K K (beL N K) _ hI (fun x hx _ hf => by injection hx with hx; subst hx; exact Nat.lt_irrefl _ (h.lt _ hf)) (by omega)
  · rw [if_neg hf]
    exact (num_arg_with N A hA ((wNote_any h 1 (by omega)).mono fun _ _ k => within (Below.refl _ _) k)).mono fun _ _ k => without k

/-- The ids' bytes, id by id. -/
def idRows (ys : List Int) (m : Nat) : List (List Int) := (List.range m).map fun i => (ys.drop (32 * i)).take 32
theorem idRows_flat (ys : List Int) : ∀ m, (idRows ys m).flatten = ys.take (32 * m)
  | 0 => by simp [idRows]
  | m + 1 => by
    have h := idRows_flat ys m
    unfold idRows at h ⊢
    rw [List.range_succ, List.map_append, List.flatten_append, h, show 32 * (m + 1) = 32 * m + 32 by omega, List.take_add]
    simp
theorem ids_out {F : Nat → Prop} {W : World} {G : Nat} {T : TypeId} {b : Option Addr} {m d : Nat} {ys : List Int} (hI : IdsAt W b m d ys) (hb : ∀ x, b = some x → 0 < m → ¬ F x.block) (hG : ¬ F G) (hk : Blk W G T (idParts b m)) : Outs F W (some ⟨G, 0, none⟩) m (idRows ys m) := by
  refine ⟨by simp [idRows], ?_⟩
  by_cases h0 : m = 0
  · exact .inl h0
  obtain ⟨lb, lo, rfl⟩ : ∃ lb lo, b = some ⟨lb, lo, none⟩ := by
    rcases hI.2.2 with h1 | ⟨lb, lo, h, _⟩
    · exact absurd h1 h0
    · exact ⟨lb, lo, h⟩
  refine .inr ⟨G, 0, rfl, hG, fun i hi => ⟨some ⟨lb, lo + i * 32, none⟩, 32, 32, ?_, ?_, fun x hx _ => ?_⟩⟩
  · rw [Nat.zero_add, hk.cell]
    unfold idParts
    rw [List.getElem?_map, List.getElem?_range hi]
    rfl
  · have h1 := ids_chunk hI i hi
    unfold idRows
    rw [List.getD_eq_getElem?_getD, List.getElem?_map, List.getElem?_range hi]
    exact h1
  · injection hx with hx
    subst hx
    exact hb ⟨lb, lo, none⟩ rfl (by omega)

theorem wIds_any {F : Nat → Prop} {w : World} {g : Nat} {r : Int} {xs : List Int} {e : Int} (h : WrAt F w g r xs e) (b : Option Addr) (m d : Nat) (ys : List Int) (hI : IdsAt w b m d ys) (hb : ∀ x, b = some x → 0 < m → ¬ F x.block) (hm : xs.length + 32 * m ≤ 80000000) :
    Calls Try.prog 18 #[.pointer (some ⟨g, 0, none⟩), .slice b m d] w fun q w' => ∃ F', q = .returned (.tuple #[]) ∧ WrAt F' w' g r (wrStep r xs e ys).1 (wrStep r xs e ys).2 ∧ Grows F F' w ∧ Moved F w w' := by
  have hfl := idRows_flat ys m
  rw [List.take_of_length_le (by rw [hI.1]; exact Nat.le_refl _)] at hfl
  refine (ids_with b m d (hI.2.2.imp id fun ⟨lb, lo, h, _⟩ => ⟨lb, lo, h⟩) hI.2.1 (by omega) fun W hk hB => ?_).mono fun _ _ k => without k
  have hW := h.keep (fun y hy => hB.block y (h.lt y hy)) hB.size
  have hO := ids_out (hI.keep hB) hb (fun hf => Nat.lt_irrefl _ (h.lt _ hf)) hk
  have C := wWrite_any hW (some ⟨w.heap.size, 0, none⟩) m m _ hO (by rw [hfl, hI.1]; omega) (by omega)
  rw [hfl] at C
  exact C.mono fun _ _ k => within hB k
end Go.Proofs.Ytlbhpicebefpnaa

/-
  Texts of stages that were proved on their own, joined: FrRef, FrOne, FrRows. Each begins with its own words.
-/
import Derived.Test.YtcohbhimhacedaaDoorJSlAll6
import Derived.Test.YtcohbhimhacedaaDoorJSlAll25
import Derived.Test.YtcohbhimhacedaaDoorJSlAll20
import Derived.Test.YtcohbhimhacedaaDoorJSlAll3
import Derived.Test.YtcohbhimhacedaaDoorAppends
import Derived.Test.YtcohbhimhacedaaDoorJSlAll26
import Derived.Test.YtcohbhimhacedaaDoorParts

/-
  The document's own frames (layer 19): Bytes, Encode, value, One. New memory alone is written. Conditions: bytes below 256; at most 2^47 many.
-/
namespace Go.Proofs.YtcohbhimhacedaaDoor
open Go.RowKit

set_option maxRecDepth 100000 in
set_option maxHeartbeats 2000000 in
theorem r19Bytes_any (a : Option Addr) (n c : Nat) (xs : List Int) (w : World) (hI : Ints .u8 w a n c xs) (hr : ∀ x ∈ xs, 0 ≤ x ∧ x < 256) (hn : n ≤ 1000000) :
    Calls Tryd.prog 15 #[.slice a n c] w fun q w' => ∃ b d, q = .returned (.slice b (frB xs).length d) ∧ w'.ownsRow w.heap.size 5 1 (.slice b (frB xs).length d) (frB xs).length ((frB xs).map (Value.int .u8)) ∧ Below w.heap.size w w' := by
  obtain ⟨i0, hi, hz0, hz1, hz2⟩ := info_u8b
  have hl := hI.len
  have n64 : IntKind.u64.wrap (n : Int) = (n : Int) := by rw [IntKind.wrap_u64]; omega
  have hnum := rNumber_any (n : Int) 4 w (by decide)
  have hfl := frB_len xs
  have hm : frB xs = beL (n : Int) 4 ++ (beL (sumF xs) 4 ++ xs) := by unfold frB; rw [hl]
  have hsum : nv (crcOf 0#32 (bvs (beL (n : Int) 4 ++ xs))) = sumF xs := by unfold sumF; rw [hl]
  have hsr := sumF_range xs
  obtain ⟨V, hV⟩ : ∃ V, sumF xs = V := ⟨_, rfl⟩
  rw [hV] at hm hsum hsr
  have v64 : IntKind.u64.wrap V = V := by rw [IntKind.wrap_u64]; omega
  obtain ⟨M, hM⟩ : ∃ M, frB xs = M := ⟨_, rfl⟩
  rw [hM] at hm hfl
  rw [hM]
  have hmH := Lib.hid hm
  have hflH := Lib.hid hfl
  have hIH := Lib.hid hI
  have hlH := Lib.hid hl
  have hsumH := Lib.hid hsum
  have l4 : (beL (n : Int) 4).length = 4 := beL_len _ _
  have v4 : (beL V 4).length = 4 := beL_len _ _
  obtain ⟨N4, hN4⟩ : ∃ L, beL (n : Int) 4 = L := ⟨_, rfl⟩
  have hN4r : ∀ x ∈ N4, 0 ≤ x ∧ x < 256 := by rw [← hN4]; exact beL_range _ _
  rw [hN4] at hnum hmH hsumH l4
  clear hm hI hM hV hsum hl hfl hN4 hsr
  go_enter Tryd.func15, Tryd.ntmps15
  go_wp2_with fail
  refine hnum.mono ?_
  rintro q w1 ⟨b, d, rfl, ho1, b1⟩
  obtain ⟨b', d', hv, hI1⟩ := Ints.of_owns ho1
  injection hv with e1 _ e3
  subst e1; subst e3
  have q3 : Below w1.heap.size w1 (w1.alloc (.cells #[] 5)) := below1 _ _
  have I3 := hI1.keep q3
  clear hnum
  go_wp2_with (at_builtin; refine wpList_append_ints rfl (.tmp 9) (.tmp 10) 34 rfl w1.heap.size 5 i0 (.int .u8 0) 1 Tryd.underlying34 hi hz0 hz1 hz2 rfl rfl (World.ownsRow_made w1 #[] 0 (Nat.le_refl _) (Nat.zero_le _) rfl) rfl I3 ?_ ?_ q3.size ?_; (unfold maxLen; omega); (omega); intro v2 w2 hO2 hg2; refine RowKit.Hid.out ?_)
  refine Lib.hid ?_
  rw [List.nil_append, Nat.zero_add] at hO2
  have b2 : Below w1.heap.size w1 w2 := q3.grown hg2 q3.size (fun k hk => by injection hk with hk; rw [← hk]; exact Nat.le_refl _)
  have I2 := (hIH.out.keep b1).keep b2
  clear q3 I3 hg2
  go_wp2_with (at_builtin; refine wpList_append_ints rfl (.tmp 11) (.tmp 12) 34 rfl w1.heap.size 5 i0 (.int .u8 0) 1 Tryd.underlying34 hi hz0 hz1 hz2 rfl rfl hO2 rfl I2 ?_ ?_ b2.size ?_; (unfold maxLen; omega); (omega); intro v3 w3 hO3 hg3; refine RowKit.Hid.out ?_)
  refine Lib.hid ?_
  rw [← List.map_append] at hO3
  have b3 : Below w1.heap.size w1 w3 := b2.grown hg3 b2.size (fun k hk => (hO2.lt k hk).1)
  obtain ⟨b5, d5, hv5, hI5⟩ := Ints.of_owns hO3
  have hc := rOf_any b5 (4 + n) d5 (N4 ++ xs) w3 hI5 (fun x hx => (List.mem_append.1 hx).elim (hN4r x) (hr x)) (by omega)
  rw [hsumH.out] at hc
  clear I2 b2 hO2 hg3 hI5 hO3
  subst hv5
  go_wp2_with fail
  refine hc.mono ?_
  rintro q w4 ⟨rfl, rfl⟩
  have hnum2 := rNumber_any V 4 w3 (by decide)
  clear hc
  go_wp2_with fail
  refine hnum2.mono ?_
  rintro q w5 ⟨nb, nd, rfl, ho5, b5'⟩
  obtain ⟨nb', nd', hv, hI6⟩ := Ints.of_owns ho5
  injection hv with e1 _ e3
  subst e1; subst e3
  have b15 := b3.trans (b5'.mono b3.size)
  have hO5 := own_stay9 ho1 b15
  have hB5 := b1.trans (b15.mono b1.size)
  clear hnum2 ho5 b5' b3 b15 hI1 ho1
  go_wp2_with (at_builtin; refine wpList_append_ints rfl (.tmp 15) (.tmp 18) 34 rfl w.heap.size 5 i0 (.int .u8 0) 1 Tryd.underlying34 hi hz0 hz1 hz2 rfl rfl hO5 rfl hI6 ?_ ?_ hB5.size ?_; (unfold maxLen; omega); (omega); intro v7 w7 hO7 hg7; refine RowKit.Hid.out ?_)
  refine Lib.hid ?_
  rw [← List.map_append] at hO7
  have hB7 : Below w.heap.size w w7 := hB5.grown hg7 hB5.size (fun k hk => (hO5.lt k hk).1)
  have I7 := hIH.out.keep hB7
  clear hO5 hB5 hg7 hI6 b1
  go_wp2_with (at_builtin; refine wpList_append_ints rfl (.tmp 20) (.tmp 21) 34 rfl w.heap.size 5 i0 (.int .u8 0) 1 Tryd.underlying34 hi hz0 hz1 hz2 rfl rfl hO7 rfl I7 ?_ ?_ hB7.size ?_; (unfold maxLen; omega); (omega); intro v8 w8 hO8 hg8; refine RowKit.Hid.out ?_)
  refine Lib.hid ?_
  rw [← List.map_append, List.append_assoc, ← hmH.out, show 4 + 4 + n = M.length by have := hflH.out; have := hlH.out; omega] at hO8
  have hB8 : Below w.heap.size w w8 := hB7.grown hg8 hB7.size (fun k hk => (hO7.lt k hk).1)
  clear hO7 hB7 hg8 I7
  go_wp2
  go_ret
  obtain ⟨b8, d8, hv⟩ := own_slice32 hO8
  subst hv
  exact ⟨b8, d8, rfl, hO8, hB8⟩
end Go.Proofs.YtcohbhimhacedaaDoor

/-
  The document's own One (layer 19). New memory alone is written. Conditions: bytes below 256; at most 2^47 many.
-/
namespace Go.Proofs.YtcohbhimhacedaaDoor
open Go.RowKit

/-- The bytes are a frame's just where the sum fits. -/
theorem fr_eq19 {xs : List Int} (hr : ∀ x ∈ xs, 0 ≤ x ∧ x < 256) {v : Nat} (h4 : ¬ xs.length < 4) (hv : be (xs.take 4) = (v : Int)) (h8 : 8 + v ≤ xs.length) :
    (frB ((xs.drop 8).take v) = xs.take (8 + v)) ↔ be ((xs.drop 4).take 4) = sumF ((xs.drop 8).take v) := by
  have htl : (xs.take 4).length = 4 := by rw [List.length_take]; omega
  have hml : ((xs.drop 4).take 4).length = 4 := by rw [List.length_take, List.length_drop]; omega
  have hbl : ((xs.drop 8).take v).length = v := by rw [List.length_take, List.length_drop]; omega
  have hb := beL_be (xs.take 4) (fun x hx => hr x (List.mem_of_mem_take hx))
  rw [htl, hv] at hb
  have hm := beL_be ((xs.drop 4).take 4) (fun x hx => hr x (List.mem_of_mem_drop (List.mem_of_mem_take hx)))
  rw [hml] at hm
  have hsp : xs.take (8 + v) = xs.take 4 ++ ((xs.drop 4).take 4 ++ (xs.drop 8).take v) := by
    rw [show 8 + v = 4 + (4 + v) by omega, List.take_add, List.take_add, List.drop_drop]
  unfold frB
  rw [hbl, hb, hsp]
  constructor
  · intro h
    have h2 := List.append_cancel_left h
    have h3 := List.append_cancel_right h2
    rw [← h3, be_sum4]
  · intro h
    rw [← h, hm]
end Go.Proofs.YtcohbhimhacedaaDoor

/-
  Slices of slices of bytes that a call makes piece by piece ('RowsO'): what they hold, what leaves them as they are, one more; the document's own Scan and Same (layer 19). New memory alone is written. Conditions: bytes below 256; at most 2^30 many.
-/
namespace Go.Proofs.YtcohbhimhacedaaDoor
open Go.RowKit

/-- A slice of bytes that lies below B, or in a block of bytes. -/
def ElemAt (w : World) (B : Nat) (a : Option Addr) (n c : Nat) (p : List Int) : Prop :=
  Ints .u8 w a n c p ∧ ∀ x, a = some x → 0 < n → x.block < w.heap.size ∧ (x.block < B ∨ ∃ cur, w.heap[x.block]? = some (.cells cur 5 (0, 0)))
theorem ElemAt.of_owns {w : World} {B B' : Nat} {a : Option Addr} {n c : Nat} {p : List Int} (h : w.ownsRow B' 5 1 (.slice a n c) n (p.map (Value.int .u8))) : ElemAt w B a n c p := by
  obtain ⟨a', c', hv, hI⟩ := Ints.of_owns h
  injection hv with e1 _ e3
  subst e1; subst e3
  refine ⟨hI, fun x hx h0 => ⟨hI.isIn.2 x hx h0, .inr ?_⟩⟩
  rcases h.2 with ⟨hv, _⟩ | ⟨g, cap, cur, hv, _, hg, _⟩
  · injection hv with e1 e2 _
    omega
  · injection hv with e1 _ _
    rw [hx] at e1
    injection e1 with e1
    exact ⟨cur, by rw [e1]; exact hg⟩
theorem ElemAt.low {w : World} {B : Nat} {a : Option Addr} {n c : Nat} {p : List Int} (hI : Ints .u8 w a n c p) (h : ∀ x, a = some x → 0 < n → x.block < B) : ElemAt w B a n c p :=
  ⟨hI, fun x hx h0 => ⟨hI.isIn.2 x hx h0, .inl (h x hx h0)⟩⟩
theorem ElemAt.stay {w w' : World} {B : Nat} {a : Option Addr} {n c : Nat} {p : List Int} (h : ElemAt w B a n c p) (hs : w.heap.size ≤ w'.heap.size) (hk : ∀ b, b < w.heap.size → (b < B ∨ ∃ cur, w.heap[b]? = some (.cells cur 5 (0, 0))) → w'.heap[b]? = w.heap[b]?) : ElemAt w' B a n c p := by
  obtain ⟨hI, hx⟩ := h
  refine ⟨⟨hI.1, hI.2.1, ?_⟩, fun x h1 h2 => ?_⟩
  · rcases hI.2.2 with h0 | ⟨b, off, ha, hc⟩
    · exact .inl h0
    · by_cases hn : n = 0
      · exact .inl hn
      refine .inr ⟨b, off, ha, fun i hi => ?_⟩
      obtain ⟨h1, h2⟩ := hx _ ha (by omega)
      rw [← hc i hi]
      simp only [World.cell?, hk b h1 h2]
  · obtain ⟨h3, h4⟩ := hx x h1 h2
    refine ⟨Nat.lt_of_lt_of_le h3 hs, ?_⟩
    rw [hk _ h3 h4]
    exact h4
/-- A slice of such slices, of the call's own: its row lies from B on, what it points to below E, or in blocks of bytes. -/
def RowsO (w : World) (B E : Nat) (v : Value) (ps : List (List Int)) : Prop :=
  ∃ SL : List Value, w.ownsRow B 34 1 v ps.length SL ∧ ∀ i, i < ps.length → ∃ a n c, SL[i]? = some (.slice a n c) ∧ ElemAt w E a n c (ps.getD i [])
theorem RowsO.nil (w : World) (B E : Nat) : RowsO w B E (.slice none 0 0) [] := ⟨[], World.ownsRow_nil _ _ _ _, fun i hi => by cases hi⟩
theorem RowsO.low {w : World} {B B' E : Nat} {v : Value} {ps : List (List Int)} (h : RowsO w B E v ps) (hB : B' ≤ B) : RowsO w B' E v ps := by
  obtain ⟨SL, ho, hx⟩ := h
  exact ⟨SL, own_low9 ho hB, hx⟩
theorem RowsO.stay {w w' : World} {B E : Nat} {v : Value} {ps : List (List Int)} (h : RowsO w B E v ps) (hs : w.heap.size ≤ w'.heap.size) (hk : ∀ b, b < w.heap.size → (b < E ∨ ∃ cur t, w.heap[b]? = some (.cells cur t (0, 0)) ∧ (t = 5 ∨ (t = 34 ∧ B ≤ b))) → w'.heap[b]? = w.heap[b]?) : RowsO w' B E v ps := by
  obtain ⟨SL, ho, hx⟩ := h
  refine ⟨SL, own_same ho fun b hb => hk b (ho.lt b hb).2 (.inr ?_), fun i hi => ?_⟩
  · rcases ho.2 with ⟨hv, _⟩ | ⟨g, cap, cur, hv, hB, hg, _⟩
    · rw [hv] at hb; cases hb
    · rw [hv] at hb
      injection hb with hb
      subst hb
      exact ⟨cur, _, hg, .inr ⟨rfl, hB⟩⟩
  · obtain ⟨a, n, c, h1, h2⟩ := hx i hi
    exact ⟨a, n, c, h1, h2.stay hs fun b hb h3 => hk b hb (h3.imp id fun ⟨cur, h4⟩ => ⟨cur, _, h4, .inl rfl⟩)⟩
theorem RowsO.keep {w w' : World} {B E : Nat} {v : Value} {ps : List (List Int)} (h : RowsO w B E v ps) (hb : Below w.heap.size w w') : RowsO w' B E v ps := h.stay hb.size fun b hlt _ => hb.block b hlt
/-- One more. -/
theorem RowsO.snoc {w w' : World} {B E : Nat} {v v' : Value} {ps : List (List Int)} {SL : List Value} {a : Option Addr} {n c : Nat} {p : List Int} (hE : E ≤ B) (ho : w.ownsRow B 34 1 v ps.length SL) (hx : ∀ i, i < ps.length → ∃ a n c, SL[i]? = some (.slice a n c) ∧ ElemAt w E a n c (ps.getD i []))
    (hg : w.grownBy w' v.ownBlock) (he : ElemAt w E a n c p) (ho' : w'.ownsRow B 34 1 v' (ps.length + 1) (SL ++ [.slice a n c])) : RowsO w' B E v' (ps ++ [p]) := by
  have hk : ∀ b, b < w.heap.size → (b < E ∨ ∃ cur, w.heap[b]? = some (.cells cur 5 (0, 0))) → w'.heap[b]? = w.heap[b]? := fun b hb h => hg.block b hb fun e => by
    rcases ho.2 with ⟨hv, _⟩ | ⟨g, cap, cur, hv, hB, hgg, _⟩
    · rw [hv] at e; cases e
    · rw [hv] at e
      injection e with e
      have e' : b = g := e
      subst e'
      rcases h with h | ⟨cur', h⟩
      · omega
      · rw [hgg] at h
        injection h with h
        injection h with _ h _
        exact absurd h (by decide)
  have hl := ho.1
  rw [Nat.mul_one] at hl
  refine ⟨SL ++ [.slice a n c], by rw [List.length_append]; exact ho', fun i hi => ?_⟩
  rw [List.length_append, List.length_singleton] at hi
  by_cases hlt : i < ps.length
  · obtain ⟨a', n', c', h1, h2⟩ := hx i hlt
    refine ⟨a', n', c', by rw [List.getElem?_append_left (by omega)]; exact h1, ?_⟩
    rw [List.getD_eq_getElem?_getD, List.getElem?_append_left hlt, ← List.getD_eq_getElem?_getD]
    exact h2.stay hg.size hk
  · obtain rfl : i = ps.length := by omega
    refine ⟨a, n, c, by rw [List.getElem?_append_right (by omega), hl]; simp, ?_⟩
    rw [List.getD_eq_getElem?_getD, List.getElem?_append_right (Nat.le_refl _), Nat.sub_self]
    exact he.stay hg.size hk
theorem RowsO.parts {w : World} {B E : Nat} {v : Value} {ps : List (List Int)} (h : RowsO w B E v ps) : ∃ a c, v = .slice a ps.length c ∧ Parts w a ps.length c ps := by
  obtain ⟨SL, ho, hx⟩ := h
  rcases ho.2 with ⟨hv, h0⟩ | ⟨g, cap, cur, hv, hB, hg, hc, _, _, ht⟩
  · refine ⟨none, 0, by rw [hv, h0], rfl, by omega, .inl h0⟩
  · refine ⟨some ⟨g, 0, none⟩, cap, hv, rfl, hc, .inr ⟨g, 0, rfl, fun i hi => ?_⟩⟩
    obtain ⟨a, n, c, h1, h2⟩ := hx i hi
    refine ⟨a, n, c, ?_, h2.1⟩
    rw [Nat.zero_add, cell_of_row w g i cur 34 (0, 0) hg, ← Array.getElem?_toList]
    rw [Nat.mul_one] at ht
    rw [← List.getElem?_take_of_lt hi, ht]
    exact h1
theorem meas19 (n P SZ : Nat) (h1 : 1 ≤ SZ) (h2 : P + SZ ≤ n) : n + 1 - (intOf (.int .i64 ((P : Int) + (SZ : Int)))).toNat < n + 1 - (intOf (.int .i64 (P : Int))).toNat := by
  simp only [intOf]
  omega
theorem few19 {k n P : Nat} (h : 9 * k ≤ P) (hP : P ≤ n) (hn : n ≤ 1000000000) : k + 1 ≤ maxLen ∧ (k + 1) * 24 ≤ 140737488355328 := by
  unfold maxLen
  omega
theorem pos19 {P SZ L : Nat} (h : P + SZ = P + (8 + L)) : 1 ≤ SZ := by omega
theorem wrap_sum19 (a b : Nat) (h : a + b ≤ 1000000000) : wrap64 ((a : Int) + (b : Int)) = (a : Int) + (b : Int) := by unfold wrap64; omega
theorem info_sl19 : ∃ i, Tryd.prog.info? 34 = some i ∧ i.zero = some (.slice none 0 0) ∧ i.size = 1 ∧ i.bytes = 24 := by
  have h : (Tryd.prog.info? 34).map (fun i => (i.zero, i.size, i.bytes)) = some (some (.slice none 0 0), 1, 24) := by kernel_rfl
  cases hq : Tryd.prog.info? 34 with
  | none => simp [hq] at h
  | some i => rw [hq] at h; simp at h; exact ⟨i, rfl, h.1, h.2.1, h.2.2⟩
/-- What One ends in, with letters for what it tells. -/
theorem oneEnd_is {xs : List Int} {w : World} {q : Ending} {w' : World} (h : OneEnd xs w q w') {bd : List Int} {sz : Nat} {e : Int} (h1 : (oneF xs).1 = bd) (h2 : (oneF xs).2.1 = sz) (h3 : (oneF xs).2.2 = e) :
    ∃ b d, q = .returned (.tuple #[.slice b bd.length d, .int .i64 (sz : Int), .int .i64 e]) ∧ w'.ownsRow w.heap.size 5 1 (.slice b bd.length d) bd.length (bd.map (Value.int .u8)) ∧ Below w.heap.size w w' := by
  subst h1; subst h2; subst h3
  exact h
end Go.Proofs.YtcohbhimhacedaaDoor

/-
  Texts of stages that were proved on their own, joined: FrLawT. Each begins with its own words.
-/
import Derived.Test.YtkeamgogaaoliaaDoorJFrAll18
import Derived.Test.YtkeamgogaaoliaaDoorShaJoin

/-
  The law FrameTorn: frames one behind the other, and any beginning of one more, are scanned as these frames. New memory alone is written. Conditions: parts and bytes are at most a hundred million.
-/
namespace Go.Proofs.YtkeamgogaaoliaaDoor
open Go.RowKit

/-- The bodies that have a frame. -/
def goodL (L : List (List Int)) : List (List Int) := L.filter fun p => decide (1 ≤ p.length)
theorem goodL_snoc (L : List (List Int)) (j : Nat) (hj : j < L.length) : goodL (L.take (j + 1)) = if 1 ≤ (L.getD j []).length then goodL (L.take j) ++ [L.getD j []] else goodL (L.take j) := by
  have e : L.take (j + 1) = L.take j ++ [L[j]] := by rw [List.take_add_one, List.getElem?_eq_getElem hj]; rfl
  have g : L.getD j [] = L[j] := by rw [List.getD_eq_getElem?_getD, List.getElem?_eq_getElem hj]; rfl
  unfold goodL
  rw [e, g, List.filter_append]
  by_cases h : 1 ≤ L[j].length
  · rw [if_pos h, List.filter_cons_of_pos (by simpa using h), List.filter_nil]
  · rw [if_neg h, List.filter_cons_of_neg (by simpa using h), List.filter_nil, List.append_nil]
theorem goodL_len : ∀ L : List (List Int), ((goodL L).map frB).flatten.length ≤ 8 * L.length + L.flatten.length
  | [] => Nat.le_refl _
  | p :: L => by
    have ih := goodL_len L
    unfold goodL at ih ⊢
    by_cases h : 1 ≤ p.length
    · rw [List.filter_cons_of_pos (by simpa using h), List.map_cons, List.flatten_cons, List.flatten_cons, List.length_append, List.length_append, List.length_cons, frB_len]
      omega
    · rw [List.filter_cons_of_neg (by simpa using h), List.flatten_cons, List.length_append, List.length_cons]
      omega
theorem goodL_count (L : List (List Int)) : (goodL L).length ≤ L.length := List.length_filter_le _ _
theorem flat_snoc19 (L : List (List Int)) (p : List Int) : ((L ++ [p]).map frB).flatten = (L.map frB).flatten ++ frB p := by simp
theorem len_mem19 {L : List (List Int)} {p : List Int} (h : p ∈ L) : p.length ≤ L.flatten.length := by
  induction L with
  | nil => cases h
  | cons q L ih =>
    rw [List.flatten_cons, List.length_append]
    rcases List.mem_cons.1 h with rfl | h
    · omega
    · have := ih h; omega
theorem getD_mem19 {L : List (List Int)} {j : Nat} (h : j < L.length) : L.getD j [] ∈ L := by
  rw [List.getD_eq_getElem?_getD, List.getElem?_eq_getElem h]
  exact List.getElem_mem _
/-- A row of another type is left alone. -/
theorem own_other19 {w w' : World} {B1 B2 : Nat} {t1 t2 : TypeId} {v1 v2 : Value} {n1 n2 : Nat} {xs1 xs2 : List Value} (h1 : w.ownsRow B1 t1 1 v1 n1 xs1) (h2 : w.ownsRow B2 t2 1 v2 n2 xs2) (ht : t1 ≠ t2) (hg : w.grownBy w' v2.ownBlock) : w'.ownsRow B1 t1 1 v1 n1 xs1 := by
  refine own_same h1 fun b hb => hg.block b (h1.lt b hb).2 fun e => ?_
  rcases h1.2 with ⟨hv, _⟩ | ⟨g1, _, cur1, hv1, _, hg1, _⟩
  · rw [hv] at hb; cases hb
  rcases h2.2 with ⟨hv, _⟩ | ⟨g2, _, cur2, hv2, _, hg2, _⟩
  · rw [hv] at e; cases e
  rw [hv1] at hb
  rw [hv2] at e
  injection hb with hb
  injection e with e
  have hb' : g1 = b := hb
  have e' : b = g2 := e
  subst hb'
  subst e'
  rw [hg1] at hg2
  injection hg2 with hg2
  injection hg2 with _ hg2 _
  exact ht hg2
/-- What is wanted: slices that came in. -/
def WantO (w w' : World) (B : Nat) (v : Value) (ps : List (List Int)) : Prop := ∃ SL : List Value, w'.ownsRow B 22 1 v ps.length SL ∧ ∀ i, i < ps.length → ∃ a n c, SL[i]? = some (.slice a n c) ∧ Ints .u8 w a n c (ps.getD i [])
theorem WantO.parts {w w' : World} {B : Nat} {v : Value} {ps : List (List Int)} (h : WantO w w' B v ps) (hb : Below w.heap.size w w') : ∃ a c, v = .slice a ps.length c ∧ Parts w' a ps.length c ps := by
  obtain ⟨SL, ho, hx⟩ := h
  exact RowsO.parts (B := B) (E := w.heap.size) ⟨SL, ho, fun i hi => by
    obtain ⟨a, n, c, h1, h2⟩ := hx i hi
    exact ⟨a, n, c, h1, ElemAt.low (h2.keep hb) h2.isIn.2⟩⟩
theorem want_snoc {w : World} {ps : List (List Int)} {SL : List Value} {a : Option Addr} {n c : Nat} {p : List Int} (hl : SL.length = ps.length) (hx : ∀ i, i < ps.length → ∃ a n c, SL[i]? = some (.slice a n c) ∧ Ints .u8 w a n c (ps.getD i [])) (hI : Ints .u8 w a n c p) :
    ∀ i, i < (ps ++ [p]).length → ∃ a' n' c', (SL ++ [Value.slice a n c])[i]? = some (.slice a' n' c') ∧ Ints .u8 w a' n' c' ((ps ++ [p]).getD i []) := by
  intro i hi
  rw [List.length_append, List.length_singleton] at hi
  by_cases hlt : i < ps.length
  · obtain ⟨a', n', c', h1, h2⟩ := hx i hlt
    refine ⟨a', n', c', by rw [List.getElem?_append_left (by omega)]; exact h1, ?_⟩
    rw [List.getD_eq_getElem?_getD, List.getElem?_append_left hlt, ← List.getD_eq_getElem?_getD]
    exact h2
  · obtain rfl : i = ps.length := by omega
    refine ⟨a, n, c, by rw [List.getElem?_append_right (by omega), hl]; simp, ?_⟩
    rw [List.getD_eq_getElem?_getD, List.getElem?_append_right (Nat.le_refl _), Nat.sub_self]
    exact hI
theorem cut_idx19 (t : Int) (L : Nat) (ht : 0 ≤ t ∧ t < 65536) (hL : 1 ≤ L ∧ L ≤ 400) : ∃ k : Nat, wrap64 t = t ∧ t.tmod (L : Int) = (k : Int) ∧ k < L := by
  refine ⟨(t % (L : Int)).toNat, by unfold wrap64; omega, ?_, ?_⟩
  · rw [Int.tmod_eq_emod_of_nonneg ht.1]
    have := Int.emod_nonneg t (show (L : Int) ≠ 0 by omega)
    omega
  · have := Int.emod_nonneg t (show (L : Int) ≠ 0 by omega)
    have := Int.emod_lt_of_pos t (show (0 : Int) < (L : Int) by omega)
    omega
theorem torn_nums19 {n j T F : Nat} {x : Nat} (hf : n + T ≤ 1000) (hj : j ≤ n) (hF : F ≤ 8 * j + T) (hx : x ≤ 1008) : F + x ≤ maxLen ∧ (F + x) * 1 ≤ 140737488355328 ∧ F + x ≤ 1000000000 := by
  unfold maxLen
  omega
theorem torn_cnt19 {n j C : Nat} (hf : n ≤ 1000) (hj : j ≤ n) (hC : C ≤ j) : C + 1 ≤ maxLen ∧ (C + 1) * 24 ≤ 140737488355328 := by
  unfold maxLen
  omega

set_option maxRecDepth 100000 in
set_option maxHeartbeats 4000000 in
theorem torn_any (a : Option Addr) (n c : Nat) (ps : List (List Int)) (b : Option Addr) (m d : Nat) (ys : List Int) (t : Int) (w : World) (hG : Glob11 w) (hP : Parts w a n c ps) (hr : ∀ p ∈ ps, ∀ y ∈ p, 0 ≤ y ∧ y < 256) (hm : n + ps.flatten.length ≤ 100000000) (hJ : Ints .u8 w b m d ys) (hs : ∀ x ∈ ys, 0 ≤ x ∧ x < 256) (ht : 0 ≤ t ∧ t < 65536) :
    Calls Tryd.prog 5 #[.slice a n c, .slice b m d, .int .u16 t] w fun q w' => q = .returned (.bool true) ∧ Below w.heap.size w w' := by
  obtain ⟨i0, hi, hz0, hz1, hz2⟩ := info_u8b
  obtain ⟨i1, ji, jz0, jz1, jz2⟩ := info_sl19
  have hBL : Below w.heap.size w w := Below.refl _ _
  have hF := refFew_any a n c ps w hP (by omega) (by omega) 1000 1000 rfl
  by_cases hf : n + ps.flatten.length ≤ 1000
  case neg =>
    rw [decide_eq_false hf] at hF
    clear hP hr hm hJ hs hf
    go_enter Tryd.func5, Tryd.ntmps5
    go_wp2_with fail
    refine hF.mono ?_
    rintro q w1 ⟨rfl, rfl⟩
    go_wp2_with fail
    refine (alive19_any _ (hG.keep hBL (Nat.le_refl _))).mono ?_
    rintro q wz ⟨rfl, bz⟩
    have hBz := hBL.trans (bz.mono hBL.size)
    clear bz hBL
    go_wp2
    go_ret
    exact ⟨rfl, hBz⟩
  rw [decide_eq_true hf] at hF
  by_cases hm3 : 300 < m
  · have hm3i : (300 : Int) < (m : Int) := by omega
    clear hP hr hm hJ hs hf hm3
    go_enter Tryd.func5, Tryd.ntmps5
    go_wp2_with fail
    refine hF.mono ?_
    rintro q w1 ⟨rfl, rfl⟩
    go_wp2_with fail
    refine (alive19_any _ (hG.keep hBL (Nat.le_refl _))).mono ?_
    rintro q wz ⟨rfl, bz⟩
    have hBz := hBL.trans (bz.mono hBL.size)
    clear bz hBL
    go_wp2
    go_ret
    exact ⟨rfl, hBz⟩
  have hm3i : ¬ (300 : Int) < (m : Int) := by omega
  by_cases hm0 : m = 0
  · subst hm0
    clear hP hr hm hJ hs hf hm3
    go_enter Tryd.func5, Tryd.ntmps5
    go_wp2_with fail
    refine hF.mono ?_
    rintro q w1 ⟨rfl, rfl⟩
    go_wp2_with fail
    refine (alive19_any _ (hG.keep hBL (Nat.le_refl _))).mono ?_
    rintro q wz ⟨rfl, bz⟩
    have hBz := hBL.trans (bz.mono hBL.size)
    clear bz hBL
    go_wp2
    go_ret
    exact ⟨rfl, hBz⟩
  have hm0i : ¬ (m : Int) = 0 := by omega
  have gA : decide ((300 : Int) < (m : Int)) = false := decide_eq_false hm3i
  have gB : ((m : Int) == 0) = false := by simpa using hm0
  have gC : decide (300 < m) = false := decide_eq_false hm3
  have hpl := hP.len
  have hyl := hJ.len
  have hfH := Lib.hid hf
  have hPH := Lib.hid hP
  have hrH := Lib.hid hr
  have hJH := Lib.hid hJ
  have hsH := Lib.hid hs
  have hGH := Lib.hid hG
  have hplH := Lib.hid hpl
  have hylH := Lib.hid hyl
  have hmH := Lib.hid (show 1 ≤ m ∧ m ≤ 300 by omega)
  have htk := Lib.hid (fun j => flatten_take_le ps j)
  clear hP hr hm hJ hs hf hm3 hpl hyl hG hBL
  go_enter Tryd.func5, Tryd.ntmps5
  go_wp2_with fail
  refine hF.mono ?_
  rintro q w1 ⟨rfl, rfl⟩
  clear hF
  go_wp2_with fail
  go_loopw [7, 8, 34] (fun bv wv i wr => ∃ j : Nat, j ≤ n ∧ i = .int .i64 (j : Int) ∧ wr.ownsRow w.heap.size 5 1 bv ((goodL (ps.take j)).map frB).flatten.length (((goodL (ps.take j)).map frB).flatten.map (Value.int .u8)) ∧ WantO w wr w.heap.size wv (goodL (ps.take j)) ∧ Below w.heap.size w wr) (fun _ _ i _ => n - (intOf i).toNat)
  case atStart => exact ⟨0, Nat.zero_le _, rfl, World.ownsRow_nil _ _ _ _, ⟨[], World.ownsRow_nil _ _ _ _, fun i hi => by cases hi⟩, Below.refl _ _⟩
  case round =>
    obtain ⟨j, hj, rfl, hO, hW, hB⟩ := hrel
    by_cases hlt : j < n
    · have hji : (j : Int) < (n : Int) := Int.ofNat_lt.2 hlt
      have hni : (n : Int) ≤ 1000 := by have := hfH.out; omega
      obtain ⟨rb, ro, hra, hat⟩ := hPH.out.at (Nat.lt_of_le_of_lt (Nat.zero_le _) hlt)
      obtain ⟨A, l, e, cel, hIx⟩ := hat j hlt
      have cel' : wr.cell? ⟨rb, ro + j, none⟩ = some (.slice A l e) := by rw [hB.cell (World.block_lt_of_cell? w _ cel)]; exact cel
      have hpr := getD_mem_range hrH.out j
      have hlm := len_mem19 (getD_mem19 (L := ps) (j := j) (by rw [hplH.out]; exact hlt))
      have hsn := goodL_snoc ps j (by rw [hplH.out]; exact hlt)
      have hgl := goodL_len (ps.take j)
      have hgc := goodL_count (ps.take j)
      rw [List.length_take_of_le (by rw [hplH.out]; exact hj)] at hgl hgc
      have hgt := Nat.le_trans hgl (Nat.add_le_add_left (htk.out j) _)
      obtain ⟨p, hp⟩ : ∃ p, ps.getD j [] = p := ⟨_, rfl⟩
      rw [hp] at hIx hpr hlm hsn
      have hll := hIx.len
      obtain ⟨GL, hGL⟩ : ∃ g, goodL (ps.take j) = g := ⟨_, rfl⟩
      rw [hGL] at hO hW hsn hgt hgc
      have hsnH := Lib.hid hsn
      have henc := fEncode_any A l e p wr (hGH.out.keep hB (Nat.le_refl _)) (hIx.keep hB) hpr (by have := hfH.out; omega)
      have hltH := Lib.hid hlt
      subst hra
      by_cases hl1 : l < 1
      · have e0 : encF p = ([], 1) := by unfold encF; rw [if_pos (by omega)]
        rw [e0] at henc
        dsimp only at henc
        rw [show ([] : List Int).length = 0 from rfl] at henc
        have hsn2 := Lib.hid (show goodL (ps.take (j + 1)) = GL by rw [hsn, if_neg (by omega)])
        clear hj hlt hat cel hIx hpr hlm hsn hgl hgc hgt hp hll hGL hl1 e0
        go_wp2_with fail
        refine henc.mono ?_
        rintro q w2 ⟨y, yd, rfl, _, b2⟩
        have hO2 := own_stay9 hO b2
        obtain ⟨SL, hW2, hx⟩ := hW
        have hW3 := own_stay9 hW2 b2
        have hB2 := hB.trans (b2.mono hB.size)
        clear henc hO hW2 hB b2
        go_wp2
        exact ⟨⟨j + 1, hltH.out, by congr 1, by rw [hsn2.out]; exact hO2, by rw [hsn2.out]; exact ⟨SL, hW3, hx⟩, hB2⟩, by simp only [intOf]; have := hltH.out; omega⟩
      · have e0 : encF p = (frB p, 0) := by unfold encF; rw [if_neg (by have := hfH.out; omega)]
        rw [e0] at henc
        dsimp only at henc
        have hfl := frB_len p
        rw [hll] at hfl
        rw [hfl] at henc
        have hsn2 := Lib.hid (show goodL (ps.take (j + 1)) = GL ++ [p] by rw [hsn, if_pos (by omega)])
        obtain ⟨n1, n2, n3⟩ := torn_nums19 (x := 8 + l) hfH.out hj hgt (by have := hfH.out; omega)
        obtain ⟨n4, n5⟩ := torn_cnt19 (Nat.le_trans (Nat.le_add_right _ _) hfH.out) hj hgc
        have hsnf := Lib.hid (flat_snoc19 GL p)
        obtain ⟨BS, hBS⟩ : ∃ g, (GL.map frB).flatten = g := ⟨_, rfl⟩
        rw [hBS] at hO n1 n2 hsnf
        have hIxH := Lib.hid hIx
        clear hj hlt hat cel hIx hpr hlm hsn hgl hgc hgt hp hll hGL hl1 e0 hBS n3
        go_wp2_with fail
        refine henc.mono ?_
        rintro q w2 ⟨y, yd, rfl, ho2, b2⟩
        have hO2 := own_stay9 hO b2
        obtain ⟨SL, hW2, hx⟩ := hW
        have hW3 := own_stay9 hW2 b2
        have hB2 := hB.trans (b2.mono hB.size)
        obtain ⟨y', yd', hv, hIy⟩ := Ints.of_owns ho2
        injection hv with e1 _ e3
        subst e1; subst e3
        clear henc hO hW2 hB b2 ho2
        go_wp2_with (at_builtin; refine wpList_append_ints rfl (.tmp 45) (.tmp 46) 22 rfl w.heap.size 5 i0 (.int .u8 0) 1 Tryd.underlying22 hi hz0 hz1 hz2 rfl rfl hO2 rfl hIy ?_ ?_ hB2.size ?_; exact n1; exact n2; intro v4 w4 hO4 hg4; refine RowKit.Hid.out ?_)
        refine Lib.hid ?_
        have hW4 := own_other19 hW3 hO2 (by decide) hg4
        rw [← List.map_append] at hO4
        have hB4 : Below w.heap.size w w4 := hB2.grown hg4 hB2.size (fun k hk => (hO2.lt k hk).1)
        clear hO2 hW3 hg4 hIy hB2
        have hW5 := hW4.alloc (.cells #[.slice A l e] 22)
        have hO5 := hO4.alloc (.cells #[.slice A l e] 22)
        have hB5 := hB4.alloc hB4.size (.cells #[.slice A l e] 22)
        clear hW4 hO4 hB4
        go_wp2_with (at_builtin; refine wpList_append_own _ rfl _ _ 32 rfl w.heap.size 22 i1 (.slice none 0 0) 1 24 Tryd.underlying32 ji jz0 jz1 jz2 rfl (by decide) _ _ _ rfl hW5 ⟨w4.heap.size, 0, none⟩ 1 1 [.slice A l e] rfl rfl ?c1 ?c2 ?c3 ?c4 ?c5 ?_)
        case c1 =>
          intro t u ht
          rcases t with _ | t
          · obtain rfl : u = .slice A l e := by simpa using ht.symm
            exact World.cell?_alloc_at (w := w4) #[.slice A l e] 22 w4.heap.size 0 rfl
          · simp at ht
        case c2 => simp [Value.oneCell']
        case c3 => exact n4
        case c4 => exact n5
        case c5 => exact hB5.size
        intro v6 w6 hW6 hg6 _
        have hO6 := own_other19 hO5 hW5 (by decide) hg6
        have hB6 : Below w.heap.size w w6 := hB5.grown hg6 hB5.size (fun k hk => (hW5.lt k hk).1)
        have hSl := hW5.1
        rw [Nat.mul_one] at hSl
        have hx6 := want_snoc hSl hx hIxH.out
        have hO7 : w6.ownsRow w.heap.size 5 1 v4 ((goodL (ps.take (j + 1))).map frB).flatten.length (((goodL (ps.take (j + 1))).map frB).flatten.map (Value.int .u8)) := by
          rw [hsn2.out, hsnf.out, List.length_append, hfl]
          exact hO6
        have hW7 : WantO w w6 w.heap.size v6 (goodL (ps.take (j + 1))) := by
          rw [hsn2.out]
          exact ⟨_, by rw [List.length_append]; exact hW6, hx6⟩
        clear hW5 hO5 hg6 hW6 hO6 hSl hx6 hx n1 n2 n4 n5 hB5
        go_wp2
        exact ⟨⟨j + 1, hltH.out, by congr 1, hO7, hW7, hB6⟩, by simp only [intOf]; have := hltH.out; omega⟩
    · obtain rfl : j = n := Nat.le_antisymm hj (Nat.not_lt.1 hlt)
      rw [List.take_of_length_le (by rw [hplH.out]; exact Nat.le_refl _)] at hO hW
      have hgl := goodL_len ps
      have hgc := goodL_count ps
      rw [hplH.out] at hgl hgc
      have hgr : ∀ q ∈ goodL ps, ∀ x ∈ q, 0 ≤ x ∧ x < 256 := fun q hq => hrH.out q (List.mem_filter.1 hq).1
      have hg1 : ∀ q ∈ goodL ps, 1 ≤ q.length ∧ q.length ≤ 65536 := fun q hq => ⟨by simpa using (List.mem_filter.1 hq).2, by have := len_mem19 (List.mem_filter.1 hq).1; have := hfH.out; omega⟩
      have e0 : encF ys = (frB ys, 0) := by unfold encF; rw [if_neg (by rw [hylH.out]; have := hmH.out; omega)]
      have hfl := frB_len ys
      rw [hylH.out] at hfl
      have henc := fEncode_any b m d ys wr (hGH.out.keep hB (Nat.le_refl _)) (hJH.out.keep hB) hsH.out (by have := hmH.out; omega)
      rw [e0] at henc
      dsimp only at henc
      rw [hfl] at henc
      obtain ⟨L, hL⟩ : ∃ L, 8 + m = L := ⟨_, rfl⟩
      have hLb : 1 ≤ L ∧ L ≤ 400 := by have := hmH.out; omega
      obtain ⟨k, hk1, hk2, hk3⟩ := cut_idx19 t L ht hLb
      have htorn := one_torn ys k (by rw [hylH.out]; exact hmH.out.1) (by rw [hylH.out]; have := hmH.out; omega) (by rw [hylH.out, hL]; exact hk3)
      have htf := torn_fr (goodL ps) ((frB ys).take k) hg1 (by rw [htorn]; decide)
      have hfr := frB_range hsH.out
      rw [hL] at henc hfl
      obtain ⟨M, hM⟩ : ∃ M, frB ys = M := ⟨_, rfl⟩
      rw [hM] at henc hfl htf hfr
      obtain ⟨GL, hGL⟩ : ∃ g, goodL ps = g := ⟨_, rfl⟩
      rw [hGL] at hO hW hgl hgc hgr hg1 htf
      have hbr : ∀ x ∈ (GL.map frB).flatten, 0 ≤ x ∧ x < 256 := fun x hx => by
        obtain ⟨z, hz, hx⟩ := List.mem_flatten.1 hx
        obtain ⟨q, hq, rfl⟩ := List.mem_map.1 hz
        exact frB_range (hgr q hq) x hx
      obtain ⟨BS, hBS⟩ : ∃ g, (GL.map frB).flatten = g := ⟨_, rfl⟩
      rw [hBS] at hO hgl htf hbr
      obtain ⟨BL, hBL⟩ : ∃ g, BS.length = g := ⟨_, rfl⟩
      rw [hBL] at hO hgl htf
      obtain ⟨C, hC⟩ : ∃ g, GL.length = g := ⟨_, rfl⟩
      rw [hC] at hgc htf
      obtain ⟨htF, htB, htA⟩ := htf
      have hLi : ¬ (L : Int) = 0 := by omega
      have hki : (k : Int) ≤ (L : Int) := by omega
      have hBLb := Lib.hid (show BL ≤ 9000 by have := hfH.out; omega)
      have hCb := Lib.hid (show C ≤ 1000 by have := hfH.out; omega)
      have hLbH := Lib.hid hLb
      have hkH := Lib.hid hk3
      have htFH := Lib.hid htF
      have htBH := Lib.hid htB
      have htAH := Lib.hid htA
      have hflH := Lib.hid hfl
      have hfrH := Lib.hid hfr
      have hbrH := Lib.hid hbr
      have hgrH := Lib.hid hgr
      have hCH := Lib.hid hC
      have hBLH := Lib.hid hBL
      clear hgl hgc hgr hg1 e0 hfl hL hLb hk3 htorn hM hfr hGL hbr hBS hBL hC htF htB htA hlt hj
      obtain ⟨ba, bc, rfl⟩ := own_slice32 hO
      go_wp2_with fail
      refine henc.mono ?_
      rintro q w2 ⟨y, yd, rfl, ho2, b2⟩
      have hO2 := own_stay9 hO b2
      obtain ⟨SL, hW2, hx⟩ := hW
      have hW3 := own_stay9 hW2 b2
      have hB2 := hB.trans (b2.mono hB.size)
      obtain ⟨y', yd', hv, hIy⟩ := Ints.of_owns ho2
      injection hv with e1 _ e3
      subst e1; subst e3
      have hcap := hIy.2.1
      have s74 : ∀ wx : World, (Instr.sliceAt 22 (.slice y L yd) none (some (.int .i64 (k : Int))) none).run Tryd.prog wx = .ok (.slice y k yd) wx := fun wx => sl_to19 y k (by have := hkH.out; omega) wx
      have hIk := ints_to19 hIy (u := k) (Nat.le_of_lt hkH.out)
      clear henc hO hW2 hB b2 ho2 hIy hcap
      go_wp2_with (at_builtin; refine wpList_append_ints rfl (.tmp 67) (.tmp 74) 22 rfl w.heap.size 5 i0 (.int .u8 0) 1 Tryd.underlying22 hi hz0 hz1 hz2 rfl rfl hO2 rfl hIk ?_ ?_ hB2.size ?_; (have := hBLb.out; have := hkH.out; have := hLbH.out; unfold maxLen; omega); (have := hBLb.out; have := hkH.out; have := hLbH.out; omega); intro v4 w4 hO4 hg4; refine RowKit.Hid.out ?_)
      refine Lib.hid ?_
      have hW4 := own_other19 hW3 hO2 (by decide) hg4
      rw [← List.map_append] at hO4
      have hB4 : Below w.heap.size w w4 := hB2.grown hg4 hB2.size (fun k hk => (hO2.lt k hk).1)
      obtain ⟨b4, d4, rfl, hI4⟩ := Ints.of_owns hO4
      have hscan := fScan_any b4 (BL + k) d4 (BS ++ M.take k) C htFH.out w4 (hGH.out.keep hB4 (Nat.le_refl _)) hI4 (fun x hx => (List.mem_append.1 hx).elim (hbrH.out x) (fun h => hfrH.out x (List.mem_of_mem_take h))) (by have := hBLb.out; have := hkH.out; have := hLbH.out; omega)
      rw [htBH.out, htAH.out] at hscan
      obtain ⟨wa, wc, rfl, _⟩ := WantO.parts ⟨SL, hW4, hx⟩ hB4
      clear hO2 hW3 hg4 hIk hB2 hO4 hI4 s74
      go_wp2_with fail
      refine hscan.mono ?_
      rintro q w5 ⟨lv, rfl, hlr, b5⟩
      have hW5 := own_stay9 hW4 b5
      have hB5 := hB4.trans (b5.mono hB4.size)
      obtain ⟨la, lc, rfl, hlP⟩ := hlr.parts
      obtain ⟨wa', wc', hv, hwP⟩ := WantO.parts ⟨SL, hW5, hx⟩ hB5
      injection hv with e1 e2 e3
      subst e1; subst e3
      clear e2
      rw [hCH.out] at hlP hwP ⊢
      have hsame := r19Same_any la wa C lc wc GL w5 hlP hwP hgrH.out (by have := hCb.out; omega)
      have hG := hGH.out
      clear hscan hlr b5 hW5 hB4 hW4 hlP hwP hx
      go_wp2_with fail
      refine hsame.mono ?_
      rintro q w6 ⟨rfl, b6⟩
      have hBL := hB5.trans (b6.mono hB5.size)
      clear hsame b6 hB5
      go_wp2_with fail
      refine (alive19_any _ (hG.keep hBL (Nat.le_refl _))).mono ?_
      rintro q wz ⟨rfl, bz⟩
      have hBz := hBL.trans (bz.mono hBL.size)
      clear bz hBL
      go_wp2
      go_ret
      exact ⟨rfl, hBz⟩
end Go.Proofs.YtkeamgogaaoliaaDoor

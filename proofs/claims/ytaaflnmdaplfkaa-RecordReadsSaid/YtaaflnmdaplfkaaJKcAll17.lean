/-
  Texts of stages that were proved on their own, joined: RpIds. Each begins with its own words.
-/
import Derived.Test.YtaaflnmdaplfkaaJKcAll14
import Derived.Test.YtaaflnmdaplfkaaJKcAll15
import Derived.Test.YtaaflnmdaplfkaaJKcAll16
import Derived.Great.BuildSlice

/-
  What the program's Ids comes to. New memory and the reader alone are written. Conditions: those of a reader in memory.
-/
namespace Go.Proofs.Ytaaflnmdaplfkaa
open Go.RowKit Go.Shelf
attribute [local go_sem] Oper.semAt_some

theorem run_array_at9 {P : Program} (ty e : TypeId) (n : Nat) (hu : P.underlying ty = some (.array n e)) (A : Option Addr) (len cap : Nat) (hn : n ≤ len) (w : World) :
    (Instr.arrayAt ty (.slice A len cap)).run P w = .ok (.pointer A) w := by
  simp [Instr.arrayAt, run_underlying hu, Nat.not_lt.2 hn]

theorem nx_ids (n p : Nat) (e A : Int) (_hp : p ≤ n) : nx n p e (decide (0 ≤ A)) A 32 = ((rdIds n p e A).1, (rdIds n p e A).2.1, 32 * (rdIds n p e A).2.2) := by
  unfold nx rdIds
  by_cases he : e ≠ 0
  · rw [if_pos he, if_pos he]
    rfl
  · rw [if_neg he, if_neg he]
    by_cases h : A < 0
    · rw [if_pos h, if_pos (decide_eq_false (by omega))]
      rfl
    · rw [if_neg h, if_neg (by rw [decide_eq_true (by omega)]; decide)]
      by_cases h2 : (((n - p) / 32 : Nat) : Int) < A
      · rw [if_pos h2, if_pos h2]
        rfl
      · rw [if_neg h2, if_neg h2, Nat.mul_comm 32]

/-- The bytes of the pieces. -/
def flat (Y : List Int) (l : List Nat) : List Int := l.flatMap (fun x => (Y.drop (32 * x)).take 32)
theorem flat_snoc (Y : List Int) (l : List Nat) (x : Nat) : flat Y (l ++ [x]) = flat Y l ++ (Y.drop (32 * x)).take 32 := by simp [flat]
theorem flat_range (Y : List Int) : ∀ k, flat Y (List.range k) = Y.take (32 * k)
  | 0 => by simp [flat]
  | k + 1 => by
    rw [List.range_succ, flat_snoc, flat_range Y k, show 32 * (k + 1) = 32 * k + 32 by omega, List.take_add]

theorem ints_own9 {k : IntKind} {a : Option Addr} {n c : Nat} {xs : List Int} {β : Type} : Own (fun (_ : β) W => Ints k W a n c xs) := by
  intro s X Z row h hg hr
  refine ⟨h.1, h.2.1, ?_⟩
  rcases h.2.2 with h0 | ⟨b, off, ha, hc⟩
  · exact .inl h0
  · exact .inr ⟨b, off, ha, fun i hi => cell_kept (hc i hi) hg hr⟩
theorem ownFrom_and3 {β : Type} {B : Nat} {I J : β → World → Prop} (h : OwnFrom B I) (k : OwnFrom B J) : OwnFrom B (fun s W => I s W ∧ J s W) := fun s W W' row hs hg hr => ⟨h s W W' row hs.1 hg hr, k s W W' row hs.2 hg hr⟩

set_option maxRecDepth 100000 in
set_option maxHeartbeats 2000000 in
theorem pIds_own {F : Nat → Prop} {w : World} {g : Nat} {xs : List Int} {p : Nat} {e : Int} (A : Int) (h : RdAt F w g xs p e) :
    Calls Try.prog 67 #[.pointer (some ⟨g, 0, none⟩), .int .i64 A] w fun r w' => ∃ b c, r = .returned (.slice b (rdIds xs.length p e A).2.2 c) ∧ IdsAt w' b (rdIds xs.length p e A).2.2 c ((xs.drop p).take (32 * (rdIds xs.length p e A).2.2)) ∧ (∀ x, b = some x → w.heap.size ≤ x.block) ∧ RdAt F w' g xs (rdIds xs.length p e A).1 (rdIds xs.length p e A).2.1 ∧ Moved F w w' := by
  have hw := h.within
  have hm := h.most
  have hc := fun W (hW : RdAt F W g xs p e) => pNext_any { data := #[105, 100, 115] } (decide (0 ≤ A)) A 32 hW (by decide) (fun h => of_decide_eq_true h)
  rw [nx_ids _ _ _ _ hw] at hc
  dsimp only at hc
  have hle := (rdIds_le (n := xs.length) e A hw).2
  obtain ⟨K, hK⟩ : ∃ K, (rdIds xs.length p e A).2.2 = K := ⟨_, rfl⟩
  obtain ⟨P, hP⟩ : ∃ P, (rdIds xs.length p e A).1 = P := ⟨_, rfl⟩
  obtain ⟨E, hE⟩ : ∃ E, (rdIds xs.length p e A).2.1 = E := ⟨_, rfl⟩
  rw [hK, hP, hE] at hc ⊢
  rw [hK] at hle
  obtain ⟨Y, hY⟩ : ∃ Y, (xs.drop p).take (32 * K) = Y := ⟨_, rfl⟩
  rw [hY] at hc ⊢
  rw [show ((32 : Nat) : Int) = 32 from rfl] at hc
  have hK4 : K ≤ 40000 := by omega
  have hlt := Lib.hid h.lt
  have hKH := Lib.hid hK4
  have hcH := Lib.hid hc
  clear hK hP hE hY hle hm hw hc hK4
  refine (callsIn_wide (n := 9)).1 (callsIn_of_wp_marks Try.func67 rfl trivial (wpIn_wide.2 ?_) rfl)
  simp only [Try.ntmps67, List.size_toArray, List.length_cons, List.length_nil, Nat.reduceAdd, Nat.reduceSub, Array.replicate_succ, Array.replicate_zero, List.push_toArray, List.append_toArray, List.nil_append, List.cons_append]
  go_wp2_with fail
  obtain ⟨W0, hW0⟩ : ∃ W0, w.alloc (.cells #[.slice none 0 0] 29) = W0 := ⟨_, rfl⟩
  have hl0 : Blk W0 w.heap.size 29 [.slice none 0 0] := by rw [← hW0]; exact Blk.new w _ _
  have b0 : Below w.heap.size w W0 := by rw [← hW0]; exact below1 w _
  have hR0 := h.keep (fun b hb => b0.block b (h.lt b hb)) b0.size
  have hs0 : W0.heap.size = w.heap.size + 1 := by rw [← hW0]; exact size1 w _
  rw [hW0]
  clear hW0
  refine (hcH.out W0 hR0).mono ?_
  rintro r w1 ⟨a, c, rfl, hI, hx, hR1, hM1⟩
  clear hcH hR0
  go_wp2_with fail
  refine (chunk_any a (32 * K) c w1).mono ?_
  rintro r W1 ⟨rfl, hW1⟩
  go_wp2_with fail
  clear hW1 W1
  obtain ⟨BL, hBL⟩ : ∃ BL, w.heap.size = BL := ⟨_, rfl⟩
  obtain ⟨G1, hG1⟩ : ∃ G1, w1.heap.size = G1 := ⟨_, rfl⟩
  obtain ⟨W1, hW1⟩ : ∃ W1, (w1.alloc (.cells #[.slice a (32 * K) c] 26)).alloc (.cells #[.int .i64 32] 3) = W1 := ⟨_, rfl⟩
  have bW : Below G1 w1 W1 := by rw [← hW1, ← hG1]; exact below2 w1 _ _
  have nfl : ¬ F BL := fun hf => by have := hlt.out _ hf; omega
  have hG : BL < G1 := by rw [← hG1, ← hBL]; have := hM1.size; omega
  have hl1 : Boxed w1 BL 29 (.slice none 0 0) := by
    rw [hBL] at hl0
    exact (hM1.2 BL hl0.lt nfl).trans hl0
  have hlW : Boxed W1 BL 29 (.slice none 0 0) := (bW.block BL hG).trans hl1
  have hIW : Ints .u8 W1 a (32 * K) c Y := hI.keep (by rw [hG1]; exact bW)
  have hRW : RdAt F W1 g xs P E := hR1.keep (fun b hb => bW.block b (by rw [← hG1]; exact hR1.lt b hb)) (by rw [hG1]; have := bW.size; omega)
  have hMW : Moved F w W1 := (hM1.after b0).then (Moved.of_below (by rw [hG1]; exact bW))
  have hs1 : W1.heap.size = G1 + 2 := by rw [← hW1, ← hG1]; exact size2 w1 _ _
  have hc1 : W1.cell? ⟨G1, 0, none⟩ = some (.slice a (32 * K) c) := by rw [← hW1, ← hG1]; exact ((Blk.new w1 26 [.slice a (32 * K) c]).alloc _).cell 0
  have hc2 : W1.cell? ⟨G1 + 1, 0, none⟩ = some (.int .i64 32) := by rw [← hW1, ← hG1]; exact (Blk.new1 w1 _ 3 [.int .i64 32]).cell 0
  obtain ⟨b, off, hA⟩ : ∃ b off, 0 < K → a = some ⟨b, off, none⟩ := by
    rcases Nat.eq_zero_or_pos K with h0 | h0
    · exact ⟨0, 0, fun h => by omega⟩
    · obtain ⟨b, off, ha, _⟩ := hI.at (by omega)
      exact ⟨b, off, fun _ => ha⟩
  have hFB : ∀ k, F k → k < BL := fun k hk => by rw [← hBL]; exact hlt.out k hk
  rw [hW1, hG1, hBL]
  have hBLH := Lib.hid hBL
  have hcc := hI.2.1
  have hFa : ∀ y, a = some y → 0 < 32 * K → y.block < BL := fun y hy h0 => hFB _ (hx y hy h0).1
  clear hBL hG1 hW1 hl0 hl1 hI hx hR1 hM1 b0 hs0 bW hlt
  refine (wpIn_wide (n := 9)).1 ?_
  refine wpIn_rangeFunc_ownG rfl (by omega) (gf := 74) (lb := #[.pointer (some ⟨G1, 0, none⟩), .pointer (some ⟨G1 + 1, 0, none⟩)]) rfl trivial (enters_of Try.func74 (by kernel_rfl) rfl)
    (chunk_stops_any (9 - 1) (by omega) G1 (G1 + 1) b off K c a W1 (by omega) (by omega) hc1 hc2 hcc hKH.out hA) Two.t (two_b (by omega) (by omega)) (Below.refl _ _) (fun _ => rfl)
    (fun pre W => (∃ v, Boxed W BL 29 v ∧ W.ownsRow (G1 + 2) 28 32 v pre.length ((flat Y (pre.map (·.1))).map (Value.int .u8)) ∧ True) ∧ Ints .u8 W a (32 * K) c Y ∧ RdAt F W g xs P E ∧ Moved F w W ∧ G1 + 2 ≤ W.heap.size)
    (fun _ _ _ => False)
    (OwnFrom.and (Own.from (holdsRow_own (G1 + 2) BL 29 28 32 (fun pre : List (Pc K) => pre.length) (fun pre => (flat Y (pre.map (·.1))).map (Value.int .u8)) (fun _ _ => True)) _) (OwnFrom.and (Own.from ints_own9 _) (fun s X Z row hs hg hr => by
      obtain ⟨hR, hM, hz⟩ := hs
      have hne : ∀ k, k < BL → some k ≠ row := fun k hk e => by have := (hr k e.symm).1; omega
      refine ⟨hR.keep (fun k hk => hg.block k (hR.lt k hk) (hne k (hFB k hk))) hg.size, ⟨hM.1.trans ⟨hg.os, hg.tape, hg.output, hg.size, fun i hi => absurd hi (Nat.not_lt_zero i)⟩, fun k hk hf => (hg.block k (Nat.lt_of_lt_of_le hk hM.size) (hne k (by rw [← hBLH.out]; exact hk))).trans (hM.2 k hk hf)⟩, Nat.le_trans hz hg.size⟩)))
    (fun _ _ _ _ _ hs _ _ => hs)
    ⟨⟨_, hlW, World.ownsRow_nil _ _ _ _, trivial⟩, hIW, hRW, hMW, by omega⟩
    (fun x => { tmps := #[.pointer (some ⟨g, 0, none⟩), .int .i64 A, undef, undef, .slice none 0 0, .pointer (some ⟨BL, 0, none⟩), .slice (some ⟨b, off + 32 * x.1, none⟩) 32 32, .pointer (some ⟨g, 0, none⟩), .int .i64 A, .bool (decide (0 ≤ A)), .int .i64 A, .slice a (32 * K) c, .func (.func 74) #[] #[.pointer (some ⟨G1, 0, none⟩), .pointer (some ⟨G1 + 1, 0, none⟩)], .slice (some ⟨b, off + 32 * x.1, none⟩) 32 32, undef, undef, undef, undef, undef, undef, undef], defers := [] }) ?assign ?body ?done ?stop
  case assign =>
    intro l x W K hK
    dsimp only [encC]
    gi_wp2
    exact hK
  case body =>
    rintro l pre x W ⟨⟨v, hv, hrow, _⟩, hI, hR, hM, hz⟩ hpl
    have hK0 : 0 < K := by omega
    have ha := hA hK0
    have hxK := x.2
    obtain ⟨q, hq⟩ : ∃ q, off + 32 * x.1 = q := ⟨_, rfl⟩
    obtain ⟨XS, hXS⟩ : ∃ XS, ((Y.drop (32 * x.1)).take 32).map (Value.int .u8) = XS := ⟨_, rfl⟩
    have hYl := hI.len
    have hXl : XS.length = 32 := by rw [← hXS, List.length_map, List.length_take, List.length_drop]; omega
    have hrange : W.rangeAt b q XS := by
      intro j u hj
      have hj32 : j < 32 := by have := (List.getElem?_eq_some_iff.1 hj).1; omega
      obtain ⟨b', off', ha', hat⟩ := hI.at (by omega)
      rw [ha] at ha'
      injection ha' with ha'
      injection ha' with e1 e2 _
      subst e1; subst e2
      have := hat (32 * x.1 + j) (by omega)
      rw [← hq, show off + 32 * x.1 + j = off + (32 * x.1 + j) by omega, this]
      rw [← hXS, List.getElem?_map, List.getElem?_take_of_lt hj32, List.getElem?_drop, List.getElem?_eq_getElem (by omega)] at hj
      rw [List.getD_eq_getElem?_getD, List.getElem?_eq_getElem (by omega)]
      exact hj
    have hbBL : b < BL := hFa _ ha (by omega)
    have hflat : (flat Y ((pre ++ [x]).map (·.1))).map (Value.int .u8) = (flat Y (pre.map (·.1))).map (Value.int .u8) ++ XS := by
      rw [nums_snoc, flat_snoc, List.map_append, hXS]
    have hplen : (pre ++ [x]).length = pre.length + 1 := by simp
    have hone : ∀ u ∈ XS, u.oneCell' = true := by rw [← hXS]; exact ints_oneCell' _ _
    have hat := fun cap v => run_array_at9 (P := Try.prog) 28 5 32 Try.underlying28 (some ⟨b, q, none⟩) 32 cap (by decide) v
    obtain ⟨i0, hi, hz0, hz1, hz2⟩ := info_id9
    rw [hq]
    have hplH := Lib.hid hpl
    have hflatH := Lib.hid hflat
    have hplenH := Lib.hid hplen
    have hIH := Lib.hid hI
    have hRH := Lib.hid hR
    have hMH := Lib.hid hM
    have hc := hv.cell
    have hXlH := Lib.hid hXl
    clear hq hXS hYl hflat hplen hpl hI hR hM hxK hK0 ha
    gi_wp2
    refine region_seqS_in (fun V => V.rangeAt b q XS) (by kernel_rfl) (by decide +kernel) ?hq ?_
    case hq =>
      rintro ⟨_, _, h⟩
      exact h
    simp only [pairs, Nat.reduceAdd]
    have hS : W.drew.rangeAt b q XS := hrange
    repeat (first
      | (refine SeqS.take (v := ?_) (by first | assumption | trivial) (by kernel_rfl) (by decide +kernel) (by decide +kernel) (Or.inl ⟨by rfl, ?_⟩) ?_
         rotate_left
         focus
           intro w' hb'
           go_simp
           with_reducible rfl
         simp only [Act.put, List.setIfInBounds_toArray, List.set_cons_zero, List.set_cons_succ])
      | (refine SeqS.take (v := undef) (by first | assumption | trivial) (by kernel_rfl) (by decide +kernel) (by decide +kernel) (Or.inr ⟨by rfl, rfl⟩) ?_
         simp only [Act.put, List.setIfInBounds_toArray, List.set_cons_zero, List.set_cons_succ])
      | (refine SeqS.take1 (v := ?_) (by first | assumption | trivial) (by kernel_rfl) (by decide +kernel) (by decide +kernel) (Or.inl ⟨by rfl, ?_⟩) ?_
         rotate_left
         focus
           intro w' hb'
           go_simp
           with_reducible rfl
         simp only [Act.put, List.setIfInBounds_toArray, List.set_cons_zero, List.set_cons_succ])
      | (refine SeqS.take1 (v := undef) (by first | assumption | trivial) (by kernel_rfl) (by decide +kernel) (by decide +kernel) (Or.inr ⟨by rfl, rfl⟩) ?_
         simp only [Act.put, List.setIfInBounds_toArray, List.set_cons_zero, List.set_cons_succ])
      | (refine SeqS.take2 (v := ?_) (by first | assumption | trivial) (by kernel_rfl) (by decide +kernel) (by decide +kernel) (Or.inl ⟨by rfl, ?_⟩) ?_
         rotate_left
         focus
           intro w' hb'
           go_simp
           with_reducible rfl
         simp only [Act.put, List.setIfInBounds_toArray, List.set_cons_zero, List.set_cons_succ])
      | (refine SeqS.take2 (v := undef) (by first | assumption | trivial) (by kernel_rfl) (by decide +kernel) (by decide +kernel) (Or.inr ⟨by rfl, rfl⟩) ?_
         simp only [Act.put, List.setIfInBounds_toArray, List.set_cons_zero, List.set_cons_succ]))
    refine SeqS.take1 (v := .agg XS.toArray) hS (by kernel_rfl) (by decide +kernel) (by decide +kernel) (yieldsIf_load_mid (by rfl) 28 (.tmp 16) rfl b q rfl XS _ (fun w' h => h) Try.underlying28 rfl (by rw [hXl]; exact sizeId9)) ?_
    simp only [Act.put, List.setIfInBounds_toArray, List.set_cons_zero, List.set_cons_succ]
    obtain ⟨V, hV⟩ : ∃ V, W.drew = V := ⟨_, rfl⟩
    have hVW := Lib.hid (show V.heap = W.heap by rw [← hV]; rfl)
    have hSV : V.rangeAt b q XS := by rw [← hV]; exact hrange
    have hvV : Boxed V BL 29 v := by rw [← hV]; exact hv
    have hown : V.ownsRow (G1 + 2) 28 32 v pre.length ((flat Y (pre.map (·.1))).map (Value.int .u8)) := by rw [← hV]; exact own_stay9 hrow (Below.drew (Below.refl _ _))
    have hzV : G1 + 2 ≤ V.heap.size := by rw [← hV]; exact hz
    have own4 := hown.alloc (.cells XS.toArray 28)
    have hv4 := hvV.alloc (.cells XS.toArray 28)
    have hnew := Blk.new V 28 XS
    have S4 : (V.alloc (.cells XS.toArray 28)).rangeAt b q XS := fun j u hj => by
      rw [← hSV j u hj]
      simp only [World.cell?, Below.heap_alloc V _ b (show b < V.heap.size by omega)]
    have cV := hvV.cell
    have c4 := hv4.cell
    rw [hV]
    clear hS hrange hrow hv hc
    refine SeqS.either (rs := [0, 4]) (by decide +kernel) ?_
    intro j hj
    simp only [List.mem_cons, List.not_mem_nil, or_false] at hj
    rcases hj with rfl | rfl
    · refine ⟨[], _, [_, _, _], rfl, by rfl, fun K5 hK5 => ?_⟩
      go_simp
      refine hK5 _ _ hSV ?_
      clear hK5 K5
      refine SeqS.alone (by decide +kernel) (by rfl) (fun K5 hK5 => ?_)
      refine wp_buildSlice 29 28 1 #[(0, .tmp 17)] rfl XS.toArray i0 _ Try.underlying29 hi hz0 (by rw [hz1]; decide) (by rw [hz1]; decide) (fill_id i0 _ hz1 XS hXl _ (by rw [Array.toList_map]; rfl)) ?_
      refine hK5 _ _ S4 ?_
      clear hK5 K5
      simp only [Act.put, List.setIfInBounds_toArray, List.set_cons_zero, List.set_cons_succ]
      refine SeqS.alone (by decide +kernel) (by rfl) (fun K5 hK5 => ?_)
      refine wp_append_own _ (.tmp 14) (.tmp 18) 29 rfl (G1 + 2) 28 i0 _ 32 32 Try.underlying29 hi hz0 hz1 hz2 (by simp [Value.cells]) (by decide) v pre.length _ rfl own4 ⟨V.heap.size, 0, none⟩ 1 1 XS rfl hXl ?c1 hone ?c3 ?c4 ?c5 ?_
      case c1 =>
        intro t u ht
        rw [add_at9, hnew.cell]
        exact ht
      case c3 => have := hplH.out; have := hKH.out; unfold maxLen; omega
      case c4 => have := hplH.out; have := hKH.out; omega
      case c5 => rw [size1]; exact Nat.le_succ_of_le hzV
      intro v5 W5 hown5 hg5 _
      have hsl : ∃ b5 c5, v5 = .slice b5 (pre.length + 1) c5 := own_slice32 hown5
      have hneo : ∀ k, k < G1 + 2 → some k ≠ v.ownBlock := fun k hk e => by have := (own4.lt k e.symm).1; omega
      have hv5 : Boxed W5 BL 29 v := (hv4.kept hg5 (hneo BL (by omega)))
      have hb5 : ∀ k, k < G1 + 2 → W5.heap[k]? = V.heap[k]? := fun k hk => (hg5.block k (by rw [size1]; omega) (hneo k hk)).trans (Below.heap_alloc V _ k (by omega))
      have S5 : W5.rangeAt b q XS := fun j u hj => by
        have h1 := hSV j u hj
        rw [← h1]
        simp only [World.cell?, hb5 b (by omega)]
      obtain ⟨b5, c5, hsv⟩ := hsl
      rw [hsv] at hown5 ⊢
      have hap := hvV.appended (v' := .slice b5 (pre.length + 1) c5) (by decide) (own_low9 hown (show BL ≤ G1 + 2 by omega)) (show BL ≤ V.heap.size by omega) (Nat.le_refl BL) (own_low9 hown5 (show BL ≤ G1 + 2 by omega)) hg5
      have f5 := hv5.frozen
      have d5 := hv5.cell
      refine hK5 _ _ S5 ?_
      clear hK5 K5
      simp only [Act.put, List.setIfInBounds_toArray, List.set_cons_zero, List.set_cons_succ]
      refine SeqS.alone (by decide +kernel) (by rfl) (fun K6 hK6 => ?_)
      go_simp
      have g6 := grownBy_setCell' W5 BL (.slice b5 (pre.length + 1) c5)
      have S6 : (W5.setCell ⟨BL, 0, none⟩ (.slice b5 (pre.length + 1) c5)).rangeAt b q XS := fun j u hj => by
        rw [← S5 j u hj]
        simp only [World.cell?, g6.block b (by have := hv5.lt; omega) (by intro e; injection e with e; omega)]
      refine hK6 _ _ S6 ?_
      clear hK6 K6
      refine SeqS.done (by decide +kernel) ?_
      have hb6 : ∀ k, k < G1 + 2 → k ≠ BL → (W5.setCell ⟨BL, 0, none⟩ (.slice b5 (pre.length + 1) c5)).heap[k]? = W.heap[k]? := fun k hk hne => (g6.block k (by have := hg5.size; rw [size1] at this; omega) (by intro e; injection e with e; exact hne e)).trans ((hb5 k hk).trans (by rw [hVW.out]))
      have hs5 := hg5.size
      rw [size1] at hs5
      have hsz6 : W.heap.size ≤ (W5.setCell ⟨BL, 0, none⟩ (.slice b5 (pre.length + 1) c5)).heap.size := by
        have h6 := g6.size
        rw [hVW.out] at hs5
        omega
      have hown6 : (W5.setCell ⟨BL, 0, none⟩ (.slice b5 (pre.length + 1) c5)).ownsRow (G1 + 2) 28 32 (.slice b5 (pre.length + 1) c5) (pre ++ [x]).length ((flat Y ((pre ++ [x]).map (·.1))).map (Value.int .u8)) := by
        rw [hplenH.out, hflatH.out]
        exact hown5.kept g6 (.inr fun e => by have := (hown5.lt BL e).1; omega)
      refine ⟨((KeepsOthers.drew W).trans (by rw [hV]; exact hap.2.2.2.1)).from _, ⟨hb6 G1 (by omega) (by omega), hb6 (G1 + 1) (by omega) (by omega)⟩, ⟨_, hap.2.1, hown6, trivial⟩, ?_, hRH.out.keep (fun k hk => hb6 k (by have := hFB k hk; omega) (fun e => nfl (e ▸ hk))) hsz6, ?_, Nat.le_trans hz hsz6⟩
      · refine ⟨hIH.out.1, hIH.out.2.1, ?_⟩
        rcases hIH.out.2.2 with h0 | ⟨b', off', ha', hcells⟩
        · exact .inl h0
        · refine .inr ⟨b', off', ha', fun i hi => ?_⟩
          rw [← hcells i hi]
          have hbb := hFa _ ha' (by omega)
          simp only [World.cell?, hb6 b' (by have : b' < BL := hbb; omega) (by have : b' < BL := hbb; omega)]
      · refine ⟨hMH.out.1.trans ⟨?_, ?_, ?_, hsz6, fun i hi => absurd hi (Nat.not_lt_zero i)⟩, fun k hk hf => (hb6 k (by have := hBLH.out; omega) (by have := hBLH.out; omega)).trans (hMH.out.2 k hk hf)⟩
        · exact (g6.os.trans hg5.os).trans (by rw [← hV]; rfl)
        · exact (g6.tape.trans hg5.tape).trans (by rw [← hV]; rfl)
        · exact (g6.output.trans hg5.output).trans (by rw [← hV]; rfl)
    · refine ⟨[_], _, [_, _], rfl, by rfl, fun K5 hK5 => ?_⟩
      refine wp_buildSlice 29 28 1 #[(0, .tmp 17)] rfl XS.toArray i0 _ Try.underlying29 hi hz0 (by rw [hz1]; decide) (by rw [hz1]; decide) (fill_id i0 _ hz1 XS hXl _ (by rw [Array.toList_map]; rfl)) ?_
      refine hK5 _ _ S4 ?_
      clear hK5 K5
      simp only [Act.put, List.setIfInBounds_toArray, List.set_cons_zero, List.set_cons_succ]
      refine SeqS.alone (by decide +kernel) (by rfl) (fun K5 hK5 => ?_)
      go_simp
      refine hK5 _ _ S4 ?_
      clear hK5 K5
      (try simp only [Act.put, List.setIfInBounds_toArray, List.set_cons_zero, List.set_cons_succ])
      refine SeqS.alone (by decide +kernel) (by rfl) (fun K5 hK5 => ?_)
      refine wp_append_own _ (.tmp 14) (.tmp 18) 29 rfl (G1 + 2) 28 i0 _ 32 32 Try.underlying29 hi hz0 hz1 hz2 (by simp [Value.cells]) (by decide) v pre.length _ rfl own4 ⟨V.heap.size, 0, none⟩ 1 1 XS rfl hXl ?c1 hone ?c3 ?c4 ?c5 ?_
      case c1 =>
        intro t u ht
        rw [add_at9, hnew.cell]
        exact ht
      case c3 => have := hplH.out; have := hKH.out; unfold maxLen; omega
      case c4 => have := hplH.out; have := hKH.out; omega
      case c5 => rw [size1]; exact Nat.le_succ_of_le hzV
      intro v5 W5 hown5 hg5 _
      have hsl : ∃ b5 c5, v5 = .slice b5 (pre.length + 1) c5 := own_slice32 hown5
      have hneo : ∀ k, k < G1 + 2 → some k ≠ v.ownBlock := fun k hk e => by have := (own4.lt k e.symm).1; omega
      have hv5 : Boxed W5 BL 29 v := (hv4.kept hg5 (hneo BL (by omega)))
      have hb5 : ∀ k, k < G1 + 2 → W5.heap[k]? = V.heap[k]? := fun k hk => (hg5.block k (by rw [size1]; omega) (hneo k hk)).trans (Below.heap_alloc V _ k (by omega))
      have S5 : W5.rangeAt b q XS := fun j u hj => by
        have h1 := hSV j u hj
        rw [← h1]
        simp only [World.cell?, hb5 b (by omega)]
      obtain ⟨b5, c5, hsv⟩ := hsl
      rw [hsv] at hown5 ⊢
      have hap := hvV.appended (v' := .slice b5 (pre.length + 1) c5) (by decide) (own_low9 hown (show BL ≤ G1 + 2 by omega)) (show BL ≤ V.heap.size by omega) (Nat.le_refl BL) (own_low9 hown5 (show BL ≤ G1 + 2 by omega)) hg5
      have f5 := hv5.frozen
      have d5 := hv5.cell
      refine hK5 _ _ S5 ?_
      clear hK5 K5
      simp only [Act.put, List.setIfInBounds_toArray, List.set_cons_zero, List.set_cons_succ]
      refine SeqS.alone (by decide +kernel) (by rfl) (fun K6 hK6 => ?_)
      go_simp
      have g6 := grownBy_setCell' W5 BL (.slice b5 (pre.length + 1) c5)
      have S6 : (W5.setCell ⟨BL, 0, none⟩ (.slice b5 (pre.length + 1) c5)).rangeAt b q XS := fun j u hj => by
        rw [← S5 j u hj]
        simp only [World.cell?, g6.block b (by have := hv5.lt; omega) (by intro e; injection e with e; omega)]
      refine hK6 _ _ S6 ?_
      clear hK6 K6
      refine SeqS.done (by decide +kernel) ?_
      have hb6 : ∀ k, k < G1 + 2 → k ≠ BL → (W5.setCell ⟨BL, 0, none⟩ (.slice b5 (pre.length + 1) c5)).heap[k]? = W.heap[k]? := fun k hk hne => (g6.block k (by have := hg5.size; rw [size1] at this; omega) (by intro e; injection e with e; exact hne e)).trans ((hb5 k hk).trans (by rw [hVW.out]))
      have hs5 := hg5.size
      rw [size1] at hs5
      have hsz6 : W.heap.size ≤ (W5.setCell ⟨BL, 0, none⟩ (.slice b5 (pre.length + 1) c5)).heap.size := by
        have h6 := g6.size
        rw [hVW.out] at hs5
        omega
      have hown6 : (W5.setCell ⟨BL, 0, none⟩ (.slice b5 (pre.length + 1) c5)).ownsRow (G1 + 2) 28 32 (.slice b5 (pre.length + 1) c5) (pre ++ [x]).length ((flat Y ((pre ++ [x]).map (·.1))).map (Value.int .u8)) := by
        rw [hplenH.out, hflatH.out]
        exact hown5.kept g6 (.inr fun e => by have := (hown5.lt BL e).1; omega)
      refine ⟨((KeepsOthers.drew W).trans (by rw [hV]; exact hap.2.2.2.1)).from _, ⟨hb6 G1 (by omega) (by omega), hb6 (G1 + 1) (by omega) (by omega)⟩, ⟨_, hap.2.1, hown6, trivial⟩, ?_, hRH.out.keep (fun k hk => hb6 k (by have := hFB k hk; omega) (fun e => nfl (e ▸ hk))) hsz6, ?_, Nat.le_trans hz hsz6⟩
      · refine ⟨hIH.out.1, hIH.out.2.1, ?_⟩
        rcases hIH.out.2.2 with h0 | ⟨b', off', ha', hcells⟩
        · exact .inl h0
        · refine .inr ⟨b', off', ha', fun i hi => ?_⟩
          rw [← hcells i hi]
          have hbb := hFa _ ha' (by omega)
          simp only [World.cell?, hb6 b' (by have : b' < BL := hbb; omega) (by have : b' < BL := hbb; omega)]
      · refine ⟨hMH.out.1.trans ⟨?_, ?_, ?_, hsz6, fun i hi => absurd hi (Nat.not_lt_zero i)⟩, fun k hk hf => (hb6 k (by have := hBLH.out; omega) (by have := hBLH.out; omega)).trans (hMH.out.2 k hk hf)⟩
        · exact (g6.os.trans hg5.os).trans (by rw [← hV]; rfl)
        · exact (g6.tape.trans hg5.tape).trans (by rw [← hV]; rfl)
        · exact (g6.output.trans hg5.output).trans (by rw [← hV]; rfl)
  case done =>
    rintro D ys W hD hS ⟨⟨v, hv, hrow, _⟩, hI, hR, hM, hz⟩ hK
    have hcv := hv.cell
    have hyl : ys.length = K := by rw [← List.length_map (f := fun x : Pc K => x.1), hS, List.length_range]
    rw [hS, flat_range, List.take_of_length_le (by rw [hI.len]; exact Nat.le_refl _), hyl] at hrow
    have hrow2 := ownsRow_putObj hrow (.deferred none) hK rfl
    have hDl : D < W.heap.size := (Array.getElem?_eq_some_iff.1 hK).1
    have gD := grownBy_putObj' W D (.deferred none)
    have hneD : ∀ k, k < BL → some k ≠ some D := fun k hk e => by injection e with e; omega
    have hR2 := hR.keep (fun k hk => gD.block k (hR.lt k hk) (hneD k (hFB k hk))) gD.size
    have hM2 : Moved F w (W.putObj D (.deferred none)) := ⟨hM.1.trans ⟨gD.os, gD.tape, gD.output, gD.size, fun i hi => absurd hi (Nat.not_lt_zero i)⟩, fun k hk hf => (gD.block k (Nat.lt_of_lt_of_le hk hM.size) (hneD k (by rw [← hBLH.out]; exact hk))).trans (hM.2 k hk hf)⟩
    obtain ⟨rb, rc, hvv⟩ := own_slice32 hrow2
    rw [hvv] at hcv hrow2
    clear hv hrow hI hR hM hvv
    go_wp2
    refine ⟨by simp, .inl ⟨_, _, rfl, run_takeDeferred hK, ?_⟩⟩
    exact ⟨_, results_tmp rfl _ _ _, rb, rc, rfl, IdsAt.of_owns hrow2, fun x hx => by have := (hrow2.lt x.block (by rw [hx]; rfl)).1; have := hBLH.out; omega, hR2, hM2⟩
  case stop =>
    rintro D c pre W _ _ h _
    exact h.elim

theorem pIds_any {F : Nat → Prop} {w : World} {g : Nat} {xs : List Int} {p : Nat} {e : Int} (A : Int) (h : RdAt F w g xs p e) :
    Calls Try.prog 67 #[.pointer (some ⟨g, 0, none⟩), .int .i64 A] w fun r w' => ∃ b c, r = .returned (.slice b (rdIds xs.length p e A).2.2 c) ∧ IdsAt w' b (rdIds xs.length p e A).2.2 c ((xs.drop p).take (32 * (rdIds xs.length p e A).2.2)) ∧ RdAt F w' g xs (rdIds xs.length p e A).1 (rdIds xs.length p e A).2.1 ∧ Moved F w w' :=
  (pIds_own A h).mono fun _ _ ⟨b, c, hr, hI, _, hR, hM⟩ => ⟨b, c, hr, hI, hR, hM⟩
end Go.Proofs.Ytaaflnmdaplfkaa

/-
  The document's own answer for a column mixed: four bytes handed in, four told; new memory alone is written.
-/
import Derived.Test.YtclcnngpgbdjgaaCipherKey
import Derived.Test.YtclcnngpgbdjgaaSteps
import Derived.Test.YtclcnngpgbdjgaaSeqS
namespace Go.Proofs.Ytclcnngpgbdjgaa
open Go.RowKit

/-- n bytes as a list of numbers. -/
def bytesL (n : Nat) (f : Nat → Nat) : List Int := (List.range n).map fun i => (f i : Int)
theorem bytesL_len (n : Nat) (f : Nat → Nat) : (bytesL n f).length = n := by simp [bytesL]
theorem bytesL_row (n : Nat) (f : Nat → Nat) : (bytesL n f).map (Value.int .u8) = rowN n f := by simp [bytesL, rowN]
theorem bytesL_at (n : Nat) (f : Nat → Nat) (i : Nat) (hi : i < n) : (bytesL n f).getD i 0 = (f i : Int) := by simp [bytesL, List.getD_eq_getElem?_getD, hi]
theorem bytesL_range {f : Nat → Nat} (h : By f) (n : Nat) : ∀ x ∈ bytesL n f, 0 ≤ x ∧ x < 256 := by
  intro x hx
  obtain ⟨i, _, rfl⟩ := List.mem_map.1 hx
  have := h i
  omega
theorem bytesL_congr {n : Nat} {f h : Nat → Nat} (e : Ag n f h) : bytesL n f = bytesL n h := by
  refine List.map_congr_left fun i hi => ?_
  rw [e i (List.mem_range.1 hi)]
theorem rowN_snoc (n : Nat) (f : Nat → Nat) : rowN (n + 1) f = rowN n f ++ [.int .u8 (f n : Int)] := by
  unfold rowN; rw [List.range_succ, List.map_append]; rfl
theorem Ints.cell_at {k : IntKind} {w : World} {b off n cap : Nat} {xs : List Int} (h : Ints k w (some ⟨b, off, none⟩) n cap xs) (i : Nat) (hi : i < n) : w.cell? ⟨b, off + i, none⟩ = some (.int k (xs.getD i 0)) := by
  obtain ⟨b', off', ha, hc⟩ := h.at (by omega)
  injection ha with ha
  injection ha with h1 h2 _
  subst h1; subst h2
  exact hc i hi

theorem SeqS.take4 {P : Program} {ops : Array Oper} {Q : Exit → Act → World → Prop} {md : Region.Mode} {S : World → Prop} {p p' p'' p3 : Nat × Oper} {k : Nat} {o : Oper} {rest : List (Nat × Oper)} {listed : Array Bool} {a : Act} {w : World} {v : Value} (hS : S w) (hs : Region.noSelect ops = true)
    (hf : Region.free md ops listed k = true) (hr : (Region.ready md ops listed).contains k = true)
    (hy : YieldsIf P ops S o v a)
    (h : SeqS P md ops Q S (p :: p' :: p'' :: p3 :: rest) (listed.setIfInBounds k true) (a.put o.dst v) w) : SeqS P md ops Q S (p :: p' :: p'' :: p3 :: (k, o) :: rest) listed a w := SeqS.take_any (pre := [p, p', p'', p3]) hS hs hf hr hy h

set_option maxRecDepth 100000 in
set_option maxHeartbeats 1600000 in
theorem rMix_any (a : Option Addr) (cap : Nat) (c : Nat → Nat) (w : World) (hI : Ints .u8 w a 4 cap (bytesL 4 c)) (hc : By c) :
    Calls Try.prog 38 #[.slice a 4 cap] w fun e w' => ∃ b c', e = .returned (.slice b 4 c') ∧ Ints .u8 w' b 4 c' (bytesL 4 (mixc c)) ∧ Below w.heap.size w w' := by
  obtain ⟨i0, hi, hz0, hz1, hz2⟩ := info_parts infoU8
  obtain ⟨b, off, rfl, _⟩ := hI.at (by decide)
  have c0 := hI.cell_at 0 (by decide)
  have c1 := hI.cell_at 1 (by decide)
  have c2 := hI.cell_at 2 (by decide)
  have c3 := hI.cell_at 3 (by decide)
  rw [bytesL_at 4 c 0 (by decide), Nat.add_zero] at c0
  rw [bytesL_at 4 c 1 (by decide)] at c1
  rw [bytesL_at 4 c 2 (by decide)] at c2
  rw [bytesL_at 4 c 3 (by decide)] at c3
  have hbl : b < w.heap.size := World.block_lt_of_cell? w _ c0
  obtain ⟨g, hg⟩ : ∃ g, w.heap.size = g := ⟨_, rfl⟩
  rw [hg] at hbl
  have hg := Lib.hid hg
  have c0 := Lib.hid c0
  have c1 := Lib.hid c1
  have c2 := Lib.hid c2
  have c3 := Lib.hid c3
  have hc := Lib.hid hc
  have hbl := Lib.hid hbl
  clear hI
  go_enter Try.func38, Try.ntmps38
  go_wp2
  go_loopw [3, 4] (fun o i wr => ∃ k : Nat, k ≤ 4 ∧ i = .int .i64 k ∧ wr.ownsRow g 5 1 o k (rowN k (mixc c)) ∧ Below g w wr) (fun _ i _ => 4 - (intOf i).toNat)
  case atStart => exact ⟨0, by omega, rfl, World.ownsRow_nil _ _ _ _, Below.refl _ _⟩
  case round =>
    obtain ⟨k, hk, rfl, hown, hB⟩ := hrel
    by_cases hlt : k < 4
    · have hb0 := hB
      obtain ⟨bo, co, rfl⟩ : ∃ bo co, u3 = .slice bo k co := by
        obtain ⟨x, y, e, _⟩ := Ints.of_owns (xs := bytesL k (mixc c)) (by rw [bytesL_row]; exact hown)
        exact ⟨x, y, e⟩
      obtain rfl | rfl | rfl | rfl : k = 0 ∨ k = 1 ∨ k = 2 ∨ k = 3 := by omega
      · have d1 : IntKind.i64.wrap 1 = 1 := by decide
        have d2 : IntKind.i64.wrap 2 = 2 := by decide
        have d3 : IntKind.i64.wrap 3 = 3 := by decide
        have m1 : (1 : Int).tmod 4 = 1 := by decide
        have m2 : (2 : Int).tmod 4 = 2 := by decide
        have m3 : (3 : Int).tmod 4 = 3 := by decide
        have t1 := fun v => rTimes_is (2 : Int) (c 0 : Int) (tm 2 (c 0) : Nat) 2 (c 0) _ v rfl rfl (by decide) (hc.out _) rfl rfl
        have t2 := fun v => rTimes_is (3 : Int) (c 1 : Int) (tm 3 (c 1) : Nat) 3 (c 1) _ v rfl rfl (by decide) (hc.out _) rfl rfl
        have x1 := bits_xor8 (tm 2 (c 0)) (tm 3 (c 1)) (tm_256 _ (by decide)) (tm_256 _ (by decide))
        have x2 := bits_xor8 (tm 2 (c 0) ^^^ tm 3 (c 1)) (c 2) (xor_256 (tm_256 _ (by decide)) (tm_256 _ (by decide))) (hc.out _)
        have x3 := bits_xor8 ((tm 2 (c 0) ^^^ tm 3 (c 1)) ^^^ c 2) (c 3) (xor_256 (xor_256 (tm_256 _ (by decide)) (tm_256 _ (by decide))) (hc.out _)) (hc.out _)
        have xm := mix_ref c hc.out 0
        simp only [Nat.reduceAdd, Nat.reduceMod] at xm
        rw [xm] at x3
        obtain ⟨v, hv, hD⟩ := Draws.one wr
        have hB := hb0.trans (hD.below g)
        have hown : v.ownsRow g 5 1 (.slice bo 0 co) 0 (rowN 0 (mixc c)) := by rw [← hv]; exact hown
        go_wp2_with fail
        refine region_seqS (fun w' => Below g w w') (by kernel_rfl) (by rw [hv]; exact hB) ?_
        simp only [pairs, Nat.reduceAdd]
        change SeqS _ _ _ _ _ _ _ _ wr.drew
        rw [hv]
        clear hv hD hb0
        repeat (first
          | (refine SeqS.take (v := ?_) (by first | assumption | trivial) (by kernel_rfl) (by decide +kernel) (by decide +kernel) (Or.inl ⟨by rfl, ?_⟩) ?_
             rotate_left
             focus
               intro w' hb'
               have d0 := (hb'.cell (p := ⟨b, off, none⟩) hbl.out).trans c0.out
               have d1 := (hb'.cell (p := ⟨b, off + 1, none⟩) hbl.out).trans c1.out
               have d2 := (hb'.cell (p := ⟨b, off + 2, none⟩) hbl.out).trans c2.out
               have d3 := (hb'.cell (p := ⟨b, off + 3, none⟩) hbl.out).trans c3.out
               go_simp
               with_reducible rfl
             simp only [Act.put, List.setIfInBounds_toArray, List.set_cons_zero, List.set_cons_succ])
          | (refine SeqS.take1 (v := ?_) (by first | assumption | trivial) (by kernel_rfl) (by decide +kernel) (by decide +kernel) (Or.inl ⟨by rfl, ?_⟩) ?_
             rotate_left
             focus
               intro w' hb'
               have d0 := (hb'.cell (p := ⟨b, off, none⟩) hbl.out).trans c0.out
               have d1 := (hb'.cell (p := ⟨b, off + 1, none⟩) hbl.out).trans c1.out
               have d2 := (hb'.cell (p := ⟨b, off + 2, none⟩) hbl.out).trans c2.out
               have d3 := (hb'.cell (p := ⟨b, off + 3, none⟩) hbl.out).trans c3.out
               go_simp
               with_reducible rfl
             simp only [Act.put, List.setIfInBounds_toArray, List.set_cons_zero, List.set_cons_succ])
          | (refine SeqS.take2 (v := ?_) (by first | assumption | trivial) (by kernel_rfl) (by decide +kernel) (by decide +kernel) (Or.inl ⟨by rfl, ?_⟩) ?_
             rotate_left
             focus
               intro w' hb'
               have d0 := (hb'.cell (p := ⟨b, off, none⟩) hbl.out).trans c0.out
               have d1 := (hb'.cell (p := ⟨b, off + 1, none⟩) hbl.out).trans c1.out
               have d2 := (hb'.cell (p := ⟨b, off + 2, none⟩) hbl.out).trans c2.out
               have d3 := (hb'.cell (p := ⟨b, off + 3, none⟩) hbl.out).trans c3.out
               go_simp
               with_reducible rfl
             simp only [Act.put, List.setIfInBounds_toArray, List.set_cons_zero, List.set_cons_succ])
          | (refine SeqS.take3 (v := ?_) (by first | assumption | trivial) (by kernel_rfl) (by decide +kernel) (by decide +kernel) (Or.inl ⟨by rfl, ?_⟩) ?_
             rotate_left
             focus
               intro w' hb'
               have d0 := (hb'.cell (p := ⟨b, off, none⟩) hbl.out).trans c0.out
               have d1 := (hb'.cell (p := ⟨b, off + 1, none⟩) hbl.out).trans c1.out
               have d2 := (hb'.cell (p := ⟨b, off + 2, none⟩) hbl.out).trans c2.out
               have d3 := (hb'.cell (p := ⟨b, off + 3, none⟩) hbl.out).trans c3.out
               go_simp
               with_reducible rfl
             simp only [Act.put, List.setIfInBounds_toArray, List.set_cons_zero, List.set_cons_succ])
          | (refine SeqS.take4 (v := ?_) (by first | assumption | trivial) (by kernel_rfl) (by decide +kernel) (by decide +kernel) (Or.inl ⟨by rfl, ?_⟩) ?_
             rotate_left
             focus
               intro w' hb'
               have d0 := (hb'.cell (p := ⟨b, off, none⟩) hbl.out).trans c0.out
               have d1 := (hb'.cell (p := ⟨b, off + 1, none⟩) hbl.out).trans c1.out
               have d2 := (hb'.cell (p := ⟨b, off + 2, none⟩) hbl.out).trans c2.out
               have d3 := (hb'.cell (p := ⟨b, off + 3, none⟩) hbl.out).trans c3.out
               go_simp
               with_reducible rfl
             simp only [Act.put, List.setIfInBounds_toArray, List.set_cons_zero, List.set_cons_succ]))
        refine SeqS.alone (by decide +kernel) (by rfl) (fun K hK => ?_)
        go_simp
        refine (t1 _).mono ?_
        rintro e w' ⟨rfl, rfl⟩
        go_simp
        refine hK _ _ hB ?_
        clear hK K
        refine SeqS.alone (by decide +kernel) (by rfl) (fun K hK => ?_)
        go_simp
        refine (t2 _).mono ?_
        rintro e w' ⟨rfl, rfl⟩
        go_simp
        refine hK _ _ hB ?_
        clear hK K
        repeat (first
          | (refine SeqS.take (v := ?_) (by first | assumption | trivial) (by kernel_rfl) (by decide +kernel) (by decide +kernel) (Or.inl ⟨by rfl, ?_⟩) ?_
             rotate_left
             focus
               intro w' hb'
               go_simp
               with_reducible rfl
             simp only [Act.put, List.setIfInBounds_toArray, List.set_cons_zero, List.set_cons_succ]))
        refine SeqS.alone (by decide +kernel) (by rfl) (fun K hK => ?_)
        go_simp
        have hBs : g ≤ v.heap.size := Nat.le_trans (by have := hg.out; omega) hB.size
        have hone := one_at v .u8 5 (mixc c 0 : Int)
        have hB2 := hB.alloc hBs (.cells #[.int .u8 (mixc c 0 : Int)] 5)
        have hown2 := hown.alloc (.cells #[.int .u8 (mixc c 0 : Int)] 5)
        obtain ⟨v2, hv2⟩ : ∃ v2, v.alloc (.cells #[.int .u8 (mixc c 0 : Int)] 5) = v2 := ⟨_, rfl⟩
        rw [hv2] at hone hB2 hown2 ⊢
        have hBs2 : g ≤ v2.heap.size := by rw [← hv2]; simp; omega
        clear hv2
        refine hK _ _ hB2 ?_
        clear hK K
        refine SeqS.alone (by decide +kernel) (by rfl) (fun K hK => ?_)
        refine wp_append_ints (.tmp 9) (.tmp 37) 31 rfl g 5 i0 (.int .u8 0) 1 Try.underlying31 hi hz0 hz1 hz2 rfl rfl hown2 rfl hone ?_ ?_ hBs2 ?_
        · unfold maxLen; omega
        · omega
        intro v3 w3 hown3 hg3
        have hB3 := hB2.grown hg3 hBs2 (fun j hj => (hown2.lt j hj).1)
        have hown3 : w3.ownsRow g 5 1 v3 1 (rowN 1 (mixc c)) := by rw [rowN_snoc]; exact hown3
        refine hK _ _ hB3 ?_
        clear hK K hown hown2 hone hB hB2 hg3
        (refine SeqS.take (v := ?_) (by first | assumption | trivial) (by kernel_rfl) (by decide +kernel) (by decide +kernel) (Or.inl ⟨by rfl, ?_⟩) ?_
         rotate_left
         focus
           intro w' hb'
           go_simp
           with_reducible rfl
         simp only [Act.put, List.setIfInBounds_toArray, List.set_cons_zero, List.set_cons_succ])
        refine SeqS.done (by decide +kernel) ?_
        go_wp2
        go_roundw
        case rel => exact ⟨1, by omega, by go_num, hown3, hB3⟩
        case measure => simp [intOf]
      · have d1 : IntKind.i64.wrap 2 = 2 := by decide
        have d2 : IntKind.i64.wrap 3 = 3 := by decide
        have d3 : IntKind.i64.wrap 4 = 4 := by decide
        have m1 : (2 : Int).tmod 4 = 2 := by decide
        have m2 : (3 : Int).tmod 4 = 3 := by decide
        have m3 : (4 : Int).tmod 4 = 0 := by decide
        have t1 := fun v => rTimes_is (2 : Int) (c 1 : Int) (tm 2 (c 1) : Nat) 2 (c 1) _ v rfl rfl (by decide) (hc.out _) rfl rfl
        have t2 := fun v => rTimes_is (3 : Int) (c 2 : Int) (tm 3 (c 2) : Nat) 3 (c 2) _ v rfl rfl (by decide) (hc.out _) rfl rfl
        have x1 := bits_xor8 (tm 2 (c 1)) (tm 3 (c 2)) (tm_256 _ (by decide)) (tm_256 _ (by decide))
        have x2 := bits_xor8 (tm 2 (c 1) ^^^ tm 3 (c 2)) (c 3) (xor_256 (tm_256 _ (by decide)) (tm_256 _ (by decide))) (hc.out _)
        have x3 := bits_xor8 ((tm 2 (c 1) ^^^ tm 3 (c 2)) ^^^ c 3) (c 0) (xor_256 (xor_256 (tm_256 _ (by decide)) (tm_256 _ (by decide))) (hc.out _)) (hc.out _)
        have xm := mix_ref c hc.out 1
        simp only [Nat.reduceAdd, Nat.reduceMod] at xm
        rw [xm] at x3
        obtain ⟨v, hv, hD⟩ := Draws.one wr
        have hB := hb0.trans (hD.below g)
        have hown : v.ownsRow g 5 1 (.slice bo 1 co) 1 (rowN 1 (mixc c)) := by rw [← hv]; exact hown
        go_wp2_with fail
        refine region_seqS (fun w' => Below g w w') (by kernel_rfl) (by rw [hv]; exact hB) ?_
        simp only [pairs, Nat.reduceAdd]
        change SeqS _ _ _ _ _ _ _ _ wr.drew
        rw [hv]
        clear hv hD hb0
        repeat (first
          | (refine SeqS.take (v := ?_) (by first | assumption | trivial) (by kernel_rfl) (by decide +kernel) (by decide +kernel) (Or.inl ⟨by rfl, ?_⟩) ?_
             rotate_left
             focus
               intro w' hb'
               have d0 := (hb'.cell (p := ⟨b, off, none⟩) hbl.out).trans c0.out
               have d1 := (hb'.cell (p := ⟨b, off + 1, none⟩) hbl.out).trans c1.out
               have d2 := (hb'.cell (p := ⟨b, off + 2, none⟩) hbl.out).trans c2.out
               have d3 := (hb'.cell (p := ⟨b, off + 3, none⟩) hbl.out).trans c3.out
               go_simp
               with_reducible rfl
             simp only [Act.put, List.setIfInBounds_toArray, List.set_cons_zero, List.set_cons_succ])
          | (refine SeqS.take1 (v := ?_) (by first | assumption | trivial) (by kernel_rfl) (by decide +kernel) (by decide +kernel) (Or.inl ⟨by rfl, ?_⟩) ?_
             rotate_left
             focus
               intro w' hb'
               have d0 := (hb'.cell (p := ⟨b, off, none⟩) hbl.out).trans c0.out
               have d1 := (hb'.cell (p := ⟨b, off + 1, none⟩) hbl.out).trans c1.out
               have d2 := (hb'.cell (p := ⟨b, off + 2, none⟩) hbl.out).trans c2.out
               have d3 := (hb'.cell (p := ⟨b, off + 3, none⟩) hbl.out).trans c3.out
               go_simp
               with_reducible rfl
             simp only [Act.put, List.setIfInBounds_toArray, List.set_cons_zero, List.set_cons_succ])
          | (refine SeqS.take2 (v := ?_) (by first | assumption | trivial) (by kernel_rfl) (by decide +kernel) (by decide +kernel) (Or.inl ⟨by rfl, ?_⟩) ?_
             rotate_left
             focus
               intro w' hb'
               have d0 := (hb'.cell (p := ⟨b, off, none⟩) hbl.out).trans c0.out
               have d1 := (hb'.cell (p := ⟨b, off + 1, none⟩) hbl.out).trans c1.out
               have d2 := (hb'.cell (p := ⟨b, off + 2, none⟩) hbl.out).trans c2.out
               have d3 := (hb'.cell (p := ⟨b, off + 3, none⟩) hbl.out).trans c3.out
               go_simp
               with_reducible rfl
             simp only [Act.put, List.setIfInBounds_toArray, List.set_cons_zero, List.set_cons_succ])
          | (refine SeqS.take3 (v := ?_) (by first | assumption | trivial) (by kernel_rfl) (by decide +kernel) (by decide +kernel) (Or.inl ⟨by rfl, ?_⟩) ?_
             rotate_left
             focus
               intro w' hb'
               have d0 := (hb'.cell (p := ⟨b, off, none⟩) hbl.out).trans c0.out
               have d1 := (hb'.cell (p := ⟨b, off + 1, none⟩) hbl.out).trans c1.out
               have d2 := (hb'.cell (p := ⟨b, off + 2, none⟩) hbl.out).trans c2.out
               have d3 := (hb'.cell (p := ⟨b, off + 3, none⟩) hbl.out).trans c3.out
               go_simp
               with_reducible rfl
             simp only [Act.put, List.setIfInBounds_toArray, List.set_cons_zero, List.set_cons_succ])
          | (refine SeqS.take4 (v := ?_) (by first | assumption | trivial) (by kernel_rfl) (by decide +kernel) (by decide +kernel) (Or.inl ⟨by rfl, ?_⟩) ?_
             rotate_left
             focus
               intro w' hb'
               have d0 := (hb'.cell (p := ⟨b, off, none⟩) hbl.out).trans c0.out
               have d1 := (hb'.cell (p := ⟨b, off + 1, none⟩) hbl.out).trans c1.out
               have d2 := (hb'.cell (p := ⟨b, off + 2, none⟩) hbl.out).trans c2.out
               have d3 := (hb'.cell (p := ⟨b, off + 3, none⟩) hbl.out).trans c3.out
               go_simp
               with_reducible rfl
             simp only [Act.put, List.setIfInBounds_toArray, List.set_cons_zero, List.set_cons_succ]))
        refine SeqS.alone (by decide +kernel) (by rfl) (fun K hK => ?_)
        go_simp
        refine (t1 _).mono ?_
        rintro e w' ⟨rfl, rfl⟩
        go_simp
        refine hK _ _ hB ?_
        clear hK K
        refine SeqS.alone (by decide +kernel) (by rfl) (fun K hK => ?_)
        go_simp
        refine (t2 _).mono ?_
        rintro e w' ⟨rfl, rfl⟩
        go_simp
        refine hK _ _ hB ?_
        clear hK K
        repeat (first
          | (refine SeqS.take (v := ?_) (by first | assumption | trivial) (by kernel_rfl) (by decide +kernel) (by decide +kernel) (Or.inl ⟨by rfl, ?_⟩) ?_
             rotate_left
             focus
               intro w' hb'
               go_simp
               with_reducible rfl
             simp only [Act.put, List.setIfInBounds_toArray, List.set_cons_zero, List.set_cons_succ]))
        refine SeqS.alone (by decide +kernel) (by rfl) (fun K hK => ?_)
        go_simp
        have hBs : g ≤ v.heap.size := Nat.le_trans (by have := hg.out; omega) hB.size
        have hone := one_at v .u8 5 (mixc c 1 : Int)
        have hB2 := hB.alloc hBs (.cells #[.int .u8 (mixc c 1 : Int)] 5)
        have hown2 := hown.alloc (.cells #[.int .u8 (mixc c 1 : Int)] 5)
        obtain ⟨v2, hv2⟩ : ∃ v2, v.alloc (.cells #[.int .u8 (mixc c 1 : Int)] 5) = v2 := ⟨_, rfl⟩
        rw [hv2] at hone hB2 hown2 ⊢
        have hBs2 : g ≤ v2.heap.size := by rw [← hv2]; simp; omega
        clear hv2
        refine hK _ _ hB2 ?_
        clear hK K
        refine SeqS.alone (by decide +kernel) (by rfl) (fun K hK => ?_)
        refine wp_append_ints (.tmp 9) (.tmp 37) 31 rfl g 5 i0 (.int .u8 0) 1 Try.underlying31 hi hz0 hz1 hz2 rfl rfl hown2 rfl hone ?_ ?_ hBs2 ?_
        · unfold maxLen; omega
        · omega
        intro v3 w3 hown3 hg3
        have hB3 := hB2.grown hg3 hBs2 (fun j hj => (hown2.lt j hj).1)
        have hown3 : w3.ownsRow g 5 1 v3 2 (rowN 2 (mixc c)) := by rw [rowN_snoc]; exact hown3
        refine hK _ _ hB3 ?_
        clear hK K hown hown2 hone hB hB2 hg3
        (refine SeqS.take (v := ?_) (by first | assumption | trivial) (by kernel_rfl) (by decide +kernel) (by decide +kernel) (Or.inl ⟨by rfl, ?_⟩) ?_
         rotate_left
         focus
           intro w' hb'
           go_simp
           with_reducible rfl
         simp only [Act.put, List.setIfInBounds_toArray, List.set_cons_zero, List.set_cons_succ])
        refine SeqS.done (by decide +kernel) ?_
        go_wp2
        go_roundw
        case rel => exact ⟨2, by omega, by go_num, hown3, hB3⟩
        case measure => simp [intOf]
      · have d1 : IntKind.i64.wrap 3 = 3 := by decide
        have d2 : IntKind.i64.wrap 4 = 4 := by decide
        have d3 : IntKind.i64.wrap 5 = 5 := by decide
        have m1 : (3 : Int).tmod 4 = 3 := by decide
        have m2 : (4 : Int).tmod 4 = 0 := by decide
        have m3 : (5 : Int).tmod 4 = 1 := by decide
        have t1 := fun v => rTimes_is (2 : Int) (c 2 : Int) (tm 2 (c 2) : Nat) 2 (c 2) _ v rfl rfl (by decide) (hc.out _) rfl rfl
        have t2 := fun v => rTimes_is (3 : Int) (c 3 : Int) (tm 3 (c 3) : Nat) 3 (c 3) _ v rfl rfl (by decide) (hc.out _) rfl rfl
        have x1 := bits_xor8 (tm 2 (c 2)) (tm 3 (c 3)) (tm_256 _ (by decide)) (tm_256 _ (by decide))
        have x2 := bits_xor8 (tm 2 (c 2) ^^^ tm 3 (c 3)) (c 0) (xor_256 (tm_256 _ (by decide)) (tm_256 _ (by decide))) (hc.out _)
        have x3 := bits_xor8 ((tm 2 (c 2) ^^^ tm 3 (c 3)) ^^^ c 0) (c 1) (xor_256 (xor_256 (tm_256 _ (by decide)) (tm_256 _ (by decide))) (hc.out _)) (hc.out _)
        have xm := mix_ref c hc.out 2
        simp only [Nat.reduceAdd, Nat.reduceMod] at xm
        rw [xm] at x3
        obtain ⟨v, hv, hD⟩ := Draws.one wr
        have hB := hb0.trans (hD.below g)
        have hown : v.ownsRow g 5 1 (.slice bo 2 co) 2 (rowN 2 (mixc c)) := by rw [← hv]; exact hown
        go_wp2_with fail
        refine region_seqS (fun w' => Below g w w') (by kernel_rfl) (by rw [hv]; exact hB) ?_
        simp only [pairs, Nat.reduceAdd]
        change SeqS _ _ _ _ _ _ _ _ wr.drew
        rw [hv]
        clear hv hD hb0
        repeat (first
          | (refine SeqS.take (v := ?_) (by first | assumption | trivial) (by kernel_rfl) (by decide +kernel) (by decide +kernel) (Or.inl ⟨by rfl, ?_⟩) ?_
             rotate_left
             focus
               intro w' hb'
               have d0 := (hb'.cell (p := ⟨b, off, none⟩) hbl.out).trans c0.out
               have d1 := (hb'.cell (p := ⟨b, off + 1, none⟩) hbl.out).trans c1.out
               have d2 := (hb'.cell (p := ⟨b, off + 2, none⟩) hbl.out).trans c2.out
               have d3 := (hb'.cell (p := ⟨b, off + 3, none⟩) hbl.out).trans c3.out
               go_simp
               with_reducible rfl
             simp only [Act.put, List.setIfInBounds_toArray, List.set_cons_zero, List.set_cons_succ])
          | (refine SeqS.take1 (v := ?_) (by first | assumption | trivial) (by kernel_rfl) (by decide +kernel) (by decide +kernel) (Or.inl ⟨by rfl, ?_⟩) ?_
             rotate_left
             focus
               intro w' hb'
               have d0 := (hb'.cell (p := ⟨b, off, none⟩) hbl.out).trans c0.out
               have d1 := (hb'.cell (p := ⟨b, off + 1, none⟩) hbl.out).trans c1.out
               have d2 := (hb'.cell (p := ⟨b, off + 2, none⟩) hbl.out).trans c2.out
               have d3 := (hb'.cell (p := ⟨b, off + 3, none⟩) hbl.out).trans c3.out
               go_simp
               with_reducible rfl
             simp only [Act.put, List.setIfInBounds_toArray, List.set_cons_zero, List.set_cons_succ])
          | (refine SeqS.take2 (v := ?_) (by first | assumption | trivial) (by kernel_rfl) (by decide +kernel) (by decide +kernel) (Or.inl ⟨by rfl, ?_⟩) ?_
             rotate_left
             focus
               intro w' hb'
               have d0 := (hb'.cell (p := ⟨b, off, none⟩) hbl.out).trans c0.out
               have d1 := (hb'.cell (p := ⟨b, off + 1, none⟩) hbl.out).trans c1.out
               have d2 := (hb'.cell (p := ⟨b, off + 2, none⟩) hbl.out).trans c2.out
               have d3 := (hb'.cell (p := ⟨b, off + 3, none⟩) hbl.out).trans c3.out
               go_simp
               with_reducible rfl
             simp only [Act.put, List.setIfInBounds_toArray, List.set_cons_zero, List.set_cons_succ])
          | (refine SeqS.take3 (v := ?_) (by first | assumption | trivial) (by kernel_rfl) (by decide +kernel) (by decide +kernel) (Or.inl ⟨by rfl, ?_⟩) ?_
             rotate_left
             focus
               intro w' hb'
               have d0 := (hb'.cell (p := ⟨b, off, none⟩) hbl.out).trans c0.out
               have d1 := (hb'.cell (p := ⟨b, off + 1, none⟩) hbl.out).trans c1.out
               have d2 := (hb'.cell (p := ⟨b, off + 2, none⟩) hbl.out).trans c2.out
               have d3 := (hb'.cell (p := ⟨b, off + 3, none⟩) hbl.out).trans c3.out
               go_simp
               with_reducible rfl
             simp only [Act.put, List.setIfInBounds_toArray, List.set_cons_zero, List.set_cons_succ])
          | (refine SeqS.take4 (v := ?_) (by first | assumption | trivial) (by kernel_rfl) (by decide +kernel) (by decide +kernel) (Or.inl ⟨by rfl, ?_⟩) ?_
             rotate_left
             focus
               intro w' hb'
               have d0 := (hb'.cell (p := ⟨b, off, none⟩) hbl.out).trans c0.out
               have d1 := (hb'.cell (p := ⟨b, off + 1, none⟩) hbl.out).trans c1.out
               have d2 := (hb'.cell (p := ⟨b, off + 2, none⟩) hbl.out).trans c2.out
               have d3 := (hb'.cell (p := ⟨b, off + 3, none⟩) hbl.out).trans c3.out
               go_simp
               with_reducible rfl
             simp only [Act.put, List.setIfInBounds_toArray, List.set_cons_zero, List.set_cons_succ]))
        refine SeqS.alone (by decide +kernel) (by rfl) (fun K hK => ?_)
        go_simp
        refine (t1 _).mono ?_
        rintro e w' ⟨rfl, rfl⟩
        go_simp
        refine hK _ _ hB ?_
        clear hK K
        refine SeqS.alone (by decide +kernel) (by rfl) (fun K hK => ?_)
        go_simp
        refine (t2 _).mono ?_
        rintro e w' ⟨rfl, rfl⟩
        go_simp
        refine hK _ _ hB ?_
        clear hK K
        repeat (first
          | (refine SeqS.take (v := ?_) (by first | assumption | trivial) (by kernel_rfl) (by decide +kernel) (by decide +kernel) (Or.inl ⟨by rfl, ?_⟩) ?_
             rotate_left
             focus
               intro w' hb'
               go_simp
               with_reducible rfl
             simp only [Act.put, List.setIfInBounds_toArray, List.set_cons_zero, List.set_cons_succ]))
        refine SeqS.alone (by decide +kernel) (by rfl) (fun K hK => ?_)
        go_simp
        have hBs : g ≤ v.heap.size := Nat.le_trans (by have := hg.out; omega) hB.size
        have hone := one_at v .u8 5 (mixc c 2 : Int)
        have hB2 := hB.alloc hBs (.cells #[.int .u8 (mixc c 2 : Int)] 5)
        have hown2 := hown.alloc (.cells #[.int .u8 (mixc c 2 : Int)] 5)
        obtain ⟨v2, hv2⟩ : ∃ v2, v.alloc (.cells #[.int .u8 (mixc c 2 : Int)] 5) = v2 := ⟨_, rfl⟩
        rw [hv2] at hone hB2 hown2 ⊢
        have hBs2 : g ≤ v2.heap.size := by rw [← hv2]; simp; omega
        clear hv2
        refine hK _ _ hB2 ?_
        clear hK K
        refine SeqS.alone (by decide +kernel) (by rfl) (fun K hK => ?_)
        refine wp_append_ints (.tmp 9) (.tmp 37) 31 rfl g 5 i0 (.int .u8 0) 1 Try.underlying31 hi hz0 hz1 hz2 rfl rfl hown2 rfl hone ?_ ?_ hBs2 ?_
        · unfold maxLen; omega
        · omega
        intro v3 w3 hown3 hg3
        have hB3 := hB2.grown hg3 hBs2 (fun j hj => (hown2.lt j hj).1)
        have hown3 : w3.ownsRow g 5 1 v3 3 (rowN 3 (mixc c)) := by rw [rowN_snoc]; exact hown3
        refine hK _ _ hB3 ?_
        clear hK K hown hown2 hone hB hB2 hg3
        (refine SeqS.take (v := ?_) (by first | assumption | trivial) (by kernel_rfl) (by decide +kernel) (by decide +kernel) (Or.inl ⟨by rfl, ?_⟩) ?_
         rotate_left
         focus
           intro w' hb'
           go_simp
           with_reducible rfl
         simp only [Act.put, List.setIfInBounds_toArray, List.set_cons_zero, List.set_cons_succ])
        refine SeqS.done (by decide +kernel) ?_
        go_wp2
        go_roundw
        case rel => exact ⟨3, by omega, by go_num, hown3, hB3⟩
        case measure => simp [intOf]
      · have d1 : IntKind.i64.wrap 4 = 4 := by decide
        have d2 : IntKind.i64.wrap 5 = 5 := by decide
        have d3 : IntKind.i64.wrap 6 = 6 := by decide
        have m1 : (4 : Int).tmod 4 = 0 := by decide
        have m2 : (5 : Int).tmod 4 = 1 := by decide
        have m3 : (6 : Int).tmod 4 = 2 := by decide
        have t1 := fun v => rTimes_is (2 : Int) (c 3 : Int) (tm 2 (c 3) : Nat) 2 (c 3) _ v rfl rfl (by decide) (hc.out _) rfl rfl
        have t2 := fun v => rTimes_is (3 : Int) (c 0 : Int) (tm 3 (c 0) : Nat) 3 (c 0) _ v rfl rfl (by decide) (hc.out _) rfl rfl
        have x1 := bits_xor8 (tm 2 (c 3)) (tm 3 (c 0)) (tm_256 _ (by decide)) (tm_256 _ (by decide))
        have x2 := bits_xor8 (tm 2 (c 3) ^^^ tm 3 (c 0)) (c 1) (xor_256 (tm_256 _ (by decide)) (tm_256 _ (by decide))) (hc.out _)
        have x3 := bits_xor8 ((tm 2 (c 3) ^^^ tm 3 (c 0)) ^^^ c 1) (c 2) (xor_256 (xor_256 (tm_256 _ (by decide)) (tm_256 _ (by decide))) (hc.out _)) (hc.out _)
        have xm := mix_ref c hc.out 3
        simp only [Nat.reduceAdd, Nat.reduceMod] at xm
        rw [xm] at x3
        obtain ⟨v, hv, hD⟩ := Draws.one wr
        have hB := hb0.trans (hD.below g)
        have hown : v.ownsRow g 5 1 (.slice bo 3 co) 3 (rowN 3 (mixc c)) := by rw [← hv]; exact hown
        go_wp2_with fail
        refine region_seqS (fun w' => Below g w w') (by kernel_rfl) (by rw [hv]; exact hB) ?_
        simp only [pairs, Nat.reduceAdd]
        change SeqS _ _ _ _ _ _ _ _ wr.drew
        rw [hv]
        clear hv hD hb0
        repeat (first
          | (refine SeqS.take (v := ?_) (by first | assumption | trivial) (by kernel_rfl) (by decide +kernel) (by decide +kernel) (Or.inl ⟨by rfl, ?_⟩) ?_
             rotate_left
             focus
               intro w' hb'
               have d0 := (hb'.cell (p := ⟨b, off, none⟩) hbl.out).trans c0.out
               have d1 := (hb'.cell (p := ⟨b, off + 1, none⟩) hbl.out).trans c1.out
               have d2 := (hb'.cell (p := ⟨b, off + 2, none⟩) hbl.out).trans c2.out
               have d3 := (hb'.cell (p := ⟨b, off + 3, none⟩) hbl.out).trans c3.out
               go_simp
               with_reducible rfl
             simp only [Act.put, List.setIfInBounds_toArray, List.set_cons_zero, List.set_cons_succ])
          | (refine SeqS.take1 (v := ?_) (by first | assumption | trivial) (by kernel_rfl) (by decide +kernel) (by decide +kernel) (Or.inl ⟨by rfl, ?_⟩) ?_
             rotate_left
             focus
               intro w' hb'
               have d0 := (hb'.cell (p := ⟨b, off, none⟩) hbl.out).trans c0.out
               have d1 := (hb'.cell (p := ⟨b, off + 1, none⟩) hbl.out).trans c1.out
               have d2 := (hb'.cell (p := ⟨b, off + 2, none⟩) hbl.out).trans c2.out
               have d3 := (hb'.cell (p := ⟨b, off + 3, none⟩) hbl.out).trans c3.out
               go_simp
               with_reducible rfl
             simp only [Act.put, List.setIfInBounds_toArray, List.set_cons_zero, List.set_cons_succ])
          | (refine SeqS.take2 (v := ?_) (by first | assumption | trivial) (by kernel_rfl) (by decide +kernel) (by decide +kernel) (Or.inl ⟨by rfl, ?_⟩) ?_
             rotate_left
             focus
               intro w' hb'
               have d0 := (hb'.cell (p := ⟨b, off, none⟩) hbl.out).trans c0.out
               have d1 := (hb'.cell (p := ⟨b, off + 1, none⟩) hbl.out).trans c1.out
               have d2 := (hb'.cell (p := ⟨b, off + 2, none⟩) hbl.out).trans c2.out
               have d3 := (hb'.cell (p := ⟨b, off + 3, none⟩) hbl.out).trans c3.out
               go_simp
               with_reducible rfl
             simp only [Act.put, List.setIfInBounds_toArray, List.set_cons_zero, List.set_cons_succ])
          | (refine SeqS.take3 (v := ?_) (by first | assumption | trivial) (by kernel_rfl) (by decide +kernel) (by decide +kernel) (Or.inl ⟨by rfl, ?_⟩) ?_
             rotate_left
             focus
               intro w' hb'
               have d0 := (hb'.cell (p := ⟨b, off, none⟩) hbl.out).trans c0.out
               have d1 := (hb'.cell (p := ⟨b, off + 1, none⟩) hbl.out).trans c1.out
               have d2 := (hb'.cell (p := ⟨b, off + 2, none⟩) hbl.out).trans c2.out
               have d3 := (hb'.cell (p := ⟨b, off + 3, none⟩) hbl.out).trans c3.out
               go_simp
               with_reducible rfl
             simp only [Act.put, List.setIfInBounds_toArray, List.set_cons_zero, List.set_cons_succ])
          | (refine SeqS.take4 (v := ?_) (by first | assumption | trivial) (by kernel_rfl) (by decide +kernel) (by decide +kernel) (Or.inl ⟨by rfl, ?_⟩) ?_
             rotate_left
             focus
               intro w' hb'
               have d0 := (hb'.cell (p := ⟨b, off, none⟩) hbl.out).trans c0.out
               have d1 := (hb'.cell (p := ⟨b, off + 1, none⟩) hbl.out).trans c1.out
               have d2 := (hb'.cell (p := ⟨b, off + 2, none⟩) hbl.out).trans c2.out
               have d3 := (hb'.cell (p := ⟨b, off + 3, none⟩) hbl.out).trans c3.out
               go_simp
               with_reducible rfl
             simp only [Act.put, List.setIfInBounds_toArray, List.set_cons_zero, List.set_cons_succ]))
        refine SeqS.alone (by decide +kernel) (by rfl) (fun K hK => ?_)
        go_simp
        refine (t1 _).mono ?_
        rintro e w' ⟨rfl, rfl⟩
        go_simp
        refine hK _ _ hB ?_
        clear hK K
        refine SeqS.alone (by decide +kernel) (by rfl) (fun K hK => ?_)
        go_simp
        refine (t2 _).mono ?_
        rintro e w' ⟨rfl, rfl⟩
        go_simp
        refine hK _ _ hB ?_
        clear hK K
        repeat (first
          | (refine SeqS.take (v := ?_) (by first | assumption | trivial) (by kernel_rfl) (by decide +kernel) (by decide +kernel) (Or.inl ⟨by rfl, ?_⟩) ?_
             rotate_left
             focus
               intro w' hb'
               go_simp
               with_reducible rfl
             simp only [Act.put, List.setIfInBounds_toArray, List.set_cons_zero, List.set_cons_succ]))
        refine SeqS.alone (by decide +kernel) (by rfl) (fun K hK => ?_)
        go_simp
        have hBs : g ≤ v.heap.size := Nat.le_trans (by have := hg.out; omega) hB.size
        have hone := one_at v .u8 5 (mixc c 3 : Int)
        have hB2 := hB.alloc hBs (.cells #[.int .u8 (mixc c 3 : Int)] 5)
        have hown2 := hown.alloc (.cells #[.int .u8 (mixc c 3 : Int)] 5)
        obtain ⟨v2, hv2⟩ : ∃ v2, v.alloc (.cells #[.int .u8 (mixc c 3 : Int)] 5) = v2 := ⟨_, rfl⟩
        rw [hv2] at hone hB2 hown2 ⊢
        have hBs2 : g ≤ v2.heap.size := by rw [← hv2]; simp; omega
        clear hv2
        refine hK _ _ hB2 ?_
        clear hK K
        refine SeqS.alone (by decide +kernel) (by rfl) (fun K hK => ?_)
        refine wp_append_ints (.tmp 9) (.tmp 37) 31 rfl g 5 i0 (.int .u8 0) 1 Try.underlying31 hi hz0 hz1 hz2 rfl rfl hown2 rfl hone ?_ ?_ hBs2 ?_
        · unfold maxLen; omega
        · omega
        intro v3 w3 hown3 hg3
        have hB3 := hB2.grown hg3 hBs2 (fun j hj => (hown2.lt j hj).1)
        have hown3 : w3.ownsRow g 5 1 v3 4 (rowN 4 (mixc c)) := by rw [rowN_snoc]; exact hown3
        refine hK _ _ hB3 ?_
        clear hK K hown hown2 hone hB hB2 hg3
        (refine SeqS.take (v := ?_) (by first | assumption | trivial) (by kernel_rfl) (by decide +kernel) (by decide +kernel) (Or.inl ⟨by rfl, ?_⟩) ?_
         rotate_left
         focus
           intro w' hb'
           go_simp
           with_reducible rfl
         simp only [Act.put, List.setIfInBounds_toArray, List.set_cons_zero, List.set_cons_succ])
        refine SeqS.done (by decide +kernel) ?_
        go_wp2
        go_roundw
        case rel => exact ⟨4, by omega, by go_num, hown3, hB3⟩
        case measure => simp [intOf]
    · obtain rfl : k = 4 := by omega
      go_wp2
      go_ret
      obtain ⟨b', c', rfl, hr⟩ := Ints.of_owns (xs := bytesL 4 (mixc c)) (by rw [bytesL_row]; exact hown)
      refine ⟨b', c', rfl, hr, ?_⟩
      rw [hg.out]
      exact hB
end Go.Proofs.Ytclcnngpgbdjgaa

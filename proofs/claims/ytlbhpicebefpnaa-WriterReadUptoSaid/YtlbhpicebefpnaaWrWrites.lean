/-
  The law WriterWrites, out of what the program's writer comes to ('WriterProg'). New memory alone is written. Conditions: the calls and their bytes are no more than a hundred million.
-/
import Derived.Test.YtlbhpicebefpnaaWrStepB
import Derived.Test.YtlbhpicebefpnaaBys
namespace Go.Proofs.Ytlbhpicebefpnaa
open Go.RowKit

theorem wrOp_len (r : Int) (xs : List Int) (e : Int) (o : OpV) (w : World) (h : o.Ok w) : (wrOp r xs e o).1.length ≤ xs.length + 32 + o.wt := by
  have st : ∀ ys : List Int, (wrStep r xs e ys).1.length ≤ xs.length + ys.length := fun ys => by
    unfold wrStep
    split
    · exact Nat.le_add_right _ _
    · split
      · exact Nat.le_add_right _ _
      · rw [List.length_append]; exact Nat.le_refl _
  have hb := h.b.len
  have hl := h.l.1
  have hi := h.il
  have hwt : o.wt = o.bn + 32 * o.ln := rfl
  unfold wrOp
  split
  · unfold wrNum
    split
    · rename_i hf
      have h1 := st (beL o.N o.A.toNat)
      have h2 := beL_len o.N o.A.toNat
      have := hf.1
      have := hf.2.1
      omega
    · show xs.length ≤ _
      omega
  · split
    · have := st o.bs; omega
    · split
      · have := st o.id; omega
      · split
        · have h1 := st (o.id.take 16)
          have h2 : (o.id.take 16).length ≤ 16 := List.length_take_le _ _
          omega
        · split
          · have := st o.ls; omega
          · show xs.length ≤ _
            omega
theorem wrC_ne {r : Int} {a : Option Addr} {n c : Nat} {e : Int} : ∀ v ∈ wrC r a n c e, ∀ z, v ≠ .int .u8 z := by
  intro v hv z h
  simp only [wrC, List.mem_cons, List.not_mem_nil, or_false] at hv
  rcases hv with rfl | rfl | rfl
  · injection h with h1 _; cases h1
  · cases h
  · injection h with h1 _; cases h1
theorem ids_in {w : World} {a : Option Addr} {n c : Nat} {zs : List Int} (h : IdsAt w a n c zs) : ∀ x, a = some x → 0 < n → x.block < w.heap.size := by
  intro x hx h0
  rcases h.2.2 with h1 | ⟨b, off, ha, hc⟩
  · omega
  · rw [hx] at ha
    injection ha with ha
    rw [ha]
    exact World.block_lt_of_cell? w _ (hc 0 (by omega))

set_option maxRecDepth 100000 in
set_option maxHeartbeats 2000000 in
theorem writes_any (WP : WriterProg) (room : Int) (a : Option Addr) (m k : Nat) (ops : List OpV) (w : World) (hG : WP.Gl w) (hr0 : -9223372036854775808 ≤ room) (hr1 : room < 9223372036854775808) (hO : OpsAt w a m k ops) (hm : m + wts ops ≤ 100000000) :
    Calls Try.prog 3 #[.int .i64 room, .slice a m k] w fun q w' => q = .returned (.bool true) ∧ Below w.heap.size w w' := by
  obtain ⟨ZL, hZZ, hZl⟩ := zeroOp
  go_enter Try.func3, Try.ntmps3
  go_wp2_with fail
  refine (small_any a m k ops w hO hm).mono ?_
  rintro q w1 ⟨rfl, b1⟩
  have G1 := WP.gl_keep hG (b1.mono (WP.gl_le hG))
  by_cases hS : (m : Int) + (wts ops : Int) ≤ 5000
  case neg =>
    rw [decide_eq_false hS]
    go_wp2_with fail
    refine (alive10_any WP _ G1).mono ?_
    rintro q w9 ⟨rfl, b9⟩
    go_wp2
    go_ret
    exact ⟨rfl, b1.trans (b9.mono b1.size)⟩
  rw [decide_eq_true hS]
  have hSH := Lib.hid hS
  have hmI : (m : Int) ≤ 5000 := by omega
  have hmH := Lib.hid hm
  clear hS hm
  go_wp2_with fail
  refine (WP.new room w1 G1 hr0 hr1).mono ?_
  rintro q w2 ⟨g, F, rfl, R2, hF, b2⟩
  have hB2 := b1.trans (b2.mono b1.size)
  have hF2 : ∀ b, F b → w.heap.size ≤ b := fun b hb => Nat.le_trans b1.size (hF b hb)
  have G2 := WP.gl_keep G1 (b2.mono (WP.gl_le G1))
  clear b1 b2 G1 hF
  obtain ⟨R, hR⟩ : ∃ R, max room 0 = R := ⟨_, rfl⟩
  have hcr := rwNew_any room w2
  rw [hR] at R2 hcr
  clear hR
  go_wp2_with fail
  refine hcr.mono ?_
  rintro q w3 ⟨rfl, b3⟩
  have R3 := WP.stay R2 b3
  have hB3 := hB2.trans (b3.mono hB2.size)
  clear b3 R2 hB2 hcr G2
  go_wp2_with fail
  obtain ⟨W4, hW4⟩ : ∃ W4, w3.alloc (.cells #[.int .i64 R, .slice none 0 0, .int .i64 0] 30) = W4 := ⟨_, rfl⟩
  obtain ⟨Y, hY⟩ : ∃ Y, w3.heap.size = Y := ⟨_, rfl⟩
  have b4 : Below w3.heap.size w3 W4 := by rw [← hW4]; exact below1 w3 _
  have hz4 : Blk W4 Y 30 (wrC R none 0 0 0) := by rw [← hW4, ← hY]; exact Blk.new w3 _ (wrC R none 0 0 0)
  have R4 := WP.stay R3 b4
  have hB4 := hB3.trans (b4.mono hB3.size)
  have nfY : ¬ F Y := fun h => by have := WP.lt R3 _ h; omega
  have hYw : w.heap.size ≤ Y := by rw [← hY]; exact hB3.size
  rw [hW4, hY]
  clear hW4 b4 R3 hB3 hY
  go_loopw [24] (fun i wr => ∃ (j : Nat) (F : Nat → Prop) (xs : List Int) (e : Int) (a' : Option Addr) (n' c' : Nat), j ≤ m ∧ i = .int .i64 j ∧ WP.Wr F wr g R xs e ∧ (∀ b, F b → w.heap.size ≤ b) ∧ ¬ F Y ∧ Blk wr Y 30 (wrC R a' n' c' e) ∧ Ints .u8 wr a' n' c' xs ∧ (∀ x, a' = some x → 0 < n' → ¬ F x.block) ∧ Below w.heap.size w wr ∧ xs.length ≤ 32 * j + wts (ops.take j)) (fun i _ => m - (intOf i).toNat)
  case atStart => exact ⟨0, F, [], 0, none, 0, 0, Nat.zero_le _, rfl, R4, hF2, nfY, hz4, ⟨rfl, Nat.le_refl _, .inl rfl⟩, (by intro x hx; cases hx), hB4, Nat.zero_le _⟩
  case round =>
    clear R4 hz4 hB4 nfY hF2
    obtain ⟨j, F, xs, e, a', n', c', hj, rfl, hR, hF, nfY, hz, hI, hA, hB, hlen⟩ := hrel
    by_cases hlt : j < m
    · have hji : (j : Int) < (m : Int) := by omega
      obtain ⟨ob, oo, o, rfl, ho, _, hkw⟩ := hO.get j hlt
      have hbw := hkw.b.isIn.2
      have hlw := ids_in hkw.l
      obtain ⟨ob', oo', o', ha', ho', hrg, hk⟩ := (hO.keep hB).get j hlt
      injection ha' with ha'
      injection ha' with e1 e2 _
      subst e1; subst e2
      obtain rfl : o = o' := by rw [ho] at ho'; injection ho'
      have hstep := wts_take ops j o ho
      have hle := wt_le ho
      have hol := OpV.len hk.il
      have hIr : IsRow Try.prog 37 o.cells.length := by rw [hol]; exact rowOp
      have hone := Lib.hid (o.one)
      have hnb : n' + o.wt ≤ 80000000 := by rw [← hI.len]; have := hSH.out; omega
      have CS := fun w5 h => step10_any WP F g R xs a' n' c' e o w5 h
      unfold Steps10 at CS
      have hlen6 : (wrOp R xs e o).1.length ≤ 32 * (j + 1) + wts (ops.take (j + 1)) := by have := wrOp_len R xs e o _ hk; omega
      obtain ⟨E6, hE6⟩ : ∃ E6, (wrOp R xs e o).2 = E6 := ⟨_, rfl⟩
      obtain ⟨X6, hX6⟩ : ∃ X6, (wrOp R xs e o).1 = X6 := ⟨_, rfl⟩
      rw [hE6, hX6] at CS
      rw [hX6] at hlen6
      obtain ⟨C, hC⟩ : ∃ C, o.cells = C := ⟨_, rfl⟩
      rw [hC] at hrg hIr hol hone CS
      have hnew := Blk.new wr 37 ZL
      have b1 := below1 wr (.cells ZL.toArray 37)
      have hltH := Lib.hid hlt
      clear hstep hle ho ho' hlt hj hE6 hX6 hlen
      go_wp2_with (first
        | ((with_reducible refine wpList_load_part rfl 37 (.tmp 26) rfl ?_ C hrg hIr ?_); rfl)
        | (with_reducible refine wpList_alloc_blk rfl 37 rfl hZZ ?_)
        | (refine wpList_store_part (cs := C) rfl 37 (.tmp 8) (.tmp 27) rfl rfl rfl hnew hIr ?_ hone.out ?_
           (rw [hol, hZl]; decide)
           intro w5 hk5 hg5
           refine RowKit.Hid.out ?_))
      refine Lib.hid ?_
      rw [overV_all _ _ (by rw [hol, hZl])] at hk5
      have bw5 : Below wr.heap.size wr w5 := b1.trans (below_of_grown hg5 (Nat.le_refl _) (by rw [size1]; omega))
      have R5 := WP.stay hR bw5
      have hz5 := hz.keep bw5 hz.lt
      have hI5 := hI.keep bw5
      have hB5 := hB.trans (bw5.mono hB.size)
      have G5 := WP.gl_keep hG (hB5.mono (WP.gl_le hG))
      have CS5 := CS w5 ⟨G5, R5, hI5, hA, hk.keep bw5, fun x hx h0 hf => by have h1 := hbw x hx h0; have h2 := hF _ hf; omega, fun x hx h0 hf => by have h1 := hlw x hx h0; have h2 := hF _ hf; omega, hnb⟩
      clear hg5 b1 hnew CS hk hkw hbw hlw hrg bw5 hR hz hI hB
      go_wp2_with (first
        | ((refine wpList_load_blk rfl 30 (.tmp 6) rfl ?_ hz5 rowWr rfl ?_); rfl)
        | ((refine wpList_load_blk rfl 37 (.tmp 8) rfl ?_ hk5 rowOp hol ?_); rfl))
      refine CS5.mono ?_
      rintro q w6 ⟨F6, a6, n6, c6, rfl, R6, I6, A6, g6, m6⟩
      have hz6 : Blk w6 Y 30 (wrC R a' n' c' e) := (m6.2 Y hz5.lt nfY).trans hz5
      have nfY6 : ¬ F6 Y := fun h => by
        rcases g6 _ h with h | h
        · exact nfY h
        · have := hz5.lt; omega
      have hF6 := g6.low hF hB5.size
      have hB6 := hB5.trans (m6.below hF hB5.size)
      clear CS5 g6 m6 R5 hz5 hI5 hB5 G5 hk5 nfY hF hA
      go_wp2_with (refine wpList_store_part (cur := wrC R a' n' c' e) (cs := wrC R a6 n6 c6 E6) rfl 30 (.tmp 6) (.tmp 31) rfl rfl rfl hz6 rowWr (by simp [wrC]) (by simp [wrC, Value.oneCell']) ?_; intro w7 hz7' hg7; refine RowKit.Hid.out ?_)
      refine Lib.hid ?_
      have hz7 : Blk w7 Y 30 (wrC R a6 n6 c6 E6) := hz7'.cast (overV_all _ _ (by rfl))
      have R7 := WP.keep R6 (fun b hb => hg7.block b (WP.lt R6 b hb) (by intro h; injection h with h; subst h; exact nfY6 hb)) hg7.size
      have I7 := I6.grown hg7 (fun x hx h0 h => (I6.ne_blk hz6 wrC_ne x hx h0) h)
      have hB7 := hB6.trans (below_of_grown hg7 hYw hz6.lt)
      have G7 := WP.gl_keep hG (hB7.mono (WP.gl_le hG))
      clear hz7' hg7 R6 I6 hB6 hz6
      have CD := WP.done F6 g R X6 E6 w7 G7 R7
      obtain ⟨D, hD⟩ : ∃ D, (if E6 = 0 then X6 else []) = D := ⟨_, rfl⟩
      rw [hD] at CD
      go_wp2_with fail
      refine CD.mono ?_
      rintro q w8 ⟨b, c, rfl, own8, b8⟩
      have hz8 := hz7.keep b8 hz7.lt
      have R8 := WP.stay R7 b8
      have I8 := I7.keep b8
      have hB8 := hB7.trans (b8.mono hB7.size)
      have G8 := WP.gl_keep G7 (b8.mono (WP.gl_le G7))
      have hIb8 : Ints .u8 w8 b D.length c D := by
        obtain ⟨a5, c5, hv, hi⟩ := Ints.of_owns own8
        injection hv with e1 _ e2
        subst e1; subst e2
        exact hi
      have hBy8 := Bys.of_owns own8
      have hAtB : ∀ y, At b D.length y → w7.heap.size ≤ y := fun y ⟨_, x, hx, hy⟩ => by rw [← hy]; exact (own8.lt x.block (by rw [hx]; rfl)).1
      have hYl := hz7.lt
      have hw7 := hB7.size
      have hFl : ∀ y, F6 y → y < w7.heap.size := WP.lt R7
      have hal := I7.isIn.2
      clear CD hz7 R7 I7 hB7 G7 own8 b8
      go_wp2_with ((refine wpList_load_blk rfl 30 (.tmp 6) rfl ?_ hz8 rowWr rfl ?_); rfl)
      refine (rwDone_any R a6 n6 c6 E6 w8).mono ?_
      rintro q w9 ⟨rfl, b9⟩
      obtain ⟨ra, rc, hre, hIr9⟩ : ∃ ra rc, (if E6 = 0 then Value.slice a6 n6 c6 else .slice none 0 0) = .slice ra D.length rc ∧ Ints .u8 w9 ra D.length rc D := by
        rw [← hD]
        by_cases h : E6 = 0
        · rw [if_pos h, if_pos h, I8.len]
          exact ⟨a6, c6, rfl, I8.keep b9⟩
        · rw [if_neg h, if_neg h]
          exact ⟨none, 0, rfl, ⟨rfl, Nat.le_refl _, .inl rfl⟩⟩
      rw [hre]
      have hz9 := hz8.keep b9 hz8.lt
      have R9 := WP.stay R8 b9
      have I9 := I8.keep b9
      have hIb9 := hIb8.keep b9
      have hB9 := hB8.trans (b9.mono hB8.size)
      have G9 := WP.gl_keep G8 (b9.mono (WP.gl_le G8))
      have hBy9 : Bys w9 b D.length c := by
        refine ⟨hBy8.1, ?_⟩
        rcases hBy8.2 with h0 | ⟨y, cs, ha, hy, hv⟩
        · exact .inl h0
        · exact .inr ⟨y, cs, ha, hy.keep b9 hy.lt, hv⟩
      have hln := I9.len
      have hDl : D.length ≤ X6.length := by
        rw [← hD]
        split
        · exact Nat.le_refl _
        · exact Nat.zero_le _
      clear hz8 R8 I8 hB8 G8 hIb8 hBy8 b9 hre hD
      go_wp2_with fail
      have S9 : Blk w9.drew Y 30 (wrC R a6 n6 c6 E6) ∧ Ints .u8 w9.drew b D.length c D ∧ Ints .u8 w9.drew ra D.length rc D := ⟨hz9, hIb9, hIr9⟩
      have R9d : WP.Wr F6 w9.drew g R X6 E6 := WP.stay R9 (Below.drew (Below.refl _ _))
      have hB9d := Below.drew hB9
      have G9d := WP.gl_keep hG (hB9d.mono (WP.gl_le hG))
      have I9d : Ints .u8 w9.drew a6 n6 c6 X6 := I9
      have hBy9d : Bys w9.drew b D.length c := hBy9
      clear hz9 hIb9 hIr9 R9 hB9 G9 I9 hBy9
      refine region_seqS (fun w' => Blk w' Y 30 (wrC R a6 n6 c6 E6) ∧ Ints .u8 w' b D.length c D ∧ Ints .u8 w' ra D.length rc D) (by kernel_rfl) S9 ?_
      simp only [pairs, Nat.reduceAdd]
      repeat (first
        | (refine SeqS.take (v := ?_) (by first | assumption | trivial) (by kernel_rfl) (by decide +kernel) (by decide +kernel) (Or.inl ⟨by rfl, ?_⟩) ?_
           rotate_left
           focus
             intro w' hb'
             go_simp
             with_reducible rfl
           simp only [Act.put, List.setIfInBounds_toArray, List.set_cons_zero, List.set_cons_succ])
        | (refine SeqS.take (v := ?_) (by first | assumption | trivial) (by kernel_rfl) (by decide +kernel) (by decide +kernel) (Or.inl ⟨by rfl, ?_⟩) ?_
           rotate_left
           focus
             intro w' hb'
             have d0 : w'.cell? ⟨Y, 1, none⟩ = some (.slice a6 n6 c6) := hb'.1.cell 1
             go_simp
             with_reducible rfl
           simp only [Act.put, List.setIfInBounds_toArray, List.set_cons_zero, List.set_cons_succ])
        | (refine SeqS.take (v := ?_) (by first | assumption | trivial) (by kernel_rfl) (by decide +kernel) (by decide +kernel) (Or.inl ⟨by rfl, ?_⟩) ?_
           rotate_left
           focus
             intro w' hb'
             have d0 : w'.cell? ⟨Y, 2, none⟩ = some (.int .i64 E6) := hb'.1.cell 2
             go_simp
             with_reducible rfl
           simp only [Act.put, List.setIfInBounds_toArray, List.set_cons_zero, List.set_cons_succ])
        | (refine SeqS.take (v := ?_) (by first | assumption | trivial) (by kernel_rfl) (by decide +kernel) (by decide +kernel) (Or.inl ⟨by rfl, ?_⟩) ?_
           rotate_left
           focus
             intro w' hb'
             have f0 := hb'.2.1.string 27 9 5 Try.underlying27 Try.underlying5 Try.underlying9
             go_simp
             with_reducible rfl
           simp only [Act.put, List.setIfInBounds_toArray, List.set_cons_zero, List.set_cons_succ])
        | (refine SeqS.take (v := ?_) (by first | assumption | trivial) (by kernel_rfl) (by decide +kernel) (by decide +kernel) (Or.inl ⟨by rfl, ?_⟩) ?_
           rotate_left
           focus
             intro w' hb'
             have f0 := hb'.2.2.string 27 9 5 Try.underlying27 Try.underlying5 Try.underlying9
             go_simp
             with_reducible rfl
           simp only [Act.put, List.setIfInBounds_toArray, List.set_cons_zero, List.set_cons_succ])
        | (refine SeqS.take (v := undef) (by first | assumption | trivial) (by kernel_rfl) (by decide +kernel) (by decide +kernel) (Or.inr ⟨by rfl, rfl⟩) ?_
           simp only [Act.put, List.setIfInBounds_toArray, List.set_cons_zero, List.set_cons_succ])
        | (refine SeqS.take1 (v := ?_) (by first | assumption | trivial) (by kernel_rfl) (by decide +kernel) (by decide +kernel) (Or.inl ⟨by rfl, ?_⟩) ?_
           rotate_left
           focus
             intro w' hb'
             go_simp
             with_reducible rfl
           simp only [Act.put, List.setIfInBounds_toArray, List.set_cons_zero, List.set_cons_succ])
        | (refine SeqS.take1 (v := ?_) (by first | assumption | trivial) (by kernel_rfl) (by decide +kernel) (by decide +kernel) (Or.inl ⟨by rfl, ?_⟩) ?_
           rotate_left
           focus
             intro w' hb'
             have d0 : w'.cell? ⟨Y, 1, none⟩ = some (.slice a6 n6 c6) := hb'.1.cell 1
             go_simp
             with_reducible rfl
           simp only [Act.put, List.setIfInBounds_toArray, List.set_cons_zero, List.set_cons_succ])
        | (refine SeqS.take1 (v := ?_) (by first | assumption | trivial) (by kernel_rfl) (by decide +kernel) (by decide +kernel) (Or.inl ⟨by rfl, ?_⟩) ?_
           rotate_left
           focus
             intro w' hb'
             have d0 : w'.cell? ⟨Y, 2, none⟩ = some (.int .i64 E6) := hb'.1.cell 2
             go_simp
             with_reducible rfl
           simp only [Act.put, List.setIfInBounds_toArray, List.set_cons_zero, List.set_cons_succ])
        | (refine SeqS.take1 (v := ?_) (by first | assumption | trivial) (by kernel_rfl) (by decide +kernel) (by decide +kernel) (Or.inl ⟨by rfl, ?_⟩) ?_
           rotate_left
           focus
             intro w' hb'
             have f0 := hb'.2.1.string 27 9 5 Try.underlying27 Try.underlying5 Try.underlying9
             go_simp
             with_reducible rfl
           simp only [Act.put, List.setIfInBounds_toArray, List.set_cons_zero, List.set_cons_succ])
        | (refine SeqS.take1 (v := ?_) (by first | assumption | trivial) (by kernel_rfl) (by decide +kernel) (by decide +kernel) (Or.inl ⟨by rfl, ?_⟩) ?_
           rotate_left
           focus
             intro w' hb'
             have f0 := hb'.2.2.string 27 9 5 Try.underlying27 Try.underlying5 Try.underlying9
             go_simp
             with_reducible rfl
           simp only [Act.put, List.setIfInBounds_toArray, List.set_cons_zero, List.set_cons_succ])
        | (refine SeqS.take1 (v := undef) (by first | assumption | trivial) (by kernel_rfl) (by decide +kernel) (by decide +kernel) (Or.inr ⟨by rfl, rfl⟩) ?_
           simp only [Act.put, List.setIfInBounds_toArray, List.set_cons_zero, List.set_cons_succ])
        | (refine SeqS.take2 (v := ?_) (by first | assumption | trivial) (by kernel_rfl) (by decide +kernel) (by decide +kernel) (Or.inl ⟨by rfl, ?_⟩) ?_
           rotate_left
           focus
             intro w' hb'
             go_simp
             with_reducible rfl
           simp only [Act.put, List.setIfInBounds_toArray, List.set_cons_zero, List.set_cons_succ])
        | (refine SeqS.take2 (v := ?_) (by first | assumption | trivial) (by kernel_rfl) (by decide +kernel) (by decide +kernel) (Or.inl ⟨by rfl, ?_⟩) ?_
           rotate_left
           focus
             intro w' hb'
             have d0 : w'.cell? ⟨Y, 1, none⟩ = some (.slice a6 n6 c6) := hb'.1.cell 1
             go_simp
             with_reducible rfl
           simp only [Act.put, List.setIfInBounds_toArray, List.set_cons_zero, List.set_cons_succ])
        | (refine SeqS.take2 (v := ?_) (by first | assumption | trivial) (by kernel_rfl) (by decide +kernel) (by decide +kernel) (Or.inl ⟨by rfl, ?_⟩) ?_
           rotate_left
           focus
             intro w' hb'
             have d0 : w'.cell? ⟨Y, 2, none⟩ = some (.int .i64 E6) := hb'.1.cell 2
             go_simp
             with_reducible rfl
           simp only [Act.put, List.setIfInBounds_toArray, List.set_cons_zero, List.set_cons_succ])
        | (refine SeqS.take2 (v := ?_) (by first | assumption | trivial) (by kernel_rfl) (by decide +kernel) (by decide +kernel) (Or.inl ⟨by rfl, ?_⟩) ?_
           rotate_left
           focus
             intro w' hb'
             have f0 := hb'.2.1.string 27 9 5 Try.underlying27 Try.underlying5 Try.underlying9
             go_simp
             with_reducible rfl
           simp only [Act.put, List.setIfInBounds_toArray, List.set_cons_zero, List.set_cons_succ])
        | (refine SeqS.take2 (v := ?_) (by first | assumption | trivial) (by kernel_rfl) (by decide +kernel) (by decide +kernel) (Or.inl ⟨by rfl, ?_⟩) ?_
           rotate_left
           focus
             intro w' hb'
             have f0 := hb'.2.2.string 27 9 5 Try.underlying27 Try.underlying5 Try.underlying9
             go_simp
             with_reducible rfl
           simp only [Act.put, List.setIfInBounds_toArray, List.set_cons_zero, List.set_cons_succ])
        | (refine SeqS.take2 (v := undef) (by first | assumption | trivial) (by kernel_rfl) (by decide +kernel) (by decide +kernel) (Or.inr ⟨by rfl, rfl⟩) ?_
           simp only [Act.put, List.setIfInBounds_toArray, List.set_cons_zero, List.set_cons_succ])
        | (refine SeqS.take3 (v := ?_) (by first | assumption | trivial) (by kernel_rfl) (by decide +kernel) (by decide +kernel) (Or.inl ⟨by rfl, ?_⟩) ?_
           rotate_left
           focus
             intro w' hb'
             go_simp
             with_reducible rfl
           simp only [Act.put, List.setIfInBounds_toArray, List.set_cons_zero, List.set_cons_succ])
        | (refine SeqS.take3 (v := ?_) (by first | assumption | trivial) (by kernel_rfl) (by decide +kernel) (by decide +kernel) (Or.inl ⟨by rfl, ?_⟩) ?_
           rotate_left
           focus
             intro w' hb'
             have d0 : w'.cell? ⟨Y, 1, none⟩ = some (.slice a6 n6 c6) := hb'.1.cell 1
             go_simp
             with_reducible rfl
           simp only [Act.put, List.setIfInBounds_toArray, List.set_cons_zero, List.set_cons_succ])
        | (refine SeqS.take3 (v := ?_) (by first | assumption | trivial) (by kernel_rfl) (by decide +kernel) (by decide +kernel) (Or.inl ⟨by rfl, ?_⟩) ?_
           rotate_left
           focus
             intro w' hb'
             have d0 : w'.cell? ⟨Y, 2, none⟩ = some (.int .i64 E6) := hb'.1.cell 2
             go_simp
             with_reducible rfl
           simp only [Act.put, List.setIfInBounds_toArray, List.set_cons_zero, List.set_cons_succ])
        | (refine SeqS.take3 (v := ?_) (by first | assumption | trivial) (by kernel_rfl) (by decide +kernel) (by decide +kernel) (Or.inl ⟨by rfl, ?_⟩) ?_
           rotate_left
           focus
             intro w' hb'
             have f0 := hb'.2.1.string 27 9 5 Try.underlying27 Try.underlying5 Try.underlying9
             go_simp
             with_reducible rfl
           simp only [Act.put, List.setIfInBounds_toArray, List.set_cons_zero, List.set_cons_succ])
        | (refine SeqS.take3 (v := ?_) (by first | assumption | trivial) (by kernel_rfl) (by decide +kernel) (by decide +kernel) (Or.inl ⟨by rfl, ?_⟩) ?_
           rotate_left
           focus
             intro w' hb'
             have f0 := hb'.2.2.string 27 9 5 Try.underlying27 Try.underlying5 Try.underlying9
             go_simp
             with_reducible rfl
           simp only [Act.put, List.setIfInBounds_toArray, List.set_cons_zero, List.set_cons_succ])
        | (refine SeqS.take3 (v := undef) (by first | assumption | trivial) (by kernel_rfl) (by decide +kernel) (by decide +kernel) (Or.inr ⟨by rfl, rfl⟩) ?_
           simp only [Act.put, List.setIfInBounds_toArray, List.set_cons_zero, List.set_cons_succ]))
      refine SeqS.alone (by decide +kernel) (by rfl) (fun K hK => ?_)
      go_simp
      refine (WP.len F6 g R X6 E6 w9.drew G9d R9d).mono ?_
      rw [hln]
      rintro q w10 ⟨rfl, b10⟩
      have S10 := (⟨S9.1.keep b10 S9.1.lt, S9.2.1.keep b10, S9.2.2.keep b10⟩ : Blk w10 Y 30 (wrC R a6 n6 c6 E6) ∧ Ints .u8 w10 b D.length c D ∧ Ints .u8 w10 ra D.length rc D)
      have R10 := WP.stay R9d b10
      have hB10 := hB9d.trans (b10.mono hB9d.size)
      have G10 := WP.gl_keep G9d (b10.mono (WP.gl_le G9d))
      have I10 := I9d.keep b10
      have hBy10 : Bys w10 b D.length c := by
        refine ⟨hBy9d.1, ?_⟩
        rcases hBy9d.2 with h0 | ⟨y, cs, ha, hy, hv⟩
        · exact .inl h0
        · exact .inr ⟨y, cs, ha, hy.keep b10 hy.lt, hv⟩
      clear S9 R9d hB9d G9d I9d hBy9d b10
      go_simp
      refine hK _ _ S10 ?_
      clear hK K
      repeat (first
        | (refine SeqS.take (v := ?_) (by first | assumption | trivial) (by kernel_rfl) (by decide +kernel) (by decide +kernel) (Or.inl ⟨by rfl, ?_⟩) ?_
           rotate_left
           focus
             intro w' hb'
             go_simp
             with_reducible rfl
           simp only [Act.put, List.setIfInBounds_toArray, List.set_cons_zero, List.set_cons_succ])
        | (refine SeqS.take (v := ?_) (by first | assumption | trivial) (by kernel_rfl) (by decide +kernel) (by decide +kernel) (Or.inl ⟨by rfl, ?_⟩) ?_
           rotate_left
           focus
             intro w' hb'
             have d0 : w'.cell? ⟨Y, 1, none⟩ = some (.slice a6 n6 c6) := hb'.1.cell 1
             go_simp
             with_reducible rfl
           simp only [Act.put, List.setIfInBounds_toArray, List.set_cons_zero, List.set_cons_succ])
        | (refine SeqS.take (v := ?_) (by first | assumption | trivial) (by kernel_rfl) (by decide +kernel) (by decide +kernel) (Or.inl ⟨by rfl, ?_⟩) ?_
           rotate_left
           focus
             intro w' hb'
             have d0 : w'.cell? ⟨Y, 2, none⟩ = some (.int .i64 E6) := hb'.1.cell 2
             go_simp
             with_reducible rfl
           simp only [Act.put, List.setIfInBounds_toArray, List.set_cons_zero, List.set_cons_succ])
        | (refine SeqS.take (v := ?_) (by first | assumption | trivial) (by kernel_rfl) (by decide +kernel) (by decide +kernel) (Or.inl ⟨by rfl, ?_⟩) ?_
           rotate_left
           focus
             intro w' hb'
             have f0 := hb'.2.1.string 27 9 5 Try.underlying27 Try.underlying5 Try.underlying9
             go_simp
             with_reducible rfl
           simp only [Act.put, List.setIfInBounds_toArray, List.set_cons_zero, List.set_cons_succ])
        | (refine SeqS.take (v := ?_) (by first | assumption | trivial) (by kernel_rfl) (by decide +kernel) (by decide +kernel) (Or.inl ⟨by rfl, ?_⟩) ?_
           rotate_left
           focus
             intro w' hb'
             have f0 := hb'.2.2.string 27 9 5 Try.underlying27 Try.underlying5 Try.underlying9
             go_simp
             with_reducible rfl
           simp only [Act.put, List.setIfInBounds_toArray, List.set_cons_zero, List.set_cons_succ])
        | (refine SeqS.take (v := undef) (by first | assumption | trivial) (by kernel_rfl) (by decide +kernel) (by decide +kernel) (Or.inr ⟨by rfl, rfl⟩) ?_
           simp only [Act.put, List.setIfInBounds_toArray, List.set_cons_zero, List.set_cons_succ])
        | (refine SeqS.take1 (v := ?_) (by first | assumption | trivial) (by kernel_rfl) (by decide +kernel) (by decide +kernel) (Or.inl ⟨by rfl, ?_⟩) ?_
           rotate_left
           focus
             intro w' hb'
             go_simp
             with_reducible rfl
           simp only [Act.put, List.setIfInBounds_toArray, List.set_cons_zero, List.set_cons_succ])
        | (refine SeqS.take1 (v := ?_) (by first | assumption | trivial) (by kernel_rfl) (by decide +kernel) (by decide +kernel) (Or.inl ⟨by rfl, ?_⟩) ?_
           rotate_left
           focus
             intro w' hb'
             have d0 : w'.cell? ⟨Y, 1, none⟩ = some (.slice a6 n6 c6) := hb'.1.cell 1
             go_simp
             with_reducible rfl
           simp only [Act.put, List.setIfInBounds_toArray, List.set_cons_zero, List.set_cons_succ])
        | (refine SeqS.take1 (v := ?_) (by first | assumption | trivial) (by kernel_rfl) (by decide +kernel) (by decide +kernel) (Or.inl ⟨by rfl, ?_⟩) ?_
           rotate_left
           focus
             intro w' hb'
             have d0 : w'.cell? ⟨Y, 2, none⟩ = some (.int .i64 E6) := hb'.1.cell 2
             go_simp
             with_reducible rfl
           simp only [Act.put, List.setIfInBounds_toArray, List.set_cons_zero, List.set_cons_succ])
        | (refine SeqS.take1 (v := ?_) (by first | assumption | trivial) (by kernel_rfl) (by decide +kernel) (by decide +kernel) (Or.inl ⟨by rfl, ?_⟩) ?_
           rotate_left
           focus
             intro w' hb'
             have f0 := hb'.2.1.string 27 9 5 Try.underlying27 Try.underlying5 Try.underlying9
             go_simp
             with_reducible rfl
           simp only [Act.put, List.setIfInBounds_toArray, List.set_cons_zero, List.set_cons_succ])
        | (refine SeqS.take1 (v := ?_) (by first | assumption | trivial) (by kernel_rfl) (by decide +kernel) (by decide +kernel) (Or.inl ⟨by rfl, ?_⟩) ?_
           rotate_left
           focus
             intro w' hb'
             have f0 := hb'.2.2.string 27 9 5 Try.underlying27 Try.underlying5 Try.underlying9
             go_simp
             with_reducible rfl
           simp only [Act.put, List.setIfInBounds_toArray, List.set_cons_zero, List.set_cons_succ])
        | (refine SeqS.take1 (v := undef) (by first | assumption | trivial) (by kernel_rfl) (by decide +kernel) (by decide +kernel) (Or.inr ⟨by rfl, rfl⟩) ?_
           simp only [Act.put, List.setIfInBounds_toArray, List.set_cons_zero, List.set_cons_succ])
        | (refine SeqS.take2 (v := ?_) (by first | assumption | trivial) (by kernel_rfl) (by decide +kernel) (by decide +kernel) (Or.inl ⟨by rfl, ?_⟩) ?_
           rotate_left
           focus
             intro w' hb'
             go_simp
             with_reducible rfl
           simp only [Act.put, List.setIfInBounds_toArray, List.set_cons_zero, List.set_cons_succ])
        | (refine SeqS.take2 (v := ?_) (by first | assumption | trivial) (by kernel_rfl) (by decide +kernel) (by decide +kernel) (Or.inl ⟨by rfl, ?_⟩) ?_
           rotate_left
           focus
             intro w' hb'
             have d0 : w'.cell? ⟨Y, 1, none⟩ = some (.slice a6 n6 c6) := hb'.1.cell 1
             go_simp
             with_reducible rfl
           simp only [Act.put, List.setIfInBounds_toArray, List.set_cons_zero, List.set_cons_succ])
        | (refine SeqS.take2 (v := ?_) (by first | assumption | trivial) (by kernel_rfl) (by decide +kernel) (by decide +kernel) (Or.inl ⟨by rfl, ?_⟩) ?_
           rotate_left
           focus
             intro w' hb'
             have d0 : w'.cell? ⟨Y, 2, none⟩ = some (.int .i64 E6) := hb'.1.cell 2
             go_simp
             with_reducible rfl
           simp only [Act.put, List.setIfInBounds_toArray, List.set_cons_zero, List.set_cons_succ])
        | (refine SeqS.take2 (v := ?_) (by first | assumption | trivial) (by kernel_rfl) (by decide +kernel) (by decide +kernel) (Or.inl ⟨by rfl, ?_⟩) ?_
           rotate_left
           focus
             intro w' hb'
             have f0 := hb'.2.1.string 27 9 5 Try.underlying27 Try.underlying5 Try.underlying9
             go_simp
             with_reducible rfl
           simp only [Act.put, List.setIfInBounds_toArray, List.set_cons_zero, List.set_cons_succ])
        | (refine SeqS.take2 (v := ?_) (by first | assumption | trivial) (by kernel_rfl) (by decide +kernel) (by decide +kernel) (Or.inl ⟨by rfl, ?_⟩) ?_
           rotate_left
           focus
             intro w' hb'
             have f0 := hb'.2.2.string 27 9 5 Try.underlying27 Try.underlying5 Try.underlying9
             go_simp
             with_reducible rfl
           simp only [Act.put, List.setIfInBounds_toArray, List.set_cons_zero, List.set_cons_succ])
        | (refine SeqS.take2 (v := undef) (by first | assumption | trivial) (by kernel_rfl) (by decide +kernel) (by decide +kernel) (Or.inr ⟨by rfl, rfl⟩) ?_
           simp only [Act.put, List.setIfInBounds_toArray, List.set_cons_zero, List.set_cons_succ])
        | (refine SeqS.take3 (v := ?_) (by first | assumption | trivial) (by kernel_rfl) (by decide +kernel) (by decide +kernel) (Or.inl ⟨by rfl, ?_⟩) ?_
           rotate_left
           focus
             intro w' hb'
             go_simp
             with_reducible rfl
           simp only [Act.put, List.setIfInBounds_toArray, List.set_cons_zero, List.set_cons_succ])
        | (refine SeqS.take3 (v := ?_) (by first | assumption | trivial) (by kernel_rfl) (by decide +kernel) (by decide +kernel) (Or.inl ⟨by rfl, ?_⟩) ?_
           rotate_left
           focus
             intro w' hb'
             have d0 : w'.cell? ⟨Y, 1, none⟩ = some (.slice a6 n6 c6) := hb'.1.cell 1
             go_simp
             with_reducible rfl
           simp only [Act.put, List.setIfInBounds_toArray, List.set_cons_zero, List.set_cons_succ])
        | (refine SeqS.take3 (v := ?_) (by first | assumption | trivial) (by kernel_rfl) (by decide +kernel) (by decide +kernel) (Or.inl ⟨by rfl, ?_⟩) ?_
           rotate_left
           focus
             intro w' hb'
             have d0 : w'.cell? ⟨Y, 2, none⟩ = some (.int .i64 E6) := hb'.1.cell 2
             go_simp
             with_reducible rfl
           simp only [Act.put, List.setIfInBounds_toArray, List.set_cons_zero, List.set_cons_succ])
        | (refine SeqS.take3 (v := ?_) (by first | assumption | trivial) (by kernel_rfl) (by decide +kernel) (by decide +kernel) (Or.inl ⟨by rfl, ?_⟩) ?_
           rotate_left
           focus
             intro w' hb'
             have f0 := hb'.2.1.string 27 9 5 Try.underlying27 Try.underlying5 Try.underlying9
             go_simp
             with_reducible rfl
           simp only [Act.put, List.setIfInBounds_toArray, List.set_cons_zero, List.set_cons_succ])
        | (refine SeqS.take3 (v := ?_) (by first | assumption | trivial) (by kernel_rfl) (by decide +kernel) (by decide +kernel) (Or.inl ⟨by rfl, ?_⟩) ?_
           rotate_left
           focus
             intro w' hb'
             have f0 := hb'.2.2.string 27 9 5 Try.underlying27 Try.underlying5 Try.underlying9
             go_simp
             with_reducible rfl
           simp only [Act.put, List.setIfInBounds_toArray, List.set_cons_zero, List.set_cons_succ])
        | (refine SeqS.take3 (v := undef) (by first | assumption | trivial) (by kernel_rfl) (by decide +kernel) (by decide +kernel) (Or.inr ⟨by rfl, rfl⟩) ?_
           simp only [Act.put, List.setIfInBounds_toArray, List.set_cons_zero, List.set_cons_succ]))
      refine SeqS.alone (by decide +kernel) (by rfl) (fun K hK => ?_)
      go_simp
      refine (WP.err F6 g R X6 E6 w10 G10 R10).mono ?_
      rintro q w11 ⟨rfl, b11⟩
      have S11 := (⟨S10.1.keep b11 S10.1.lt, S10.2.1.keep b11, S10.2.2.keep b11⟩ : Blk w11 Y 30 (wrC R a6 n6 c6 E6) ∧ Ints .u8 w11 b D.length c D ∧ Ints .u8 w11 ra D.length rc D)
      have R11 := WP.stay R10 b11
      have hB11 := hB10.trans (b11.mono hB10.size)
      have I11 := I10.keep b11
      have hBy11 : Bys w11 b D.length c := by
        refine ⟨hBy10.1, ?_⟩
        rcases hBy10.2 with h0 | ⟨y, cs, ha, hy, hv⟩
        · exact .inl h0
        · exact .inr ⟨y, cs, ha, hy.keep b11 hy.lt, hv⟩
      clear S10 R10 hB10 G10 I10 hBy10 b11
      go_simp
      refine hK _ _ S11 ?_
      clear hK K
      repeat (first
        | (refine SeqS.take (v := ?_) (by first | assumption | trivial) (by kernel_rfl) (by decide +kernel) (by decide +kernel) (Or.inl ⟨by rfl, ?_⟩) ?_
           rotate_left
           focus
             intro w' hb'
             go_simp
             with_reducible rfl
           simp only [Act.put, List.setIfInBounds_toArray, List.set_cons_zero, List.set_cons_succ])
        | (refine SeqS.take (v := ?_) (by first | assumption | trivial) (by kernel_rfl) (by decide +kernel) (by decide +kernel) (Or.inl ⟨by rfl, ?_⟩) ?_
           rotate_left
           focus
             intro w' hb'
             have d0 : w'.cell? ⟨Y, 1, none⟩ = some (.slice a6 n6 c6) := hb'.1.cell 1
             go_simp
             with_reducible rfl
           simp only [Act.put, List.setIfInBounds_toArray, List.set_cons_zero, List.set_cons_succ])
        | (refine SeqS.take (v := ?_) (by first | assumption | trivial) (by kernel_rfl) (by decide +kernel) (by decide +kernel) (Or.inl ⟨by rfl, ?_⟩) ?_
           rotate_left
           focus
             intro w' hb'
             have d0 : w'.cell? ⟨Y, 2, none⟩ = some (.int .i64 E6) := hb'.1.cell 2
             go_simp
             with_reducible rfl
           simp only [Act.put, List.setIfInBounds_toArray, List.set_cons_zero, List.set_cons_succ])
        | (refine SeqS.take (v := ?_) (by first | assumption | trivial) (by kernel_rfl) (by decide +kernel) (by decide +kernel) (Or.inl ⟨by rfl, ?_⟩) ?_
           rotate_left
           focus
             intro w' hb'
             have f0 := hb'.2.1.string 27 9 5 Try.underlying27 Try.underlying5 Try.underlying9
             go_simp
             with_reducible rfl
           simp only [Act.put, List.setIfInBounds_toArray, List.set_cons_zero, List.set_cons_succ])
        | (refine SeqS.take (v := ?_) (by first | assumption | trivial) (by kernel_rfl) (by decide +kernel) (by decide +kernel) (Or.inl ⟨by rfl, ?_⟩) ?_
           rotate_left
           focus
             intro w' hb'
             have f0 := hb'.2.2.string 27 9 5 Try.underlying27 Try.underlying5 Try.underlying9
             go_simp
             with_reducible rfl
           simp only [Act.put, List.setIfInBounds_toArray, List.set_cons_zero, List.set_cons_succ])
        | (refine SeqS.take (v := undef) (by first | assumption | trivial) (by kernel_rfl) (by decide +kernel) (by decide +kernel) (Or.inr ⟨by rfl, rfl⟩) ?_
           simp only [Act.put, List.setIfInBounds_toArray, List.set_cons_zero, List.set_cons_succ])
        | (refine SeqS.take1 (v := ?_) (by first | assumption | trivial) (by kernel_rfl) (by decide +kernel) (by decide +kernel) (Or.inl ⟨by rfl, ?_⟩) ?_
           rotate_left
           focus
             intro w' hb'
             go_simp
             with_reducible rfl
           simp only [Act.put, List.setIfInBounds_toArray, List.set_cons_zero, List.set_cons_succ])
        | (refine SeqS.take1 (v := ?_) (by first | assumption | trivial) (by kernel_rfl) (by decide +kernel) (by decide +kernel) (Or.inl ⟨by rfl, ?_⟩) ?_
           rotate_left
           focus
             intro w' hb'
             have d0 : w'.cell? ⟨Y, 1, none⟩ = some (.slice a6 n6 c6) := hb'.1.cell 1
             go_simp
             with_reducible rfl
           simp only [Act.put, List.setIfInBounds_toArray, List.set_cons_zero, List.set_cons_succ])
        | (refine SeqS.take1 (v := ?_) (by first | assumption | trivial) (by kernel_rfl) (by decide +kernel) (by decide +kernel) (Or.inl ⟨by rfl, ?_⟩) ?_
           rotate_left
           focus
             intro w' hb'
             have d0 : w'.cell? ⟨Y, 2, none⟩ = some (.int .i64 E6) := hb'.1.cell 2
             go_simp
             with_reducible rfl
           simp only [Act.put, List.setIfInBounds_toArray, List.set_cons_zero, List.set_cons_succ])
        | (refine SeqS.take1 (v := ?_) (by first | assumption | trivial) (by kernel_rfl) (by decide +kernel) (by decide +kernel) (Or.inl ⟨by rfl, ?_⟩) ?_
           rotate_left
           focus
             intro w' hb'
             have f0 := hb'.2.1.string 27 9 5 Try.underlying27 Try.underlying5 Try.underlying9
             go_simp
             with_reducible rfl
           simp only [Act.put, List.setIfInBounds_toArray, List.set_cons_zero, List.set_cons_succ])
        | (refine SeqS.take1 (v := ?_) (by first | assumption | trivial) (by kernel_rfl) (by decide +kernel) (by decide +kernel) (Or.inl ⟨by rfl, ?_⟩) ?_
           rotate_left
           focus
             intro w' hb'
             have f0 := hb'.2.2.string 27 9 5 Try.underlying27 Try.underlying5 Try.underlying9
             go_simp
             with_reducible rfl
           simp only [Act.put, List.setIfInBounds_toArray, List.set_cons_zero, List.set_cons_succ])
        | (refine SeqS.take1 (v := undef) (by first | assumption | trivial) (by kernel_rfl) (by decide +kernel) (by decide +kernel) (Or.inr ⟨by rfl, rfl⟩) ?_
           simp only [Act.put, List.setIfInBounds_toArray, List.set_cons_zero, List.set_cons_succ])
        | (refine SeqS.take2 (v := ?_) (by first | assumption | trivial) (by kernel_rfl) (by decide +kernel) (by decide +kernel) (Or.inl ⟨by rfl, ?_⟩) ?_
           rotate_left
           focus
             intro w' hb'
             go_simp
             with_reducible rfl
           simp only [Act.put, List.setIfInBounds_toArray, List.set_cons_zero, List.set_cons_succ])
        | (refine SeqS.take2 (v := ?_) (by first | assumption | trivial) (by kernel_rfl) (by decide +kernel) (by decide +kernel) (Or.inl ⟨by rfl, ?_⟩) ?_
           rotate_left
           focus
             intro w' hb'
             have d0 : w'.cell? ⟨Y, 1, none⟩ = some (.slice a6 n6 c6) := hb'.1.cell 1
             go_simp
             with_reducible rfl
           simp only [Act.put, List.setIfInBounds_toArray, List.set_cons_zero, List.set_cons_succ])
        | (refine SeqS.take2 (v := ?_) (by first | assumption | trivial) (by kernel_rfl) (by decide +kernel) (by decide +kernel) (Or.inl ⟨by rfl, ?_⟩) ?_
           rotate_left
           focus
             intro w' hb'
             have d0 : w'.cell? ⟨Y, 2, none⟩ = some (.int .i64 E6) := hb'.1.cell 2
             go_simp
             with_reducible rfl
           simp only [Act.put, List.setIfInBounds_toArray, List.set_cons_zero, List.set_cons_succ])
        | (refine SeqS.take2 (v := ?_) (by first | assumption | trivial) (by kernel_rfl) (by decide +kernel) (by decide +kernel) (Or.inl ⟨by rfl, ?_⟩) ?_
           rotate_left
           focus
             intro w' hb'
             have f0 := hb'.2.1.string 27 9 5 Try.underlying27 Try.underlying5 Try.underlying9
             go_simp
             with_reducible rfl
           simp only [Act.put, List.setIfInBounds_toArray, List.set_cons_zero, List.set_cons_succ])
        | (refine SeqS.take2 (v := ?_) (by first | assumption | trivial) (by kernel_rfl) (by decide +kernel) (by decide +kernel) (Or.inl ⟨by rfl, ?_⟩) ?_
           rotate_left
           focus
             intro w' hb'
             have f0 := hb'.2.2.string 27 9 5 Try.underlying27 Try.underlying5 Try.underlying9
             go_simp
             with_reducible rfl
           simp only [Act.put, List.setIfInBounds_toArray, List.set_cons_zero, List.set_cons_succ])
        | (refine SeqS.take2 (v := undef) (by first | assumption | trivial) (by kernel_rfl) (by decide +kernel) (by decide +kernel) (Or.inr ⟨by rfl, rfl⟩) ?_
           simp only [Act.put, List.setIfInBounds_toArray, List.set_cons_zero, List.set_cons_succ])
        | (refine SeqS.take3 (v := ?_) (by first | assumption | trivial) (by kernel_rfl) (by decide +kernel) (by decide +kernel) (Or.inl ⟨by rfl, ?_⟩) ?_
           rotate_left
           focus
             intro w' hb'
             go_simp
             with_reducible rfl
           simp only [Act.put, List.setIfInBounds_toArray, List.set_cons_zero, List.set_cons_succ])
        | (refine SeqS.take3 (v := ?_) (by first | assumption | trivial) (by kernel_rfl) (by decide +kernel) (by decide +kernel) (Or.inl ⟨by rfl, ?_⟩) ?_
           rotate_left
           focus
             intro w' hb'
             have d0 : w'.cell? ⟨Y, 1, none⟩ = some (.slice a6 n6 c6) := hb'.1.cell 1
             go_simp
             with_reducible rfl
           simp only [Act.put, List.setIfInBounds_toArray, List.set_cons_zero, List.set_cons_succ])
        | (refine SeqS.take3 (v := ?_) (by first | assumption | trivial) (by kernel_rfl) (by decide +kernel) (by decide +kernel) (Or.inl ⟨by rfl, ?_⟩) ?_
           rotate_left
           focus
             intro w' hb'
             have d0 : w'.cell? ⟨Y, 2, none⟩ = some (.int .i64 E6) := hb'.1.cell 2
             go_simp
             with_reducible rfl
           simp only [Act.put, List.setIfInBounds_toArray, List.set_cons_zero, List.set_cons_succ])
        | (refine SeqS.take3 (v := ?_) (by first | assumption | trivial) (by kernel_rfl) (by decide +kernel) (by decide +kernel) (Or.inl ⟨by rfl, ?_⟩) ?_
           rotate_left
           focus
             intro w' hb'
             have f0 := hb'.2.1.string 27 9 5 Try.underlying27 Try.underlying5 Try.underlying9
             go_simp
             with_reducible rfl
           simp only [Act.put, List.setIfInBounds_toArray, List.set_cons_zero, List.set_cons_succ])
        | (refine SeqS.take3 (v := ?_) (by first | assumption | trivial) (by kernel_rfl) (by decide +kernel) (by decide +kernel) (Or.inl ⟨by rfl, ?_⟩) ?_
           rotate_left
           focus
             intro w' hb'
             have f0 := hb'.2.2.string 27 9 5 Try.underlying27 Try.underlying5 Try.underlying9
             go_simp
             with_reducible rfl
           simp only [Act.put, List.setIfInBounds_toArray, List.set_cons_zero, List.set_cons_succ])
        | (refine SeqS.take3 (v := undef) (by first | assumption | trivial) (by kernel_rfl) (by decide +kernel) (by decide +kernel) (Or.inr ⟨by rfl, rfl⟩) ?_
           simp only [Act.put, List.setIfInBounds_toArray, List.set_cons_zero, List.set_cons_succ]))
      refine SeqS.done (by decide +kernel) ?_
      obtain ⟨L, hL⟩ : ∃ L, D.length = L := ⟨_, rfl⟩
      rw [hL] at hBy11 hAtB hDl ⊢
      have hz11 := S11.1
      clear S11
      go_wp2_with fail
      have hLH := Lib.hid (show L ≤ 1000000 by have := hSH.out; have := wts_le ops (j + 1); have := hltH.out; omega)
      go_loopw [69] (fun i wr => ∃ i' : Nat, i' ≤ L ∧ i = .int .i64 i' ∧ Bys wr b L c ∧ Moved (At b L) w11 wr) (fun i _ => L - (intOf i).toNat)
      case atStart => exact ⟨0, Nat.zero_le _, rfl, hBy11, Moved.rfl'⟩
      case round =>
        clear hBy11
        obtain ⟨i', hi', rfl, hBy, hMv⟩ := hrel
        by_cases hil : i' < L
        · have hii : (i' : Int) < (L : Int) := by omega
          obtain ⟨y, v, rfl, hc, hf, hinc⟩ := hBy.inc i' hil
          have hilH := Lib.hid hil
          have hLI : (L : Int) ≤ 1000000 := by have := hLH.out; omega
          clear hil hi'
          go_wp2
          exact ⟨⟨i' + 1, by have := hilH.out; omega, by congr 1, (hinc _).1, hMv.then (hinc _).2⟩, by simp only [intOf]; have := hilH.out; omega⟩
        · have hii : ¬ (i' : Int) < (L : Int) := by omega
          have R12 := WP.keep R11 (fun y hy => hMv.2 y (WP.lt R11 y hy) (fun ha => by have := hAtB y ha; have := hFl y hy; omega)) hMv.size
          have hz12 : Blk _ Y 30 (wrC R a6 n6 c6 E6) := (hMv.2 Y hz11.lt (fun ha => by have := hAtB Y ha; omega)).trans hz11
          have I12 := ints_still I11 hMv (fun x hx h0 ha => by have := hal x hx h0; have := hAtB _ ha; omega)
          have hB12 := hB11.trans (hMv.below (fun y ha => Nat.le_trans hw7 (hAtB y ha)) hB11.size)
          clear hil hi' hMv hBy R11 hz11 I11 hB11
          go_wp2
          exact ⟨⟨j + 1, F6, X6, E6, a6, n6, c6, by have := hltH.out; omega, by congr 1, R12, hF6, nfY6, hz12, I12, A6, hB12, hlen6⟩, by simp only [intOf]; have := hltH.out; omega⟩
    · have hji : ¬ (j : Int) < (m : Int) := by omega
      have G12 := WP.gl_keep hG (hB.mono (WP.gl_le hG))
      clear hR hz hI hA hlen nfY hF hj hlt
      go_wp2_with fail
      refine (alive10_any WP _ G12).mono ?_
      rintro q w9 ⟨rfl, b9⟩
      go_wp2
      go_ret
      exact ⟨rfl, hB.trans (b9.mono hB.size)⟩
end Go.Proofs.Ytlbhpicebefpnaa

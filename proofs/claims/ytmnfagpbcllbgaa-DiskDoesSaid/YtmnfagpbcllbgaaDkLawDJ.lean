/-
  The law DiskDoes: the landed disk and the document's do the same, call for call. New memory alone is written. Conditions: the calls are of the sizes that the rows' own reach gives.
-/
import Derived.Test.YtmnfagpbcllbgaaJDkLawD5
namespace Go.Proofs.Ytmnfagpbcllbgaa
open Go.RowKit

def dd0 (r : Int) : List Value := ddC (rfC none 0 0 none 0 0) (rfC none 0 0 none 0 0) (rfC none 0 0 none 0 0) (dk0 r)
theorem built_dd (r : Int) : Try.prog.built 37 [(1, .int .i64 r)] = some (dd0 r).toArray := by kernel_rfl
theorem dd0_at (w : World) (r : Int) : RDisk (fun _ => False) w (dd0 r) (dk0 r) :=
  have h : RFile (fun _ => False) w (rfC none 0 0 none 0 0) ⟨[], []⟩ := ⟨none, 0, none, 0, rfl, ⟨rfl, Nat.le_refl _, .inl rfl⟩, fun _ _ h => absurd h (Nat.lt_irrefl 0), RSteps.empty _ _⟩
  ⟨_, _, _, rfl, h, h, h⟩
theorem two_of {B : Nat} {w0 w : World} {g : Nat} {r : Int} (h : DkOwn B w0 w g (dk0 r)) : Two (fun _ => False) B w0 w g (dd0 r) (dk0 r) (dk0 r) := by
  obtain ⟨L, P, h1, h2⟩ := h.is
  exact ⟨L, P, fun _ => False, h1, dd0_at w r, fun _ h => h.elim, h2, fun _ h => h.elim, h.b, h.s⟩

set_option maxRecDepth 100000 in
set_option maxHeartbeats 4000000 in
theorem law_dkdoes (R : Int) (a : Option Addr) (m k : Nat) (ops : List OpD) (w : World) (_ : (Lit.int .i64 R).wf = true) (hO : OpsD w a m k ops) (hsz : m ≤ 1954687338269 ∧ ∀ o ∈ ops, o.bn ≤ 140737488355328) :
    Calls Try.prog 3 #[.agg #[.int .i64 R, .slice a m k]] w fun q w' => q = .returned (.bool true) ∧ Below w.heap.size w w' := by
  have hszH := Lib.hid hsz
  have hb0 := below1 w (.cells #[.int .i64 R, .slice a m k] 24)
  have hs0 := size1 w (.cells #[.int .i64 R, .slice a m k] 24)
  have B0 : Blk (w.alloc (.cells #[.int .i64 R, .slice a m k] 24)) w.heap.size 24 [.int .i64 R, .slice a m k] := Blk.new w 24 [.int .i64 R, .slice a m k]
  have d0 := B0.cell 0
  have d1 := B0.cell 1
  obtain ⟨W, hW⟩ : ∃ W1, w.alloc (.cells #[.int .i64 R, .slice a m k] 24) = W1 := ⟨_, rfl⟩
  rw [hW] at hb0 hs0 d0 d1
  have hbW := hb0
  have d0 : W.cell? ⟨w.heap.size, 0, none⟩ = some (.int .i64 R) := d0
  have d1 : W.cell? ⟨w.heap.size, 1, none⟩ = some (.slice a m k) := d1
  have hO1 := Lib.hid (hO.keep hbW)
  have hWH := Lib.hid hW
  clear B0 hb0 hs0 hO hW hsz
  go_enter Try.func3, Try.ntmps3
  go_wp2_with ((with_reducible refine box_row rfl 24 (.tmp 0) rfl [.int .i64 R, .slice a m k] rfl ?_); refine RowKit.Hid.out ?_)
  refine Lib.hid ?_
  have e1 := hWH.out
  rw [show ([Value.int .i64 R, .slice a m k].toArray) = #[.int .i64 R, .slice a m k] from rfl, e1]
  clear e1
  have hsm := small18_any hO1.out hszH.out.1
  go_wp2_with fail
  refine hsm.mono ?_
  rintro q w2 ⟨b, rfl, b2⟩
  have hBL := hbW.trans (b2.mono hbW.size)
  have d0' : w2.cell? ⟨w.heap.size, 0, none⟩ = some (.int .i64 R) := by rw [b2.cell (World.block_lt_of_cell? W _ d0)]; exact d0
  have d1' : w2.cell? ⟨w.heap.size, 1, none⟩ = some (.slice a m k) := by rw [b2.cell (World.block_lt_of_cell? W _ d1)]; exact d1
  have hO2 := Lib.hid (hO1.out.keep b2)
  clear hsm b2 hbW d0 d1 hO1 hWH
  cases b
  · clear d0' d1' hO2
    go_wp2_with fail
    refine (alive18_any _).mono ?_
    rintro q wz ⟨rfl, bz⟩
    have hBz := hBL.trans (bz.mono hBL.size)
    clear bz hBL
    go_wp2
    go_ret
    exact ⟨rfl, hBz⟩
  by_cases hR : R < 1 ∨ 65536 < R
  · have hN := dNew_no (w := w2) R hR
    by_cases h1 : R < 1
    · clear hR d1' hO2
      go_wp2_with fail
      refine hN.mono ?_
      rintro q w3 ⟨rfl, rfl⟩
      clear hN
      go_wp2_with fail
      refine (alive18_any _).mono ?_
      rintro q wz ⟨rfl, bz⟩
      have hBz := hBL.trans (bz.mono hBL.size)
      clear bz hBL
      go_wp2
      go_ret
      exact ⟨rfl, hBz⟩
    · have h2 : 65536 < R := hR.resolve_left h1
      clear hR d1' hO2
      go_wp2_with fail
      refine hN.mono ?_
      rintro q w3 ⟨rfl, rfl⟩
      clear hN
      go_wp2_with fail
      refine (alive18_any _).mono ?_
      rintro q wz ⟨rfl, bz⟩
      have hBz := hBL.trans (bz.mono hBL.size)
      clear bz hBL
      go_wp2
      go_ret
      exact ⟨rfl, hBz⟩
  have hR1 : ¬ R < 1 := fun h => hR (.inl h)
  have hR2 : ¬ 65536 < R := fun h => hR (.inr h)
  have hN := new_own (w := w2) R (by omega)
  have o0 := Lib.hid (dk0_ok R (by omega))
  clear hR
  go_wp2_with fail
  refine hN.mono ?_
  rintro q w3 ⟨g0, rfl, h3⟩
  have t3 := two_of h3
  have e0 : w3.cell? ⟨w.heap.size, 0, none⟩ = some (.int .i64 R) := by rw [h3.b.cell (World.block_lt_of_cell? w2 _ d0')]; exact d0'
  have d1H := Lib.hid d1'
  have hBLH := Lib.hid hBL
  have hbd := built_dd R
  have hcl : (dd0 R).length = 9 := rfl
  have hco := t3.ddc.o
  obtain ⟨C0, hC0⟩ : ∃ C, dd0 R = C := ⟨_, rfl⟩
  rw [hC0] at hbd hcl t3 hco
  obtain ⟨zs, hzs⟩ : ∃ zs, ddZ = zs := ⟨_, rfl⟩
  have hz := zeroDd
  have hzl := ddZ_len
  rw [hzs] at hz hzl
  have n5 := Blk.new w3 37 zs
  have q5 := below1 w3 (.cells zs.toArray 37)
  have s5 := size1 w3 (.cells zs.toArray 37)
  have e1 := (h3.b.cell (World.block_lt_of_cell? w2 _ d1')).trans d1'
  have s5H := Lib.hid s5
  have q5H := Lib.hid q5
  clear hN h3 d0' d1' hBL hC0 hzs q5 s5
  go_wp2_with (first
    | ((with_reducible refine build_row rfl 37 #[(1, .tmp 46)] rfl (cells := C0.toArray) ?_ ?_); (refine Eq.trans (congrArg _ ?_) hbd; kernel_rfl))
    | (with_reducible refine wpList_alloc_blk rfl 37 rfl hz ?_)
    | (refine store_row rfl 37 (.tmp 5) _ rfl rfl rfl n5 rowDd hcl hzl hco ?_
       intro w4 b5 g5
       refine RowKit.Hid.out ?_))
  refine Lib.hid ?_
  have q6 : Below w3.heap.size w3 w4 := q5H.out.trans (below_of_grown g5 (Nat.le_refl _) (by rw [s5H.out]; omega))
  have h4 : Two (fun b => b = w3.heap.size) w2.heap.size w2 w4 g0 C0 (dk0 R) (dk0 R) := t3.keepE q6 (fun b hb => .inr ⟨by omega, by rw [hb]; exact b5.lt⟩)
  have hBG := t3.s
  obtain ⟨G, hG⟩ : ∃ G, w3.heap.size = G := ⟨_, rfl⟩
  rw [hG] at b5 h4 hBG
  rw [hG]
  have e2 := (q6.cell (World.block_lt_of_cell? w3 _ e1)).trans e1
  clear g5 q6 t3 n5 hG s5H q5H e0 e1 hbd hcl hco hR1 hR2
  go_wp2_with fail
  go_loopw [3, 51] (fun p i wr => ∃ j : Nat, j ≤ m ∧ i = .int .i64 j ∧ ∃ g cs D, p = .pointer (some ⟨g, 0, none⟩) ∧ D.Ok (0 + j) ∧ Two (fun b => b = G) w2.heap.size w2 wr g cs D D ∧ Blk wr G 37 cs) (fun _ i _ => m - (intOf i).toNat)
  case atStart => exact ⟨0, Nat.zero_le _, rfl, _, _, _, rfl, o0.out, h4, b5⟩
  case round =>
    clear h4 b5 e2
    obtain ⟨j, hj, rfl, g, cs, D, rfl, hOk, hT, b5⟩ := hrel
    by_cases hlt : j < m
    · have hji : (j : Int) < (m : Int) := by omega
      have hjb : (m : Int) ≤ 1954687338269 := by have := hszH.out.1; omega
      have hjT : 0 + j < 2199023255552 := by have := hszH.out.1; omega
      obtain ⟨_, _, o', hae, ho', hrae, hk0⟩ := hO2.out.get j hlt
      clear hae hrae
      have hub : ∀ x, o'.ua = some x → 0 < o'.un → x.block < w2.heap.size := hk0.u.isIn.2
      have hbn := hszH.out.2 o' (List.mem_of_getElem? ho')
      obtain ⟨b, off, o, rfl, ho, hr, hk⟩ := (hO2.out.keep hT.b).get j hlt
      obtain rfl : o' = o := by rw [ho] at ho'; injection ho' with ho'; exact ho'.symm
      clear ho' hk0 ho
      have hl := hT.ddc.l
      have hrow : IsRow Try.prog 37 cs.length := by rw [hl]; exact rowDd
      have hOl : opZ.length = 5 := rfl
      have hOZ := zeroOpD
      obtain ⟨ZL, hZL⟩ : ∃ z, opZ = z := ⟨_, rfl⟩
      rw [hZL] at hOl hOZ
      have hol : o'.cells.length = 5 := rfl
      have hone := Lib.hid o'.one
      have hIr : IsRow Try.prog 40 o'.cells.length := rowOpD
      have hnew := Blk.new wr 40 ZL
      have hB1 := below1 wr (.cells ZL.toArray 40)
      have st := Lib.hid (fun (w' : World) (q : Below wr.heap.size wr w') => step18_any (hT.keep q) hOk hjT (hk.keep q) hub hbn)
      obtain ⟨C, hC⟩ : ∃ C, o'.cells = C := ⟨_, rfl⟩
      rw [hC] at hr hol hone hIr st
      have hltH := Lib.hid hlt
      have hkp := Lib.hid (fun (w' : World) (q : Below wr.heap.size wr w') => b5.keep q b5.lt)
      have ltG := b5.lt
      clear hC hlt hj hk hub hbn hZL hOk hT b5
      go_wp2_with (first
        | ((with_reducible refine wpList_load_part rfl 40 (.tmp 53) rfl ?_ C hr hIr ?_); rfl)
        | (with_reducible refine wpList_alloc_blk rfl 40 rfl hOZ ?_)
        | (refine wpList_store_part (cs := C) rfl 40 (.tmp 7) (.tmp 54) rfl rfl rfl hnew hIr ?_ hone.out ?_
           (rw [hol, hOl]; decide)
           intro w5 hk5 hg5
           refine RowKit.Hid.out ?_))
      refine Lib.hid ?_
      rw [overV_all _ _ (by rw [hol, hOl])] at hk5
      have hB5 : Below wr.heap.size wr w5 := hB1.trans (below_of_grown hg5 (Nat.le_refl _) (by rw [size1]; omega))
      have bG := hkp.out w5 hB5
      have s5 := st.out w5 hB5
      clear st hkp hg5 hB1 hnew hr
      go_wp2_with (first
        | ((with_reducible refine wpList_load_blk rfl 37 (.tmp 5) rfl ?_ bG rowDd hl ?_); rfl)
        | ((with_reducible refine wpList_load_blk rfl 40 (.tmp 7) rfl ?_ hk5 rowOpD hol ?_); rfl))
      refine s5.mono ?_
      rintro q w6 ⟨g1, cs1, D1, rfl, ok1, h6, e6⟩
      have l1 := h6.ddc.l
      have o1 := h6.ddc.o
      have row1 : IsRow Try.prog 37 cs1.length := by rw [l1]; exact rowDd
      have bG := e6.blk bG rfl
      have n9 := Blk.new w6 37 zs
      have q7 := below1 w6 (.cells zs.toArray 37)
      have s7H := Lib.hid (size1 w6 (.cells zs.toArray 37))
      have bG := bG.keep q7 bG.lt
      have ltG6 := h6.elt G rfl
      clear s5 e6 hk5 hB5
      go_wp2_with (first
        | (with_reducible refine wpList_alloc_blk rfl 37 rfl hz ?_)
        | (refine store_row rfl 37 (.tmp 9) _ rfl rfl rfl n9 rowDd l1 hzl o1 ?_
           intro w7 b9 g9
           refine RowKit.Hid.out ?_))
      refine Lib.hid ?_
      have q8 : Below w6.heap.size w6 w7 := q7.trans (below_of_grown g9 (Nat.le_refl _) (by rw [s7H.out]; omega))
      have bG := bG.grown g9 (fun e => by injection e; omega)
      have h7 := h6.keep q8
      obtain ⟨M, hM⟩ : ∃ M, w6.heap.size = M := ⟨_, rfl⟩
      rw [hM] at b9 ltG6
      rw [hM]
      clear h6 q7 q8 n9 g9 hM s7H
      go_wp2_with fail
      obtain ⟨V, hV⟩ : ∃ V, w7.drew = V := ⟨_, rfl⟩
      have bG : Blk V G 37 cs := by rw [← hV]; exact bG
      have b9 : Blk V M 37 cs1 := by rw [← hV]; exact b9
      have h8 : Two (fun b => b = G) w2.heap.size w2 V g1 cs1 D1 D1 := by rw [← hV]; exact h7.keep (Below.refl _ _).drew
      refine region_seqS (fun w' => Blk w' M 37 cs1) (by kernel_rfl) (by rw [hV]; exact b9) ?_
      simp only [pairs, Nat.reduceAdd]
      rw [hV]
      clear hV h7
      repeat (first
        | (refine SeqS.take (v := .agg (cs1).toArray) (by first | assumption | trivial) (by kernel_rfl) (by decide +kernel) (by decide +kernel) (yields_blk (by rfl) 37 (.tmp 9) rfl rfl (fun w' h => h) (row1)) ?_
           simp only [Act.put, List.setIfInBounds_toArray, List.set_cons_zero, List.set_cons_succ])
        | (refine SeqS.take (v := ?_) (by first | assumption | trivial) (by kernel_rfl) (by decide +kernel) (by decide +kernel) (Or.inl ⟨by rfl, ?_⟩) ?_
           rotate_left
           focus
             intro w' hb'
             go_simp
             with_reducible rfl
           simp only [Act.put, List.setIfInBounds_toArray, List.set_cons_zero, List.set_cons_succ])
        | (refine SeqS.take (v := undef) (by first | assumption | trivial) (by kernel_rfl) (by decide +kernel) (by decide +kernel) (Or.inr ⟨by rfl, rfl⟩) ?_
           simp only [Act.put, List.setIfInBounds_toArray, List.set_cons_zero, List.set_cons_succ])
        | (refine SeqS.take1 (v := .agg (cs1).toArray) (by first | assumption | trivial) (by kernel_rfl) (by decide +kernel) (by decide +kernel) (yields_blk (by rfl) 37 (.tmp 9) rfl rfl (fun w' h => h) (row1)) ?_
           simp only [Act.put, List.setIfInBounds_toArray, List.set_cons_zero, List.set_cons_succ])
        | (refine SeqS.take1 (v := ?_) (by first | assumption | trivial) (by kernel_rfl) (by decide +kernel) (by decide +kernel) (Or.inl ⟨by rfl, ?_⟩) ?_
           rotate_left
           focus
             intro w' hb'
             go_simp
             with_reducible rfl
           simp only [Act.put, List.setIfInBounds_toArray, List.set_cons_zero, List.set_cons_succ])
        | (refine SeqS.take1 (v := undef) (by first | assumption | trivial) (by kernel_rfl) (by decide +kernel) (by decide +kernel) (Or.inr ⟨by rfl, rfl⟩) ?_
           simp only [Act.put, List.setIfInBounds_toArray, List.set_cons_zero, List.set_cons_succ])
        | (refine SeqS.take2 (v := .agg (cs1).toArray) (by first | assumption | trivial) (by kernel_rfl) (by decide +kernel) (by decide +kernel) (yields_blk (by rfl) 37 (.tmp 9) rfl rfl (fun w' h => h) (row1)) ?_
           simp only [Act.put, List.setIfInBounds_toArray, List.set_cons_zero, List.set_cons_succ])
        | (refine SeqS.take2 (v := ?_) (by first | assumption | trivial) (by kernel_rfl) (by decide +kernel) (by decide +kernel) (Or.inl ⟨by rfl, ?_⟩) ?_
           rotate_left
           focus
             intro w' hb'
             go_simp
             with_reducible rfl
           simp only [Act.put, List.setIfInBounds_toArray, List.set_cons_zero, List.set_cons_succ])
        | (refine SeqS.take2 (v := undef) (by first | assumption | trivial) (by kernel_rfl) (by decide +kernel) (by decide +kernel) (Or.inr ⟨by rfl, rfl⟩) ?_
           simp only [Act.put, List.setIfInBounds_toArray, List.set_cons_zero, List.set_cons_succ])
        | (refine SeqS.take3 (v := .agg (cs1).toArray) (by first | assumption | trivial) (by kernel_rfl) (by decide +kernel) (by decide +kernel) (yields_blk (by rfl) 37 (.tmp 9) rfl rfl (fun w' h => h) (row1)) ?_
           simp only [Act.put, List.setIfInBounds_toArray, List.set_cons_zero, List.set_cons_succ])
        | (refine SeqS.take3 (v := ?_) (by first | assumption | trivial) (by kernel_rfl) (by decide +kernel) (by decide +kernel) (Or.inl ⟨by rfl, ?_⟩) ?_
           rotate_left
           focus
             intro w' hb'
             go_simp
             with_reducible rfl
           simp only [Act.put, List.setIfInBounds_toArray, List.set_cons_zero, List.set_cons_succ])
        | (refine SeqS.take3 (v := undef) (by first | assumption | trivial) (by kernel_rfl) (by decide +kernel) (by decide +kernel) (Or.inr ⟨by rfl, rfl⟩) ?_
           simp only [Act.put, List.setIfInBounds_toArray, List.set_cons_zero, List.set_cons_succ]))
      refine SeqS.alone (by decide +kernel) (by rfl) (fun K1 hK => ?_)
      refine wp_store_part 37 (.tmp 5) (.tmp 64) rfl rfl rfl bG row1 (by rw [l1, hl]; decide) o1 (fun w8 hb8 hg8 => ?_)
      rw [overV_all _ _ (by rw [l1, hl])] at hb8
      have b9 := b9.grown hg8 (fun e => by injection e; omega)
      have h9 := h8.grown hg8 rfl hBG
      refine hK _ _ b9 ?_
      clear hK K1 hg8 h8 bG
      repeat (first
        | (refine SeqS.take (v := ?_) (by first | assumption | trivial) (by kernel_rfl) (by decide +kernel) (by decide +kernel) (Or.inl ⟨by rfl, ?_⟩) ?_
           rotate_left
           focus
             intro w' hb'
             go_simp
             with_reducible rfl
           simp only [Act.put, List.setIfInBounds_toArray, List.set_cons_zero, List.set_cons_succ])
        | (refine SeqS.take (v := undef) (by first | assumption | trivial) (by kernel_rfl) (by decide +kernel) (by decide +kernel) (Or.inr ⟨by rfl, rfl⟩) ?_
           simp only [Act.put, List.setIfInBounds_toArray, List.set_cons_zero, List.set_cons_succ])
        | (refine SeqS.take1 (v := ?_) (by first | assumption | trivial) (by kernel_rfl) (by decide +kernel) (by decide +kernel) (Or.inl ⟨by rfl, ?_⟩) ?_
           rotate_left
           focus
             intro w' hb'
             go_simp
             with_reducible rfl
           simp only [Act.put, List.setIfInBounds_toArray, List.set_cons_zero, List.set_cons_succ])
        | (refine SeqS.take1 (v := undef) (by first | assumption | trivial) (by kernel_rfl) (by decide +kernel) (by decide +kernel) (Or.inr ⟨by rfl, rfl⟩) ?_
           simp only [Act.put, List.setIfInBounds_toArray, List.set_cons_zero, List.set_cons_succ])
        | (refine SeqS.take2 (v := ?_) (by first | assumption | trivial) (by kernel_rfl) (by decide +kernel) (by decide +kernel) (Or.inl ⟨by rfl, ?_⟩) ?_
           rotate_left
           focus
             intro w' hb'
             go_simp
             with_reducible rfl
           simp only [Act.put, List.setIfInBounds_toArray, List.set_cons_zero, List.set_cons_succ])
        | (refine SeqS.take2 (v := undef) (by first | assumption | trivial) (by kernel_rfl) (by decide +kernel) (by decide +kernel) (Or.inr ⟨by rfl, rfl⟩) ?_
           simp only [Act.put, List.setIfInBounds_toArray, List.set_cons_zero, List.set_cons_succ]))
      refine SeqS.done (by decide +kernel) ?_
      have lk := like18_any h9 ok1 (by omega)
      clear b9
      go_wp2_with ((with_reducible refine load_if rfl 37 (.tmp 5) rfl ?_ hb8 rowDd l1 ?_); rfl)
      refine lk.mono ?_
      rintro q w9 ⟨rfl, b10⟩
      have hb9 := hb8.keep b10 hb8.lt
      have h10 := h9.keep b10
      clear lk h9 hb8 b10
      go_wp2_with fail
      exact ⟨⟨j + 1, by have := hltH.out; omega, by congr 1, g1, cs1, D1, rfl, ok1, h10, hb9⟩, by simp only [intOf]; have := hltH.out; omega⟩
    · obtain rfl : j = m := by omega
      have hBL := hBLH.out.trans (hT.b.mono hBLH.out.size)
      clear hT hOk b5
      go_wp2_with fail
      refine (alive18_any _).mono ?_
      rintro q wz ⟨rfl, bz⟩
      have hBz := hBL.trans (bz.mono hBL.size)
      clear bz hBL
      go_wp2
      go_ret
      exact ⟨rfl, hBz⟩
end Go.Proofs.Ytmnfagpbcllbgaa

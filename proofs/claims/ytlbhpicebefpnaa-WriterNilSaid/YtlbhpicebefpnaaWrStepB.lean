/-
  One call both ways, as the law WriterWrites makes it, the rest: Id, Hint ('step10_any' is all of them). New memory and the writer's own alone are written. Conditions: as in WrStep.
-/
import Derived.Test.YtlbhpicebefpnaaWrStep
import Derived.Test.YtlbhpicebefpnaaRdPad
import Derived.Test.YtlbhpicebefpnaaSeqTake
namespace Go.Proofs.Ytlbhpicebefpnaa
open Go.RowKit

theorem slice_all10 {P : Program} {t e : TypeId} {n g off : Nat} (hu : P.underlying t = some (.array n e)) (hs : (P.info? e).map (·.size) = some 1) (w : World) :
    (Instr.sliceAt t (.pointer (some ⟨g, off, none⟩)) none none none).run P w = .ok (.slice (some ⟨g, off, none⟩) n n) w := by
  have hn : P.arrayLen t = n := by simp [Program.arrayLen, hu]
  have he : P.elem t = e := by simp [Program.elem, hu]
  have hrun := run_sliceAt_array_all w t ⟨g, off, none⟩ (by rw [hn, he]; exact hu)
  have hsz : (sizeOf e).run P w = .ok 1 w := by
    cases hq : P.info? e with
    | none => simp [hq] at hs
    | some i => simp [sizeOf, typeInfo, hq, (by simpa [hq] using hs : i.size = 1)]
  rw [hn, he, hsz] at hrun
  rw [hrun]
  unfold slicedAt
  have : (⟨g, off, none⟩ : Addr).add (0 * 1) = ⟨g, off, none⟩ := by simp [Addr.add_mid]
  simp [this]
theorem slice_to10 {P : Program} {t e : TypeId} {n g off : Nat} (hu : P.underlying t = some (.array n e)) (hs : (P.info? e).map (·.size) = some 1) (h : Nat) (hh : h ≤ n) (w : World) :
    (Instr.sliceAt t (.pointer (some ⟨g, off, none⟩)) none (some (.int .i64 (h : Int))) none).run P w = .ok (.slice (some ⟨g, off, none⟩) h n) w := by
  have hn : P.arrayLen t = n := by simp [Program.arrayLen, hu]
  have he : P.elem t = e := by simp [Program.elem, hu]
  have hrun := run_sliceAt_array_h w t ⟨g, off, none⟩ (by rw [hn, he]; exact hu) .i64 (h : Int) (by omega) (by rw [hn]; omega)
  have hsz : (sizeOf e).run P w = .ok 1 w := by
    cases hq : P.info? e with
    | none => simp [hq] at hs
    | some i => simp [sizeOf, typeInfo, hq, (by simpa [hq] using hs : i.size = 1)]
  rw [hn, he, hsz] at hrun
  rw [hrun]
  unfold slicedAt
  have : (⟨g, off, none⟩ : Addr).add (0 * 1) = ⟨g, off, none⟩ := by simp [Addr.add_mid]
  simp [this]
theorem array_at10 {P : Program} {ty e : TypeId} {n : Nat} (hu : P.underlying ty = some (.array n e)) (A : Option Addr) (len cap : Nat) (hn : n ≤ len) (w : World) :
    (Instr.arrayAt ty (.slice A len cap)).run P w = .ok (.pointer A) w := by
  simp [Instr.arrayAt, run_underlying hu, Nat.not_lt.2 hn]
theorem OpV.at_id {o : OpV} (h : o.id.length = 32) (i : Nat) (hi : i < 32) : o.cells[4 + i]? = some (.int .u8 (o.id.getD i 0)) := by
  unfold OpV.cells
  rw [List.getElem?_append_right (by simp), List.getElem?_append_left (by simp [h]; omega)]
  simp only [List.length_cons, List.length_nil, Nat.zero_add, Nat.reduceAdd, Nat.add_sub_cancel_left]
  rw [List.getElem?_map, List.getElem?_eq_getElem (by omega), List.getD_eq_getElem?_getD, List.getElem?_eq_getElem (by omega)]
  rfl

set_option maxRecDepth 100000 in
set_option maxHeartbeats 1000000 in
theorem step10_id (WP : WriterProg) (F : Nat → Prop) (g : Nat) (r : Int) (xs : List Int) (a : Option Addr) (n c : Nat) (e : Int) (o : OpV) (w : World) (H : Met WP F g r xs a n c e o w) (hk : o.k = 2) : Steps10 WP F g r xs a n c e o w := by
  unfold Steps10
  rw [show wrOp r xs e o = wrStep r xs e o.id by unfold wrOp; rw [if_neg (by omega), if_neg (by omega), if_pos hk]]
  obtain ⟨hG, hR, hI, hA, hO, hb, hl, hs⟩ := H
  have hol := OpV.len hO.il
  have hIr : IsRow Try.prog 37 o.cells.length := by rw [hol]; exact rowOp
  have h0 : o.cells[0]? = some (.int .i64 2) := by rw [o.at0, hk]
  have hid := fun i hi => OpV.at_id hO.il i hi
  have hone := Lib.hid (o.one)
  have hlx := hI.len
  have hwt : o.wt = o.bn + 32 * o.ln := rfl
  obtain ⟨C, hC⟩ : ∃ C, o.cells = C := ⟨_, rfl⟩
  rw [hC] at hol hIr hone h0 hid ⊢
  have JOF : ∀ w', Blk w' (w.heap.size + 1) 37 C → Ints .u8 w' (some ⟨w.heap.size + 1, 4, none⟩) 32 32 o.id := fun w' h => ⟨hO.il, Nat.le_refl _, .inr ⟨_, _, rfl, fun i hi => (h.cell (4 + i)).trans (hid i hi)⟩⟩
  have hIrow : IsRow Try.prog 34 (o.id.map (Value.int .u8)).length := by rw [List.length_map, hO.il]; exact rowId9
  have hsA := fun w' => slice_all10 (P := Try.prog) (g := w.heap.size + 1) (off := 4) Try.underlying34 sizeU8s w'
  obtain ⟨L, hL⟩ : ∃ L, o.id.map (Value.int .u8) = L := ⟨_, rfl⟩
  have hRG : ∀ w', Blk w' (w.heap.size + 1) 37 C → w'.rangeAt (w.heap.size + 1) 4 L := fun w' h => h.range 4 L (fun j v hj => by
    rw [← hL, List.getElem?_map] at hj
    have hj' : j < 32 := by
      by_cases h : j < 32
      · exact h
      · rw [List.getElem?_eq_none (by rw [hO.il]; omega)] at hj
        cases hj
    rw [hid j hj', List.getD_eq_getElem?_getD]
    rw [List.getElem?_eq_getElem (by rw [hO.il]; exact hj')] at hj ⊢
    exact hj)
  rw [hL] at hIrow
  go_enter Try.func10, Try.ntmps10
  go_wp2_with fail
  obtain ⟨V, hV⟩ : ∃ V, (((w.alloc (.cells #[.int .i64 r, .slice a n c, .int .i64 e] 30)).alloc (.cells C.toArray 37)).alloc (.cells #[.int .i64 0, .slice none 0 0, .int .i64 0] 30)) = V := ⟨_, rfl⟩
  have hx : Blk V w.heap.size 30 (wrC r a n c e) := by rw [← hV]; exact ((Blk.new w _ (wrC r a n c e)).alloc _).alloc _
  have ho : Blk V (w.heap.size + 1) 37 C := by rw [← hV]; exact (Blk.new1 w _ _ C).alloc _
  have hr : Blk V (w.heap.size + 2) 30 (wrC 0 none 0 0 0) := by
    rw [← hV]
    have h := Blk.new ((w.alloc (.cells #[.int .i64 r, .slice a n c, .int .i64 e] 30)).alloc (.cells C.toArray 37)) 30 (wrC 0 none 0 0 0)
    rw [size2] at h
    exact h
  have hB : Below w.heap.size w V := by rw [← hV]; exact below3 w _ _ _
  rw [hV]
  clear hV
  have RV := WP.stay hR hB
  have GV := WP.gl_keep hG (hB.mono (WP.gl_le hG))
  have hFl := WP.lt hR
  have hc0 : C[0]'(by omega) = .int .i64 2 := (List.getElem?_eq_some_iff.1 h0).2
  simp only [hc0]
  go_simp
  have hrg := hRG V ho
  have cid := WP.id F g r xs e o.id V GV RV hO.il hO.ir (by omega)
  rw [hL] at cid
  go_wp2_with ((with_reducible refine wpList_load_part rfl 34 (.tmp 36) rfl ?_ L hrg hIrow ?_); rfl)
  refine cid.mono ?_
  clear cid hrg
  rintro q w4 ⟨F4, rfl, R4, g4, m4⟩
  have hx4 : Blk w4 w.heap.size 30 (wrC r a n c e) := (m4.2 _ hx.lt (fun h => by have := hFl _ h; omega)).trans hx
  have ho4 : Blk w4 (w.heap.size + 1) 37 C := (m4.2 _ ho.lt (fun h => by have := hFl _ h; omega)).trans ho
  have hr4 : Blk w4 (w.heap.size + 2) 30 (wrC 0 none 0 0 0) := (m4.2 _ hr.lt (fun h => by have := hFl _ h; omega)).trans hr
  have I4 := ints_still (hI.keep hB) m4 hA
  have J4 := JOF w4 ho4
  go_wp2_with fail
  have S4 : Blk w4.drew w.heap.size 30 (wrC r a n c e) := hx4
  have R4d : WP.Wr F4 w4.drew g r _ _ := WP.stay R4 (Below.drew (Below.refl _ _))
  have m4d : Moved F V w4.drew := ⟨Below.drew m4.1, m4.2⟩
  have I4d : Ints .u8 w4.drew a n c xs := I4
  have J4d : Ints .u8 w4.drew _ _ _ _ := J4
  have hr4d : Blk w4.drew (w.heap.size + 2) 30 (wrC 0 none 0 0 0) := hr4
  clear R4 m4 I4 J4 hr4 hx4 ho4
  refine region_seqS (fun w' => Blk w' w.heap.size 30 (wrC r a n c e)) (by kernel_rfl) S4 ?_
  simp only [pairs, Nat.reduceAdd]
  repeat (first
    | (refine SeqS.take (v := .agg (wrC r a n c e).toArray) (by first | assumption | trivial) (by kernel_rfl) (by decide +kernel) (by decide +kernel) (yields_blk (by rfl) 30 (.tmp 4) rfl rfl (fun w' h => h) (rowWr)) ?_
       simp only [Act.put, List.setIfInBounds_toArray, List.set_cons_zero, List.set_cons_succ])
    | (refine SeqS.take (v := ?_) (by first | assumption | trivial) (by kernel_rfl) (by decide +kernel) (by decide +kernel) (Or.inl ⟨by rfl, ?_⟩) ?_
       rotate_left
       focus
         intro w' hb'
         go_simp
         with_reducible rfl
       simp only [Act.put, List.setIfInBounds_toArray, List.set_cons_zero, List.set_cons_succ])
    | (refine SeqS.take (v := undef) (by first | assumption | trivial) (by kernel_rfl) (by decide +kernel) (by decide +kernel) (Or.inr ⟨by rfl, rfl⟩) ?_
       simp only [Act.put, List.setIfInBounds_toArray, List.set_cons_zero, List.set_cons_succ])
    | (refine SeqS.take1 (v := .agg (wrC r a n c e).toArray) (by first | assumption | trivial) (by kernel_rfl) (by decide +kernel) (by decide +kernel) (yields_blk (by rfl) 30 (.tmp 4) rfl rfl (fun w' h => h) (rowWr)) ?_
       simp only [Act.put, List.setIfInBounds_toArray, List.set_cons_zero, List.set_cons_succ])
    | (refine SeqS.take1 (v := ?_) (by first | assumption | trivial) (by kernel_rfl) (by decide +kernel) (by decide +kernel) (Or.inl ⟨by rfl, ?_⟩) ?_
       rotate_left
       focus
         intro w' hb'
         go_simp
         with_reducible rfl
       simp only [Act.put, List.setIfInBounds_toArray, List.set_cons_zero, List.set_cons_succ])
    | (refine SeqS.take1 (v := undef) (by first | assumption | trivial) (by kernel_rfl) (by decide +kernel) (by decide +kernel) (Or.inr ⟨by rfl, rfl⟩) ?_
       simp only [Act.put, List.setIfInBounds_toArray, List.set_cons_zero, List.set_cons_succ])
    | (refine SeqS.take2 (v := .agg (wrC r a n c e).toArray) (by first | assumption | trivial) (by kernel_rfl) (by decide +kernel) (by decide +kernel) (yields_blk (by rfl) 30 (.tmp 4) rfl rfl (fun w' h => h) (rowWr)) ?_
       simp only [Act.put, List.setIfInBounds_toArray, List.set_cons_zero, List.set_cons_succ])
    | (refine SeqS.take2 (v := ?_) (by first | assumption | trivial) (by kernel_rfl) (by decide +kernel) (by decide +kernel) (Or.inl ⟨by rfl, ?_⟩) ?_
       rotate_left
       focus
         intro w' hb'
         go_simp
         with_reducible rfl
       simp only [Act.put, List.setIfInBounds_toArray, List.set_cons_zero, List.set_cons_succ])
    | (refine SeqS.take2 (v := undef) (by first | assumption | trivial) (by kernel_rfl) (by decide +kernel) (by decide +kernel) (Or.inr ⟨by rfl, rfl⟩) ?_
       simp only [Act.put, List.setIfInBounds_toArray, List.set_cons_zero, List.set_cons_succ])
    | (refine SeqS.take3 (v := .agg (wrC r a n c e).toArray) (by first | assumption | trivial) (by kernel_rfl) (by decide +kernel) (by decide +kernel) (yields_blk (by rfl) 30 (.tmp 4) rfl rfl (fun w' h => h) (rowWr)) ?_
       simp only [Act.put, List.setIfInBounds_toArray, List.set_cons_zero, List.set_cons_succ])
    | (refine SeqS.take3 (v := ?_) (by first | assumption | trivial) (by kernel_rfl) (by decide +kernel) (by decide +kernel) (Or.inl ⟨by rfl, ?_⟩) ?_
       rotate_left
       focus
         intro w' hb'
         go_simp
         with_reducible rfl
       simp only [Act.put, List.setIfInBounds_toArray, List.set_cons_zero, List.set_cons_succ])
    | (refine SeqS.take3 (v := undef) (by first | assumption | trivial) (by kernel_rfl) (by decide +kernel) (by decide +kernel) (Or.inr ⟨by rfl, rfl⟩) ?_
       simp only [Act.put, List.setIfInBounds_toArray, List.set_cons_zero, List.set_cons_succ]))
  refine SeqS.alone (by decide +kernel) (by rfl) (fun K hK => ?_)
  go_simp
  refine (rwBytes_any r a (some ⟨w.heap.size + 1, 4, none⟩) n c 32 32 e xs o.id w4.drew I4d J4d (by omega)).mono ?_
  rintro q w5 ⟨a', n', c', rfl, I5, st, b5⟩
  have hr5 := hr4d.keep b5 hr4d.lt
  have S5 := S4.keep b5 S4.lt
  have FIN := fun w9 hg9 => fin10 (w9 := w9) WP hR hI hA hB hr.lt R4d g4 m4d st I5 b5 hg9
  have FINH := Lib.hid FIN
  clear FIN I5 st b5 hr4d R4d g4 m4d I4d RV GV hx ho hr hB
  go_simp
  refine hK _ _ S5 ?_
  clear hK K
  refine SeqS.alone (by decide +kernel) (by rfl) (fun K hK => ?_)
  obtain ⟨E, hE⟩ : ∃ E, (wrStep r xs e o.id).2 = E := ⟨_, rfl⟩
  rw [hE]
  refine wp_store_part (cs := wrC r a' n' c' E) 30 (.tmp 6) (.tmp 42) rfl rfl rfl hr5 rowWr (by simp [wrC]) (by simp [wrC, Value.oneCell']) (fun w9 hR9' hg9 => ?_)
  have hR9 := hR9'.cast (overV_all _ _ (by rfl))
  have S9 : Blk w9 w.heap.size 30 (wrC r a n c e) := S5.grown hg9 (by intro h; injection h with h; omega)
  refine hK _ _ S9 ?_
  clear hK K
  refine SeqS.done (by decide +kernel) ?_
  go_wp2_with fail
  (try simp only [Exit.inBlock, Exit.then])
  refine bodyPost_ret (results_blk rfl rfl hR9 rowWr) rfl ?_
  exact ⟨F4, a', n', c', by rw [← hE]; rfl, FINH.out w9 hg9⟩

set_option maxRecDepth 100000 in
set_option maxHeartbeats 1000000 in
theorem step10_hint (WP : WriterProg) (F : Nat → Prop) (g : Nat) (r : Int) (xs : List Int) (a : Option Addr) (n c : Nat) (e : Int) (o : OpV) (w : World) (H : Met WP F g r xs a n c e o w) (hk : o.k = 3) : Steps10 WP F g r xs a n c e o w := by
  unfold Steps10
  rw [show wrOp r xs e o = wrStep r xs e (o.id.take 16) by unfold wrOp; rw [if_neg (by omega), if_neg (by omega), if_neg (by omega), if_pos hk]]
  obtain ⟨hG, hR, hI, hA, hO, hb, hl, hs⟩ := H
  have hol := OpV.len hO.il
  have hIr : IsRow Try.prog 37 o.cells.length := by rw [hol]; exact rowOp
  have h0 : o.cells[0]? = some (.int .i64 3) := by rw [o.at0, hk]
  have hid := fun i hi => OpV.at_id hO.il i hi
  have hone := Lib.hid (o.one)
  have hlx := hI.len
  have hwt : o.wt = o.bn + 32 * o.ln := rfl
  have hil : (o.id.take 16).length = 16 := by rw [List.length_take, hO.il]; decide
  have hir : ∀ y ∈ o.id.take 16, 0 ≤ y ∧ y < 256 := fun y hy => hO.ir y (List.mem_of_mem_take hy)
  have hid' : ∀ i, i < 16 → (o.id.take 16)[i]? = some (o.id.getD i 0) := fun i hi => by
    rw [List.getElem?_take_of_lt hi, List.getD_eq_getElem?_getD, List.getElem?_eq_getElem (by rw [hO.il]; omega)]; rfl
  obtain ⟨C, hC⟩ : ∃ C, o.cells = C := ⟨_, rfl⟩
  rw [hC] at hol hIr hone h0 hid ⊢
  obtain ⟨Z, hZ⟩ : ∃ Z, o.id.take 16 = Z := ⟨_, rfl⟩
  rw [hZ] at hil hir hid' ⊢
  have JOF : ∀ w', Blk w' (w.heap.size + 1) 37 C → Ints .u8 w' (some ⟨w.heap.size + 1, 4, none⟩) 16 32 Z := fun w' h => ⟨hil, by decide, .inr ⟨_, _, rfl, fun i hi => ((h.cell (4 + i)).trans (hid i (by omega))).trans (by rw [List.getD_eq_getElem?_getD (l := Z), hid' i hi]; rfl)⟩⟩
  have hIrow : IsRow Try.prog 65 (Z.map (Value.int .u8)).length := by rw [List.length_map, hil]; exact rowHint9
  have hsA := fun w' => slice_to10 (P := Try.prog) (g := w.heap.size + 1) (off := 4) Try.underlying34 sizeU8s 16 (by decide) w'
  rw [show ((16 : Nat) : Int) = 16 from rfl] at hsA
  have hat := fun cap v => array_at10 (P := Try.prog) Try.underlying65 (some ⟨w.heap.size + 1, 4, none⟩) 16 cap (by decide) v
  obtain ⟨L, hL⟩ : ∃ L, Z.map (Value.int .u8) = L := ⟨_, rfl⟩
  have hRG : ∀ w', Blk w' (w.heap.size + 1) 37 C → w'.rangeAt (w.heap.size + 1) 4 L := fun w' h => h.range 4 L (fun j v hj => by
    rw [← hL, List.getElem?_map] at hj
    have hj' : j < 16 := by
      by_cases h : j < 16
      · exact h
      · rw [List.getElem?_eq_none (by rw [hil]; omega)] at hj
        cases hj
    rw [hid j (by omega)]
    rw [hid' j hj'] at hj
    exact hj)
  rw [hL] at hIrow
  go_enter Try.func10, Try.ntmps10
  go_wp2_with fail
  obtain ⟨V, hV⟩ : ∃ V, (((w.alloc (.cells #[.int .i64 r, .slice a n c, .int .i64 e] 30)).alloc (.cells C.toArray 37)).alloc (.cells #[.int .i64 0, .slice none 0 0, .int .i64 0] 30)) = V := ⟨_, rfl⟩
  have hx : Blk V w.heap.size 30 (wrC r a n c e) := by rw [← hV]; exact ((Blk.new w _ (wrC r a n c e)).alloc _).alloc _
  have ho : Blk V (w.heap.size + 1) 37 C := by rw [← hV]; exact (Blk.new1 w _ _ C).alloc _
  have hr : Blk V (w.heap.size + 2) 30 (wrC 0 none 0 0 0) := by
    rw [← hV]
    have h := Blk.new ((w.alloc (.cells #[.int .i64 r, .slice a n c, .int .i64 e] 30)).alloc (.cells C.toArray 37)) 30 (wrC 0 none 0 0 0)
    rw [size2] at h
    exact h
  have hB : Below w.heap.size w V := by rw [← hV]; exact below3 w _ _ _
  rw [hV]
  clear hV
  have RV := WP.stay hR hB
  have GV := WP.gl_keep hG (hB.mono (WP.gl_le hG))
  have hFl := WP.lt hR
  have hc0 : C[0]'(by omega) = .int .i64 3 := (List.getElem?_eq_some_iff.1 h0).2
  simp only [hc0]
  go_simp
  have hrg := hRG V ho
  have cid := WP.hint F g r xs e Z V GV RV hil hir (by omega)
  rw [hL] at cid
  go_wp2_with ((with_reducible refine wpList_load_part rfl 65 (.tmp 48) rfl ?_ L hrg hIrow ?_); rfl)
  refine cid.mono ?_
  clear cid hrg
  rintro q w4 ⟨F4, rfl, R4, g4, m4⟩
  have hx4 : Blk w4 w.heap.size 30 (wrC r a n c e) := (m4.2 _ hx.lt (fun h => by have := hFl _ h; omega)).trans hx
  have ho4 : Blk w4 (w.heap.size + 1) 37 C := (m4.2 _ ho.lt (fun h => by have := hFl _ h; omega)).trans ho
  have hr4 : Blk w4 (w.heap.size + 2) 30 (wrC 0 none 0 0 0) := (m4.2 _ hr.lt (fun h => by have := hFl _ h; omega)).trans hr
  have I4 := ints_still (hI.keep hB) m4 hA
  have J4 := JOF w4 ho4
  go_wp2_with fail
  have S4 : Blk w4.drew w.heap.size 30 (wrC r a n c e) := hx4
  have R4d : WP.Wr F4 w4.drew g r _ _ := WP.stay R4 (Below.drew (Below.refl _ _))
  have m4d : Moved F V w4.drew := ⟨Below.drew m4.1, m4.2⟩
  have I4d : Ints .u8 w4.drew a n c xs := I4
  have J4d : Ints .u8 w4.drew _ _ _ _ := J4
  have hr4d : Blk w4.drew (w.heap.size + 2) 30 (wrC 0 none 0 0 0) := hr4
  clear R4 m4 I4 J4 hr4 hx4 ho4
  refine region_seqS (fun w' => Blk w' w.heap.size 30 (wrC r a n c e)) (by kernel_rfl) S4 ?_
  simp only [pairs, Nat.reduceAdd]
  repeat (first
    | (refine SeqS.take (v := .agg (wrC r a n c e).toArray) (by first | assumption | trivial) (by kernel_rfl) (by decide +kernel) (by decide +kernel) (yields_blk (by rfl) 30 (.tmp 4) rfl rfl (fun w' h => h) (rowWr)) ?_
       simp only [Act.put, List.setIfInBounds_toArray, List.set_cons_zero, List.set_cons_succ])
    | (refine SeqS.take (v := ?_) (by first | assumption | trivial) (by kernel_rfl) (by decide +kernel) (by decide +kernel) (Or.inl ⟨by rfl, ?_⟩) ?_
       rotate_left
       focus
         intro w' hb'
         go_simp
         with_reducible rfl
       simp only [Act.put, List.setIfInBounds_toArray, List.set_cons_zero, List.set_cons_succ])
    | (refine SeqS.take (v := undef) (by first | assumption | trivial) (by kernel_rfl) (by decide +kernel) (by decide +kernel) (Or.inr ⟨by rfl, rfl⟩) ?_
       simp only [Act.put, List.setIfInBounds_toArray, List.set_cons_zero, List.set_cons_succ])
    | (refine SeqS.take1 (v := .agg (wrC r a n c e).toArray) (by first | assumption | trivial) (by kernel_rfl) (by decide +kernel) (by decide +kernel) (yields_blk (by rfl) 30 (.tmp 4) rfl rfl (fun w' h => h) (rowWr)) ?_
       simp only [Act.put, List.setIfInBounds_toArray, List.set_cons_zero, List.set_cons_succ])
    | (refine SeqS.take1 (v := ?_) (by first | assumption | trivial) (by kernel_rfl) (by decide +kernel) (by decide +kernel) (Or.inl ⟨by rfl, ?_⟩) ?_
       rotate_left
       focus
         intro w' hb'
         go_simp
         with_reducible rfl
       simp only [Act.put, List.setIfInBounds_toArray, List.set_cons_zero, List.set_cons_succ])
    | (refine SeqS.take1 (v := undef) (by first | assumption | trivial) (by kernel_rfl) (by decide +kernel) (by decide +kernel) (Or.inr ⟨by rfl, rfl⟩) ?_
       simp only [Act.put, List.setIfInBounds_toArray, List.set_cons_zero, List.set_cons_succ])
    | (refine SeqS.take2 (v := .agg (wrC r a n c e).toArray) (by first | assumption | trivial) (by kernel_rfl) (by decide +kernel) (by decide +kernel) (yields_blk (by rfl) 30 (.tmp 4) rfl rfl (fun w' h => h) (rowWr)) ?_
       simp only [Act.put, List.setIfInBounds_toArray, List.set_cons_zero, List.set_cons_succ])
    | (refine SeqS.take2 (v := ?_) (by first | assumption | trivial) (by kernel_rfl) (by decide +kernel) (by decide +kernel) (Or.inl ⟨by rfl, ?_⟩) ?_
       rotate_left
       focus
         intro w' hb'
         go_simp
         with_reducible rfl
       simp only [Act.put, List.setIfInBounds_toArray, List.set_cons_zero, List.set_cons_succ])
    | (refine SeqS.take2 (v := undef) (by first | assumption | trivial) (by kernel_rfl) (by decide +kernel) (by decide +kernel) (Or.inr ⟨by rfl, rfl⟩) ?_
       simp only [Act.put, List.setIfInBounds_toArray, List.set_cons_zero, List.set_cons_succ])
    | (refine SeqS.take3 (v := .agg (wrC r a n c e).toArray) (by first | assumption | trivial) (by kernel_rfl) (by decide +kernel) (by decide +kernel) (yields_blk (by rfl) 30 (.tmp 4) rfl rfl (fun w' h => h) (rowWr)) ?_
       simp only [Act.put, List.setIfInBounds_toArray, List.set_cons_zero, List.set_cons_succ])
    | (refine SeqS.take3 (v := ?_) (by first | assumption | trivial) (by kernel_rfl) (by decide +kernel) (by decide +kernel) (Or.inl ⟨by rfl, ?_⟩) ?_
       rotate_left
       focus
         intro w' hb'
         go_simp
         with_reducible rfl
       simp only [Act.put, List.setIfInBounds_toArray, List.set_cons_zero, List.set_cons_succ])
    | (refine SeqS.take3 (v := undef) (by first | assumption | trivial) (by kernel_rfl) (by decide +kernel) (by decide +kernel) (Or.inr ⟨by rfl, rfl⟩) ?_
       simp only [Act.put, List.setIfInBounds_toArray, List.set_cons_zero, List.set_cons_succ]))
  refine SeqS.alone (by decide +kernel) (by rfl) (fun K hK => ?_)
  go_simp
  refine (rwBytes_any r a (some ⟨w.heap.size + 1, 4, none⟩) n c 16 32 e xs Z w4.drew I4d J4d (by omega)).mono ?_
  rintro q w5 ⟨a', n', c', rfl, I5, st, b5⟩
  have hr5 := hr4d.keep b5 hr4d.lt
  have S5 := S4.keep b5 S4.lt
  have FIN := fun w9 hg9 => fin10 (w9 := w9) WP hR hI hA hB hr.lt R4d g4 m4d st I5 b5 hg9
  have FINH := Lib.hid FIN
  clear FIN I5 st b5 hr4d R4d g4 m4d I4d RV GV hx ho hr hB
  go_simp
  refine hK _ _ S5 ?_
  clear hK K
  refine SeqS.alone (by decide +kernel) (by rfl) (fun K hK => ?_)
  obtain ⟨E, hE⟩ : ∃ E, (wrStep r xs e Z).2 = E := ⟨_, rfl⟩
  rw [hE]
  refine wp_store_part (cs := wrC r a' n' c' E) 30 (.tmp 6) (.tmp 54) rfl rfl rfl hr5 rowWr (by simp [wrC]) (by simp [wrC, Value.oneCell']) (fun w9 hR9' hg9 => ?_)
  have hR9 := hR9'.cast (overV_all _ _ (by rfl))
  have S9 : Blk w9 w.heap.size 30 (wrC r a n c e) := S5.grown hg9 (by intro h; injection h with h; omega)
  refine hK _ _ S9 ?_
  clear hK K
  refine SeqS.done (by decide +kernel) ?_
  go_wp2_with fail
  (try simp only [Exit.inBlock, Exit.then])
  refine bodyPost_ret (results_blk rfl rfl hR9 rowWr) rfl ?_
  exact ⟨F4, a', n', c', by rw [← hE]; rfl, FINH.out w9 hg9⟩

theorem step10_any (WP : WriterProg) (F : Nat → Prop) (g : Nat) (r : Int) (xs : List Int) (a : Option Addr) (n c : Nat) (e : Int) (o : OpV) (w : World) (H : Met WP F g r xs a n c e o w) : Steps10 WP F g r xs a n c e o w := by
  by_cases k0 : o.k = 0
  · exact step10_num WP F g r xs a n c e o w H k0
  by_cases k1 : o.k = 1
  · exact step10_bytes WP F g r xs a n c e o w H k1
  by_cases k2 : o.k = 2
  · exact step10_id WP F g r xs a n c e o w H k2
  by_cases k3 : o.k = 3
  · exact step10_hint WP F g r xs a n c e o w H k3
  by_cases k4 : o.k = 4
  · exact step10_ids WP F g r xs a n c e o w H k4
  exact step10_fail WP F g r xs a n c e o w H k0 k1 k2 k3 k4
end Go.Proofs.Ytlbhpicebefpnaa

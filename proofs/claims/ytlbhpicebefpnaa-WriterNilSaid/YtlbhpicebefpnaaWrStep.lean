/-
  One call both ways, as the law WriterWrites makes it ('step'), out of what the program's writer comes to: they tell the same. New memory and the writer's own alone are written. Conditions: the bytes in all are at most eighty million; what is handed in does not lie in the writer's own memory.
-/
import Derived.Test.YtlbhpicebefpnaaWrProg
namespace Go.Proofs.Ytlbhpicebefpnaa
open Go.RowKit

/-- Bytes and fault behind a call. -/
def wrOp (r : Int) (xs : List Int) (e : Int) (o : OpV) : List Int × Int :=
  if o.k = 0 then wrNum r xs e o.N o.A else if o.k = 1 then wrStep r xs e o.bs else if o.k = 2 then wrStep r xs e o.id else if o.k = 3 then wrStep r xs e (o.id.take 16) else if o.k = 4 then wrStep r xs e o.ls else (xs, badOf e o.A)

def Steps10 (WP : WriterProg) (F : Nat → Prop) (g : Nat) (r : Int) (xs : List Int) (a : Option Addr) (n c : Nat) (e : Int) (o : OpV) (w : World) : Prop :=
  Calls Try.prog 10 #[.pointer (some ⟨g, 0, none⟩), .agg #[.int .i64 r, .slice a n c, .int .i64 e], .agg o.cells.toArray] w fun q w' => ∃ F' a' n' c', q = .returned (.agg #[.int .i64 r, .slice a' n' c', .int .i64 (wrOp r xs e o).2]) ∧
    WP.Wr F' w' g r (wrOp r xs e o).1 (wrOp r xs e o).2 ∧ Ints .u8 w' a' n' c' (wrOp r xs e o).1 ∧ (∀ x, a' = some x → 0 < n' → ¬ F' x.block) ∧ Grows F F' w ∧ Moved F w w'

theorem ints_still {F : Nat → Prop} {w w' : World} {a : Option Addr} {n cap : Nat} {zs : List Int} (h : Ints .u8 w a n cap zs) (hm : Moved F w w') (hb : ∀ x, a = some x → 0 < n → ¬ F x.block) : Ints .u8 w' a n cap zs := by
  refine ⟨h.1, h.2.1, ?_⟩
  rcases h.2.2 with h0 | ⟨b, off, ha, hc⟩
  · exact .inl h0
  · by_cases h0 : n = 0
    · exact .inl h0
    refine .inr ⟨b, off, ha, fun i hi => ?_⟩
    have he : w'.heap[b]? = w.heap[b]? := hm.2 b (World.block_lt_of_cell? w _ (hc i hi)) (hb _ ha (by omega))
    have h1 := hc i hi
    unfold World.cell? at h1 ⊢
    rw [he]
    exact h1
theorem ids_still {F : Nat → Prop} {w w' : World} {a : Option Addr} {n cap : Nat} {zs : List Int} (h : IdsAt w a n cap zs) (hm : Moved F w w') (hb : ∀ x, a = some x → 0 < n → ¬ F x.block) : IdsAt w' a n cap zs := by
  refine ⟨h.1, h.2.1, ?_⟩
  rcases h.2.2 with h0 | ⟨b, off, ha, hc⟩
  · exact .inl h0
  · by_cases h0 : n = 0
    · exact .inl h0
    refine .inr ⟨b, off, ha, fun i hi => ?_⟩
    have he : w'.heap[b]? = w.heap[b]? := hm.2 b (World.block_lt_of_cell? w _ (hc i hi)) (hb _ ha (by omega))
    have h1 := hc i hi
    unfold World.cell? at h1 ⊢
    rw [he]
    exact h1

/-- What is known behind the call's last store. -/
theorem fin10 (WP : WriterProg) {F F4 : Nat → Prop} {g n n' c c' : Nat} {r e E : Int} {xs X : List Int} {a a' : Option Addr} {w V w4 w5 w9 : World} (hR : WP.Wr F w g r xs e) (hI : Ints .u8 w a n c xs) (hA : ∀ x, a = some x → 0 < n → ¬ F x.block)
    (hB : Below w.heap.size w V) (hV : w.heap.size + 2 < V.heap.size) (R4 : WP.Wr F4 w4 g r X E) (g4 : Grows F F4 V) (m4 : Moved F V w4) (st : Stays w4 a a' n n') (I5 : Ints .u8 w5 a' n' c' X) (b5 : Below w4.heap.size w4 w5) (hg9 : w5.grownBy w9 (some (w.heap.size + 2))) :
    WP.Wr F4 w9 g r X E ∧ Ints .u8 w9 a' n' c' X ∧ (∀ x, a' = some x → 0 < n' → ¬ F4 x.block) ∧ Grows F F4 w ∧ Moved F w w9 := by
  have hs := m4.size
  have nF : ∀ b, b < V.heap.size → F4 b → F b := fun b hb h => by
    rcases g4 b h with h | h
    · exact h
    · omega
  have nF2 : ¬ F4 (w.heap.size + 2) := fun h => by have h1 := nF _ hV h; have := WP.lt hR _ h1; omega
  have hin := hI.isIn.2
  have hm5 : Moved F w w5 := ⟨(hB.mono (Nat.zero_le _)).trans (m4.1.trans (b5.mono (Nat.zero_le _))), fun b hb hf => (b5.block b (by have := hB.size; omega)).trans ((m4.2 b (by have := hB.size; omega) hf).trans (hB.block b hb))⟩
  refine ⟨WP.keep (WP.stay R4 b5) (fun b hb => hg9.block b (by have := WP.lt R4 b hb; have := b5.size; omega) (fun h => by injection h with h; subst h; exact nF2 hb)) hg9.size, I5.grown hg9 ?_, ?_, ?_, ?_⟩
  · intro x hx h0 h
    rcases st with ⟨h1, h2⟩ | h3
    · rw [h1] at hx; rw [h2] at h0
      have := hin x hx h0
      omega
    · have := h3 x hx
      omega
  · intro x hx h0 hf
    rcases st with ⟨h1, h2⟩ | h3
    · rw [h1] at hx; rw [h2] at h0
      have := hin x hx h0
      exact hA x hx h0 (nF _ (by omega) hf)
    · have h4 := h3 x hx
      have h5 := WP.lt R4 _ hf
      omega
  · intro b hb
    rcases g4 b hb with h | h
    · exact .inl h
    · exact .inr (by omega)
  · exact ⟨hm5.1.trans ⟨hg9.os, hg9.tape, hg9.output, hg9.size, fun i hi => absurd hi (Nat.not_lt_zero i)⟩, fun b hb hf => (hg9.block b (by have := hm5.size; omega) (fun h => by injection h with h; omega)).trans (hm5.2 b hb hf)⟩

structure Met (WP : WriterProg) (F : Nat → Prop) (g : Nat) (r : Int) (xs : List Int) (a : Option Addr) (n c : Nat) (e : Int) (o : OpV) (w : World) : Prop where
  hG : WP.Gl w
  hR : WP.Wr F w g r xs e
  hI : Ints .u8 w a n c xs
  hA : ∀ x, a = some x → 0 < n → ¬ F x.block
  hO : o.Ok w
  hb : ∀ x, o.ba = some x → 0 < o.bn → ¬ F x.block
  hl : ∀ x, o.la = some x → 0 < o.ln → ¬ F x.block
  hs : n + o.wt ≤ 80000000

set_option maxRecDepth 100000 in
set_option maxHeartbeats 1000000 in
theorem step10_num (WP : WriterProg) (F : Nat → Prop) (g : Nat) (r : Int) (xs : List Int) (a : Option Addr) (n c : Nat) (e : Int) (o : OpV) (w : World) (H : Met WP F g r xs a n c e o w) (hk : o.k = 0) : Steps10 WP F g r xs a n c e o w := by
  unfold Steps10
  rw [show wrOp r xs e o = wrNum r xs e o.N o.A by unfold wrOp; rw [if_pos hk]]
  obtain ⟨hG, hR, hI, hA, hO, hb, hl, hs⟩ := H
  have hol := OpV.len hO.il
  have hIr : IsRow Try.prog 37 o.cells.length := by rw [hol]; exact rowOp
  have h0 : o.cells[0]? = some (.int .i64 0) := by rw [o.at0, hk]
  have h1 := o.at1
  have h2 := o.at2
  have hone := Lib.hid (o.one)
  have hlx := hI.len
  have hwt : o.wt = o.bn + 32 * o.ln := rfl
  obtain ⟨C, hC⟩ : ∃ C, o.cells = C := ⟨_, rfl⟩
  rw [hC] at hol hIr hone h0 h1 h2 ⊢
  have hc0 : C[0]'(by omega) = .int .i64 0 := (List.getElem?_eq_some_iff.1 h0).2
  have hc1 : C[1]'(by omega) = .int .i64 o.A := (List.getElem?_eq_some_iff.1 h1).2
  have hc2 : C[2]'(by omega) = .int .u64 o.N := (List.getElem?_eq_some_iff.1 h2).2
  go_enter Try.func10, Try.ntmps10
  go_wp2_with fail
  obtain ⟨V, hV⟩ : ∃ V, (((w.alloc (.cells #[.int .i64 r, .slice a n c, .int .i64 e] 30)).alloc (.cells C.toArray 37)).alloc (.cells #[.int .i64 0, .slice none 0 0, .int .i64 0] 30)) = V := ⟨_, rfl⟩
  have hx : Blk V w.heap.size 30 (wrC r a n c e) := by rw [← hV]; exact ((Blk.new w _ (wrC r a n c e)).alloc _).alloc _
  have ho : Blk V (w.heap.size + 1) 37 C := by rw [← hV]; exact (Blk.new1 w _ _ C).alloc _
  have hr : Blk V (w.heap.size + 2) 30 (wrC 0 none 0 0 0) := by
    rw [← hV]
    have h := Blk.new ((w.alloc (.cells #[.int .i64 r, .slice a n c, .int .i64 e] 30)).alloc (.cells C.toArray 37)) 30 (wrC 0 none 0 0 0)
    rw [size2] at h
    exact h
  have hB : Below w.heap.size w V := by rw [← hV]; exact below3 w _ _ _
  rw [hV]
  clear hV
  have RV := WP.stay hR hB
  have GV := WP.gl_keep hG (hB.mono (WP.gl_le hG))
  have hFl := WP.lt hR
  refine (WP.num F g r xs e o.N o.A V GV RV (by omega) hO.hN.1 hO.hN.2 hO.hA.1 hO.hA.2).mono ?_
  rintro q w4 ⟨F4, rfl, R4, g4, m4⟩
  have hx4 : Blk w4 w.heap.size 30 (wrC r a n c e) := (m4.2 _ hx.lt (fun h => by have := hFl _ h; omega)).trans hx
  have ho4 : Blk w4 (w.heap.size + 1) 37 C := (m4.2 _ ho.lt (fun h => by have := hFl _ h; omega)).trans ho
  have hr4 : Blk w4 (w.heap.size + 2) 30 (wrC 0 none 0 0 0) := (m4.2 _ hr.lt (fun h => by have := hFl _ h; omega)).trans hr
  have I4 := ints_still (hI.keep hB) m4 hA
  have d1 : w4.cell? ⟨w.heap.size + 1, 1, none⟩ = some (.int .i64 o.A) := (ho4.cell 1).trans h1
  have d2 : w4.cell? ⟨w.heap.size + 1, 2, none⟩ = some (.int .u64 o.N) := (ho4.cell 2).trans h2
  go_wp2_with ((refine wpList_load_blk rfl 30 (.tmp 4) rfl ?_ hx4 rowWr rfl ?_); rfl)
  refine (rwNum_any r a n c e o.N o.A xs w4 I4 (by omega) hO.hN.2).mono ?_
  rintro q w5 ⟨a', n', c', rfl, I5, st, b5⟩
  have hr5 := hr4.keep b5 hr4.lt
  have FIN := fun w9 hg9 => fin10 (w9 := w9) WP hR hI hA hB hr.lt R4 g4 m4 st I5 b5 hg9
  have FINH := Lib.hid FIN
  clear FIN I5 st b5 hr4 ho4 hx4 R4 g4 m4 I4 RV GV hx ho hr hB
  obtain ⟨E, hE⟩ : ∃ E, (wrNum r xs e o.N o.A).2 = E := ⟨_, rfl⟩
  rw [hE]
  go_wp2_with (first
    | (refine wpList_store_part (cur := wrC 0 none 0 0 0) (cs := wrC r a' n' c' E) rfl 30 (.tmp 6) (.tmp 22) rfl rfl rfl hr5 rowWr (by simp [wrC]) (by simp [wrC, Value.oneCell']) ?_; intro w9 hR9 hg9)
    | (refine wpList_store_part (cur := wrC 0 none 0 0 0) (cs := wrC r a' n' c' E) rfl 30 (.tmp 6) (.tmp 32) rfl rfl rfl hr5 rowWr (by simp [wrC]) (by simp [wrC, Value.oneCell']) ?_; intro w9 hR9 hg9)
    | (refine wpList_store_part (cur := wrC 0 none 0 0 0) (cs := wrC r a' n' c' E) rfl 30 (.tmp 6) (.tmp 64) rfl rfl rfl hr5 rowWr (by simp [wrC]) (by simp [wrC, Value.oneCell']) ?_; intro w9 hR9 hg9)
    | (refine wpList_store_part (cur := wrC 0 none 0 0 0) (cs := wrC r a' n' c' E) rfl 30 (.tmp 6) (.tmp 72) rfl rfl rfl hr5 rowWr (by simp [wrC]) (by simp [wrC, Value.oneCell']) ?_; intro w9 hR9 hg9))
  have hR9 := hR9.cast (overV_all _ _ (by rfl))
  (try simp only [Exit.inBlock, Exit.then])
  refine bodyPost_ret (results_blk rfl rfl hR9 rowWr) rfl ?_
  exact ⟨F4, a', n', c', by rw [← hE]; rfl, FINH.out w9 hg9⟩
-- KINDS
set_option maxRecDepth 100000 in
set_option maxHeartbeats 1000000 in
theorem step10_bytes (WP : WriterProg) (F : Nat → Prop) (g : Nat) (r : Int) (xs : List Int) (a : Option Addr) (n c : Nat) (e : Int) (o : OpV) (w : World) (H : Met WP F g r xs a n c e o w) (hk : o.k = 1) : Steps10 WP F g r xs a n c e o w := by
  unfold Steps10
  rw [show wrOp r xs e o = wrStep r xs e o.bs by unfold wrOp; rw [if_neg (by omega), if_pos hk]]
  obtain ⟨hG, hR, hI, hA, hO, hb, hl, hs⟩ := H
  have hol := OpV.len hO.il
  have hIr : IsRow Try.prog 37 o.cells.length := by rw [hol]; exact rowOp
  have h0 : o.cells[0]? = some (.int .i64 1) := by rw [o.at0, hk]
  have h3 := o.at3
  have hone := Lib.hid (o.one)
  have hlx := hI.len
  have hwt : o.wt = o.bn + 32 * o.ln := rfl
  obtain ⟨C, hC⟩ : ∃ C, o.cells = C := ⟨_, rfl⟩
  rw [hC] at hol hIr hone h0 h3 ⊢
  have hc0 : C[0]'(by omega) = .int .i64 1 := (List.getElem?_eq_some_iff.1 h0).2
  have hc3 : C[3]'(by omega) = .slice o.ba o.bn o.bc := (List.getElem?_eq_some_iff.1 h3).2
  go_enter Try.func10, Try.ntmps10
  go_wp2_with fail
  obtain ⟨V, hV⟩ : ∃ V, (((w.alloc (.cells #[.int .i64 r, .slice a n c, .int .i64 e] 30)).alloc (.cells C.toArray 37)).alloc (.cells #[.int .i64 0, .slice none 0 0, .int .i64 0] 30)) = V := ⟨_, rfl⟩
  have hx : Blk V w.heap.size 30 (wrC r a n c e) := by rw [← hV]; exact ((Blk.new w _ (wrC r a n c e)).alloc _).alloc _
  have ho : Blk V (w.heap.size + 1) 37 C := by rw [← hV]; exact (Blk.new1 w _ _ C).alloc _
  have hr : Blk V (w.heap.size + 2) 30 (wrC 0 none 0 0 0) := by
    rw [← hV]
    have h := Blk.new ((w.alloc (.cells #[.int .i64 r, .slice a n c, .int .i64 e] 30)).alloc (.cells C.toArray 37)) 30 (wrC 0 none 0 0 0)
    rw [size2] at h
    exact h
  have hB : Below w.heap.size w V := by rw [← hV]; exact below3 w _ _ _
  rw [hV]
  clear hV
  have RV := WP.stay hR hB
  have GV := WP.gl_keep hG (hB.mono (WP.gl_le hG))
  have hFl := WP.lt hR
  refine (WP.bytes F g r xs e o.ba o.bn o.bc o.bs V GV RV (hO.b.keep hB) hO.br hb (by omega)).mono ?_
  rintro q w4 ⟨F4, rfl, R4, g4, m4⟩
  have hx4 : Blk w4 w.heap.size 30 (wrC r a n c e) := (m4.2 _ hx.lt (fun h => by have := hFl _ h; omega)).trans hx
  have ho4 : Blk w4 (w.heap.size + 1) 37 C := (m4.2 _ ho.lt (fun h => by have := hFl _ h; omega)).trans ho
  have hr4 : Blk w4 (w.heap.size + 2) 30 (wrC 0 none 0 0 0) := (m4.2 _ hr.lt (fun h => by have := hFl _ h; omega)).trans hr
  have I4 := ints_still (hI.keep hB) m4 hA
  have d3 : w4.cell? ⟨w.heap.size + 1, 3, none⟩ = some (.slice o.ba o.bn o.bc) := (ho4.cell 3).trans h3
  go_wp2_with ((refine wpList_load_blk rfl 30 (.tmp 4) rfl ?_ hx4 rowWr rfl ?_); rfl)
  refine (rwBytes_any r a o.ba n c o.bn o.bc e xs o.bs w4 I4 (ints_still (hO.b.keep hB) m4 hb) (by omega)).mono ?_
  rintro q w5 ⟨a', n', c', rfl, I5, st, b5⟩
  have hr5 := hr4.keep b5 hr4.lt
  have FIN := fun w9 hg9 => fin10 (w9 := w9) WP hR hI hA hB hr.lt R4 g4 m4 st I5 b5 hg9
  have FINH := Lib.hid FIN
  clear FIN I5 st b5 hr4 ho4 hx4 R4 g4 m4 I4 RV GV hx ho hr hB
  obtain ⟨E, hE⟩ : ∃ E, (wrStep r xs e o.bs).2 = E := ⟨_, rfl⟩
  rw [hE]
  go_wp2_with (first
    | (refine wpList_store_part (cur := wrC 0 none 0 0 0) (cs := wrC r a' n' c' E) rfl 30 (.tmp 6) (.tmp 22) rfl rfl rfl hr5 rowWr (by simp [wrC]) (by simp [wrC, Value.oneCell']) ?_; intro w9 hR9 hg9)
    | (refine wpList_store_part (cur := wrC 0 none 0 0 0) (cs := wrC r a' n' c' E) rfl 30 (.tmp 6) (.tmp 32) rfl rfl rfl hr5 rowWr (by simp [wrC]) (by simp [wrC, Value.oneCell']) ?_; intro w9 hR9 hg9)
    | (refine wpList_store_part (cur := wrC 0 none 0 0 0) (cs := wrC r a' n' c' E) rfl 30 (.tmp 6) (.tmp 64) rfl rfl rfl hr5 rowWr (by simp [wrC]) (by simp [wrC, Value.oneCell']) ?_; intro w9 hR9 hg9)
    | (refine wpList_store_part (cur := wrC 0 none 0 0 0) (cs := wrC r a' n' c' E) rfl 30 (.tmp 6) (.tmp 72) rfl rfl rfl hr5 rowWr (by simp [wrC]) (by simp [wrC, Value.oneCell']) ?_; intro w9 hR9 hg9))
  have hR9 := hR9.cast (overV_all _ _ (by rfl))
  (try simp only [Exit.inBlock, Exit.then])
  refine bodyPost_ret (results_blk rfl rfl hR9 rowWr) rfl ?_
  exact ⟨F4, a', n', c', by rw [← hE]; rfl, FINH.out w9 hg9⟩
set_option maxRecDepth 100000 in
set_option maxHeartbeats 1000000 in
theorem step10_ids (WP : WriterProg) (F : Nat → Prop) (g : Nat) (r : Int) (xs : List Int) (a : Option Addr) (n c : Nat) (e : Int) (o : OpV) (w : World) (H : Met WP F g r xs a n c e o w) (hk : o.k = 4) : Steps10 WP F g r xs a n c e o w := by
  unfold Steps10
  rw [show wrOp r xs e o = wrStep r xs e o.ls by unfold wrOp; rw [if_neg (by omega), if_neg (by omega), if_neg (by omega), if_neg (by omega), if_pos hk]]
  obtain ⟨hG, hR, hI, hA, hO, hb, hl, hs⟩ := H
  have hol := OpV.len hO.il
  have hIr : IsRow Try.prog 37 o.cells.length := by rw [hol]; exact rowOp
  have h0 : o.cells[0]? = some (.int .i64 4) := by rw [o.at0, hk]
  have h36 := OpV.at36 hO.il
  have hone := Lib.hid (o.one)
  have hlx := hI.len
  have hwt : o.wt = o.bn + 32 * o.ln := rfl
  obtain ⟨C, hC⟩ : ∃ C, o.cells = C := ⟨_, rfl⟩
  rw [hC] at hol hIr hone h0 h36 ⊢
  have hc0 : C[0]'(by omega) = .int .i64 4 := (List.getElem?_eq_some_iff.1 h0).2
  have hc36 : C[36]'(by omega) = .slice o.la o.ln o.lc := (List.getElem?_eq_some_iff.1 h36).2
  go_enter Try.func10, Try.ntmps10
  go_wp2_with fail
  obtain ⟨V, hV⟩ : ∃ V, (((w.alloc (.cells #[.int .i64 r, .slice a n c, .int .i64 e] 30)).alloc (.cells C.toArray 37)).alloc (.cells #[.int .i64 0, .slice none 0 0, .int .i64 0] 30)) = V := ⟨_, rfl⟩
  have hx : Blk V w.heap.size 30 (wrC r a n c e) := by rw [← hV]; exact ((Blk.new w _ (wrC r a n c e)).alloc _).alloc _
  have ho : Blk V (w.heap.size + 1) 37 C := by rw [← hV]; exact (Blk.new1 w _ _ C).alloc _
  have hr : Blk V (w.heap.size + 2) 30 (wrC 0 none 0 0 0) := by
    rw [← hV]
    have h := Blk.new ((w.alloc (.cells #[.int .i64 r, .slice a n c, .int .i64 e] 30)).alloc (.cells C.toArray 37)) 30 (wrC 0 none 0 0 0)
    rw [size2] at h
    exact h
  have hB : Below w.heap.size w V := by rw [← hV]; exact below3 w _ _ _
  rw [hV]
  clear hV
  have RV := WP.stay hR hB
  have GV := WP.gl_keep hG (hB.mono (WP.gl_le hG))
  have hFl := WP.lt hR
  refine (WP.ids F g r xs e o.la o.ln o.lc o.ls V GV RV (hO.l.keep hB) hO.lr hl (by omega)).mono ?_
  rintro q w4 ⟨F4, rfl, R4, g4, m4⟩
  have hx4 : Blk w4 w.heap.size 30 (wrC r a n c e) := (m4.2 _ hx.lt (fun h => by have := hFl _ h; omega)).trans hx
  have ho4 : Blk w4 (w.heap.size + 1) 37 C := (m4.2 _ ho.lt (fun h => by have := hFl _ h; omega)).trans ho
  have hr4 : Blk w4 (w.heap.size + 2) 30 (wrC 0 none 0 0 0) := (m4.2 _ hr.lt (fun h => by have := hFl _ h; omega)).trans hr
  have I4 := ints_still (hI.keep hB) m4 hA
  have d36 : w4.cell? ⟨w.heap.size + 1, 36, none⟩ = some (.slice o.la o.ln o.lc) := (ho4.cell 36).trans h36
  go_wp2_with ((refine wpList_load_blk rfl 30 (.tmp 4) rfl ?_ hx4 rowWr rfl ?_); rfl)
  refine (rwIds_any r a o.la n c o.ln o.lc e xs o.ls w4 I4 (ids_still (hO.l.keep hB) m4 hl) (by omega)).mono ?_
  rintro q w5 ⟨a', n', c', rfl, I5, st, b5⟩
  have hr5 := hr4.keep b5 hr4.lt
  have FIN := fun w9 hg9 => fin10 (w9 := w9) WP hR hI hA hB hr.lt R4 g4 m4 st I5 b5 hg9
  have FINH := Lib.hid FIN
  clear FIN I5 st b5 hr4 ho4 hx4 R4 g4 m4 I4 RV GV hx ho hr hB
  obtain ⟨E, hE⟩ : ∃ E, (wrStep r xs e o.ls).2 = E := ⟨_, rfl⟩
  rw [hE]
  go_wp2_with (first
    | (refine wpList_store_part (cur := wrC 0 none 0 0 0) (cs := wrC r a' n' c' E) rfl 30 (.tmp 6) (.tmp 22) rfl rfl rfl hr5 rowWr (by simp [wrC]) (by simp [wrC, Value.oneCell']) ?_; intro w9 hR9 hg9)
    | (refine wpList_store_part (cur := wrC 0 none 0 0 0) (cs := wrC r a' n' c' E) rfl 30 (.tmp 6) (.tmp 32) rfl rfl rfl hr5 rowWr (by simp [wrC]) (by simp [wrC, Value.oneCell']) ?_; intro w9 hR9 hg9)
    | (refine wpList_store_part (cur := wrC 0 none 0 0 0) (cs := wrC r a' n' c' E) rfl 30 (.tmp 6) (.tmp 64) rfl rfl rfl hr5 rowWr (by simp [wrC]) (by simp [wrC, Value.oneCell']) ?_; intro w9 hR9 hg9)
    | (refine wpList_store_part (cur := wrC 0 none 0 0 0) (cs := wrC r a' n' c' E) rfl 30 (.tmp 6) (.tmp 72) rfl rfl rfl hr5 rowWr (by simp [wrC]) (by simp [wrC, Value.oneCell']) ?_; intro w9 hR9 hg9))
  have hR9 := hR9.cast (overV_all _ _ (by rfl))
  (try simp only [Exit.inBlock, Exit.then])
  refine bodyPost_ret (results_blk rfl rfl hR9 rowWr) rfl ?_
  exact ⟨F4, a', n', c', by rw [← hE]; rfl, FINH.out w9 hg9⟩
theorem rwFail_in (r : Int) (a : Option Addr) (n c : Nat) (e x : Int) (xs : List Int) (w : World) (hI : Ints .u8 w a n c xs) :
    Calls Try.prog 32 #[.agg #[.int .i64 r, .slice a n c, .int .i64 e], .int .i64 x] w fun q w' => ∃ a' n' c', q = .returned (.agg #[.int .i64 r, .slice a' n' c', .int .i64 (badOf e x)]) ∧ Ints .u8 w' a' n' c' xs ∧ Stays w a a' n n' ∧ Below w.heap.size w w' := by
  refine (rwFail_any r a n c e x w).mono ?_
  rintro q w' ⟨rfl, hb⟩
  exact ⟨a, n, c, rfl, hI.keep hb, .inl ⟨rfl, rfl⟩, hb⟩

set_option maxRecDepth 100000 in
set_option maxHeartbeats 1000000 in
theorem step10_fail (WP : WriterProg) (F : Nat → Prop) (g : Nat) (r : Int) (xs : List Int) (a : Option Addr) (n c : Nat) (e : Int) (o : OpV) (w : World) (H : Met WP F g r xs a n c e o w) (k0 : ¬ o.k = 0) (k1 : ¬ o.k = 1) (k2 : ¬ o.k = 2) (k3 : ¬ o.k = 3) (k4 : ¬ o.k = 4) : Steps10 WP F g r xs a n c e o w := by
  unfold Steps10
  rw [show wrOp r xs e o = (xs, badOf e o.A) by unfold wrOp; rw [if_neg k0, if_neg k1, if_neg k2, if_neg k3, if_neg k4]]
  obtain ⟨hG, hR, hI, hA, hO, hb, hl, hs⟩ := H
  have hol := OpV.len hO.il
  have hIr : IsRow Try.prog 37 o.cells.length := by rw [hol]; exact rowOp
  have h0 := o.at0
  have h1 := o.at1
  have hone := Lib.hid (o.one)
  have hlx := hI.len
  have hwt : o.wt = o.bn + 32 * o.ln := rfl
  obtain ⟨C, hC⟩ : ∃ C, o.cells = C := ⟨_, rfl⟩
  rw [hC] at hol hIr hone h0 h1 ⊢
  have hc0 : C[0]'(by omega) = .int .i64 o.k := (List.getElem?_eq_some_iff.1 h0).2
  have hc1 : C[1]'(by omega) = .int .i64 o.A := (List.getElem?_eq_some_iff.1 h1).2
  go_enter Try.func10, Try.ntmps10
  go_wp2_with fail
  obtain ⟨V, hV⟩ : ∃ V, (((w.alloc (.cells #[.int .i64 r, .slice a n c, .int .i64 e] 30)).alloc (.cells C.toArray 37)).alloc (.cells #[.int .i64 0, .slice none 0 0, .int .i64 0] 30)) = V := ⟨_, rfl⟩
  have hx : Blk V w.heap.size 30 (wrC r a n c e) := by rw [← hV]; exact ((Blk.new w _ (wrC r a n c e)).alloc _).alloc _
  have ho : Blk V (w.heap.size + 1) 37 C := by rw [← hV]; exact (Blk.new1 w _ _ C).alloc _
  have hr : Blk V (w.heap.size + 2) 30 (wrC 0 none 0 0 0) := by
    rw [← hV]
    have h := Blk.new ((w.alloc (.cells #[.int .i64 r, .slice a n c, .int .i64 e] 30)).alloc (.cells C.toArray 37)) 30 (wrC 0 none 0 0 0)
    rw [size2] at h
    exact h
  have hB : Below w.heap.size w V := by rw [← hV]; exact below3 w _ _ _
  rw [hV]
  clear hV
  have RV := WP.stay hR hB
  have GV := WP.gl_keep hG (hB.mono (WP.gl_le hG))
  have hFl := WP.lt hR
  refine (WP.fail F g r xs e o.A V GV RV).mono ?_
  rintro q w4 ⟨F4, rfl, R4, g4, m4⟩
  have hx4 : Blk w4 w.heap.size 30 (wrC r a n c e) := (m4.2 _ hx.lt (fun h => by have := hFl _ h; omega)).trans hx
  have ho4 : Blk w4 (w.heap.size + 1) 37 C := (m4.2 _ ho.lt (fun h => by have := hFl _ h; omega)).trans ho
  have hr4 : Blk w4 (w.heap.size + 2) 30 (wrC 0 none 0 0 0) := (m4.2 _ hr.lt (fun h => by have := hFl _ h; omega)).trans hr
  have I4 := ints_still (hI.keep hB) m4 hA
  have d1 : w4.cell? ⟨w.heap.size + 1, 1, none⟩ = some (.int .i64 o.A) := (ho4.cell 1).trans h1
  go_wp2_with ((refine wpList_load_blk rfl 30 (.tmp 4) rfl ?_ hx4 rowWr rfl ?_); rfl)
  refine (rwFail_in r a n c e o.A xs w4 I4).mono ?_
  rintro q w5 ⟨a', n', c', rfl, I5, st, b5⟩
  have hr5 := hr4.keep b5 hr4.lt
  have FIN := fun w9 hg9 => fin10 (w9 := w9) WP hR hI hA hB hr.lt R4 g4 m4 st I5 b5 hg9
  have FINH := Lib.hid FIN
  clear FIN I5 st b5 hr4 ho4 hx4 R4 g4 m4 I4 RV GV hx ho hr hB
  obtain ⟨E, hE⟩ : ∃ E, badOf e o.A = E := ⟨_, rfl⟩
  rw [hE]
  go_wp2_with (first
    | (refine wpList_store_part (cur := wrC 0 none 0 0 0) (cs := wrC r a' n' c' E) rfl 30 (.tmp 6) (.tmp 22) rfl rfl rfl hr5 rowWr (by simp [wrC]) (by simp [wrC, Value.oneCell']) ?_; intro w9 hR9 hg9)
    | (refine wpList_store_part (cur := wrC 0 none 0 0 0) (cs := wrC r a' n' c' E) rfl 30 (.tmp 6) (.tmp 32) rfl rfl rfl hr5 rowWr (by simp [wrC]) (by simp [wrC, Value.oneCell']) ?_; intro w9 hR9 hg9)
    | (refine wpList_store_part (cur := wrC 0 none 0 0 0) (cs := wrC r a' n' c' E) rfl 30 (.tmp 6) (.tmp 64) rfl rfl rfl hr5 rowWr (by simp [wrC]) (by simp [wrC, Value.oneCell']) ?_; intro w9 hR9 hg9)
    | (refine wpList_store_part (cur := wrC 0 none 0 0 0) (cs := wrC r a' n' c' E) rfl 30 (.tmp 6) (.tmp 72) rfl rfl rfl hr5 rowWr (by simp [wrC]) (by simp [wrC, Value.oneCell']) ?_; intro w9 hR9 hg9))
  have hR9 := hR9.cast (overV_all _ _ (by rfl))
  (try simp only [Exit.inBlock, Exit.then])
  refine bodyPost_ret (results_blk rfl rfl hR9 rowWr) rfl ?_
  exact ⟨F4, a', n', c', by rw [← hE]; rfl, FINH.out w9 hg9⟩
end Go.Proofs.Ytlbhpicebefpnaa

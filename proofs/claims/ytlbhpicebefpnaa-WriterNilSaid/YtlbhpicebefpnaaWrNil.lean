/-
  The law WriterNil, out of what the program's writer comes to where it is nil or unmade ('WriterNilProg'). New memory alone is written. Conditions: the row's own, and at most 2^42 ids.
-/
import Derived.Test.YtlbhpicebefpnaaWrStepB
namespace Go.Proofs.Ytlbhpicebefpnaa
open Go.RowKit

structure WriterNilProg (WP : WriterProg) where
  Z : List Value
  zero : Zero Try.prog 58 Z
  Un : (Nat → Prop) → World → Nat → Prop
  un : ∀ {w : World} {g : Nat}, Blk w g 58 Z → Un (fun b => b = g) w g
  keep : ∀ {F w w' g}, Un F w g → (∀ b, F b → b < w.heap.size) → (∀ b, F b → w'.heap[b]? = w.heap[b]?) → w.heap.size ≤ w'.heap.size → Un F w' g
  lt : ∀ {F w g}, Un F w g → ∀ b, F b → b < w.heap.size
  n_num : ∀ (N A : Int) (w : World), WP.Gl w → 0 ≤ N → N < 18446744073709551616 → -9223372036854775808 ≤ A → A < 9223372036854775808 →
    Calls Try.prog 15 #[.pointer none, .int .u64 N, .int .i64 A] w fun q w' => q = .returned (.tuple #[]) ∧ Below w.heap.size w w'
  n_bytes : ∀ (b : Option Addr) (m d : Nat) (ys : List Int) (w : World), WP.Gl w → Ints .u8 w b m d ys → d ≤ maxLen →
    Calls Try.prog 17 #[.pointer none, .slice b m d] w fun q w' => q = .returned (.tuple #[]) ∧ Below w.heap.size w w'
  n_id : ∀ (ys : List Int) (w : World), WP.Gl w → ys.length = 32 → (∀ y ∈ ys, 0 ≤ y ∧ y < 256) →
    Calls Try.prog 16 #[.pointer none, .agg (ys.map (Value.int .u8)).toArray] w fun q w' => q = .returned (.tuple #[]) ∧ Below w.heap.size w w'
  n_done : ∀ (w : World), WP.Gl w → Calls Try.prog 11 #[.pointer none] w fun q w' => (∃ b c, q = .returned (.tuple #[.slice b 0 c, .int .i64 7])) ∧ Below w.heap.size w w'
  n_len : ∀ (w : World), WP.Gl w → Calls Try.prog 13 #[.pointer none] w fun q w' => q = .returned (.int .i64 0) ∧ Below w.heap.size w w'
  n_err : ∀ (w : World), WP.Gl w → Calls Try.prog 14 #[.pointer none] w fun q w' => q = .returned (.int .i64 7) ∧ Below w.heap.size w w'
  u_num : ∀ (F : Nat → Prop) (g : Nat) (N A : Int) (w : World), WP.Gl w → Un F w g → 0 ≤ N → N < 18446744073709551616 → -9223372036854775808 ≤ A → A < 9223372036854775808 →
    Calls Try.prog 15 #[.pointer (some ⟨g, 0, none⟩), .int .u64 N, .int .i64 A] w fun q w' => ∃ F', q = .returned (.tuple #[]) ∧ Un F' w' g ∧ Grows F F' w ∧ Moved F w w'
  u_ids : ∀ (F : Nat → Prop) (g : Nat) (b : Option Addr) (m d : Nat) (ys : List Int) (w : World), WP.Gl w → Un F w g → IdsAt w b m d ys → m ≤ 4398046511104 →
    Calls Try.prog 18 #[.pointer (some ⟨g, 0, none⟩), .slice b m d] w fun q w' => ∃ F', q = .returned (.tuple #[]) ∧ Un F' w' g ∧ Grows F F' w ∧ Moved F w w'
  u_fail : ∀ (F : Nat → Prop) (g : Nat) (x : Int) (w : World), WP.Gl w → Un F w g →
    Calls Try.prog 27 #[.pointer (some ⟨g, 0, none⟩), .int .i64 x] w fun q w' => ∃ F', q = .returned (.tuple #[]) ∧ Un F' w' g ∧ Grows F F' w ∧ Moved F w w'
  u_done : ∀ (F : Nat → Prop) (g : Nat) (w : World), WP.Gl w → Un F w g → Calls Try.prog 11 #[.pointer (some ⟨g, 0, none⟩)] w fun q w' => (∃ b c, q = .returned (.tuple #[.slice b 0 c, .int .i64 7])) ∧ Below w.heap.size w w'
  u_len : ∀ (F : Nat → Prop) (g : Nat) (w : World), WP.Gl w → Un F w g → Calls Try.prog 13 #[.pointer (some ⟨g, 0, none⟩)] w fun q w' => q = .returned (.int .i64 0) ∧ Below w.heap.size w w'
  u_err : ∀ (F : Nat → Prop) (g : Nat) (w : World), WP.Gl w → Un F w g → Calls Try.prog 14 #[.pointer (some ⟨g, 0, none⟩)] w fun q w' => q = .returned (.int .i64 7) ∧ Below w.heap.size w w'

/-- What is known between the calls of the law. -/
structure NilRun {WP : WriterProg} (NP : WriterNilProg WP) (w0 : World) (C : List Value) (w : World) : Prop where
  un : ∃ F, NP.Un F w (w0.heap.size + 1) ∧ (∀ b, F b → w0.heap.size ≤ b) ∧ ¬ F w0.heap.size
  hk : Blk w w0.heap.size 37 C
  hB : Below w0.heap.size w0 w
theorem NilRun.stay {WP : WriterProg} {NP : WriterNilProg WP} {w0 w w' : World} {C : List Value} (h : NilRun NP w0 C w) (hb : Below w.heap.size w w') : NilRun NP w0 C w' := by
  obtain ⟨⟨F, h1, h2, h3⟩, hk, hB⟩ := h
  exact ⟨⟨F, NP.keep h1 (NP.lt h1) (fun b hf => hb.block b (NP.lt h1 b hf)) hb.size, h2, h3⟩, hk.keep hb hk.lt, hB.trans (hb.mono hB.size)⟩
theorem NilRun.gl {WP : WriterProg} {NP : WriterNilProg WP} {w0 w : World} {C : List Value} (h : NilRun NP w0 C w) (hG : WP.Gl w0) : WP.Gl w := WP.gl_keep hG (h.hB.mono (WP.gl_le hG))
theorem NilRun.step {WP : WriterProg} {NP : WriterNilProg WP} {w0 w w' : World} {C : List Value} {F F' : Nat → Prop} (hF : ∀ b, F b → w0.heap.size ≤ b) (nX : ¬ F w0.heap.size) (hk : Blk w w0.heap.size 37 C) (hB : Below w0.heap.size w0 w)
    (h1 : NP.Un F' w' (w0.heap.size + 1)) (gg : Grows F F' w) (mm : Moved F w w') : NilRun NP w0 C w' :=
  ⟨⟨F', h1, gg.low hF hB.size, fun h => by
    rcases gg _ h with h | h
    · exact nX h
    · have := hk.lt; omega⟩, (mm.2 _ hk.lt nX).trans hk, hB.trans (mm.below hF hB.size)⟩

set_option maxRecDepth 100000 in
set_option maxHeartbeats 1000000 in
theorem nil10_any (WP : WriterProg) (NP : WriterNilProg WP) (o : OpV) (w : World) (hG : WP.Gl w) (hO : o.Ok w) (hbc : o.bc ≤ maxLen) (hln : o.ln ≤ 4398046511104) :
    Calls Try.prog 5 #[.agg o.cells.toArray] w fun q w' => q = .returned (.bool true) ∧ Below w.heap.size w w' := by
  have hol := OpV.len hO.il
  have h1 := o.at1
  have h2 := o.at2
  have h3 := o.at3
  have h36 := OpV.at36 hO.il
  have hIid : IsRow Try.prog 34 (o.id.map (Value.int .u8)).length := by rw [List.length_map, hO.il]; exact rowId9
  have ir : ∀ w' X, Blk w' X 37 o.cells → w'.rangeAt X 4 (o.id.map (Value.int .u8)) := fun w' X hk => hk.range 4 _ (fun j v hj => by
    rw [List.getElem?_map] at hj
    have hj' : j < 32 := by
      by_cases h' : j < 32
      · exact h'
      · rw [List.getElem?_eq_none (by rw [hO.il]; omega)] at hj
        cases hj
    rw [OpV.at_id hO.il j hj', List.getD_eq_getElem?_getD]
    rw [List.getElem?_eq_getElem (by rw [hO.il]; exact hj')] at hj ⊢
    exact hj)
  have cid := fun w' (h : WP.Gl w') => NP.n_id o.id w' h hO.il hO.ir
  obtain ⟨I, hIe⟩ : ∃ I, o.id.map (Value.int .u8) = I := ⟨_, rfl⟩
  rw [hIe] at ir hIid cid
  obtain ⟨C, hC⟩ : ∃ C, o.cells = C := ⟨_, rfl⟩
  rw [hC] at hol h1 h2 h3 h36 ir ⊢
  clear hIe hC
  go_enter Try.func5, Try.ntmps5
  go_wp2_with (with_reducible refine wpList_alloc_blk rfl 58 rfl NP.zero ?_; refine RowKit.Hid.out ?_)
  refine Lib.hid ?_
  obtain ⟨V, hV⟩ : ∃ V, (w.alloc (.cells C.toArray 37)).alloc (.cells NP.Z.toArray 58) = V := ⟨_, rfl⟩
  have U0 : NilRun NP w C V := by
    rw [← hV]
    exact ⟨⟨_, NP.un (Blk.new1 w _ _ NP.Z), fun b hb => by rw [hb]; omega, fun h => by omega⟩, (Blk.new w _ C).alloc _, below2 w _ _⟩
  rw [hV]
  clear hV
  have a1V : V.cell? ⟨w.heap.size, 1, none⟩ = some (.int .i64 o.A) := (U0.hk.cell 1).trans h1
  have a2V : V.cell? ⟨w.heap.size, 2, none⟩ = some (.int .u64 o.N) := (U0.hk.cell 2).trans h2
  have a3V : V.cell? ⟨w.heap.size, 3, none⟩ = some (.slice o.ba o.bn o.bc) := (U0.hk.cell 3).trans h3
  have a36V : V.cell? ⟨w.heap.size, 36, none⟩ = some (.slice o.la o.ln o.lc) := (U0.hk.cell 36).trans h36
  go_wp2_with fail
  refine (NP.n_num o.N o.A V (U0.gl hG) hO.hN.1 hO.hN.2 hO.hA.1 hO.hA.2).mono ?_
  rintro q w1 ⟨rfl, b1⟩
  have U1 := U0.stay b1
  clear a1V a2V a3V a36V
  clear b1 U0
  have a1w1 : w1.cell? ⟨w.heap.size, 1, none⟩ = some (.int .i64 o.A) := (U1.hk.cell 1).trans h1
  have a2w1 : w1.cell? ⟨w.heap.size, 2, none⟩ = some (.int .u64 o.N) := (U1.hk.cell 2).trans h2
  have a3w1 : w1.cell? ⟨w.heap.size, 3, none⟩ = some (.slice o.ba o.bn o.bc) := (U1.hk.cell 3).trans h3
  have a36w1 : w1.cell? ⟨w.heap.size, 36, none⟩ = some (.slice o.la o.ln o.lc) := (U1.hk.cell 36).trans h36
  go_wp2_with fail
  obtain ⟨F1, u1, f1, n1⟩ := U1.un
  refine (NP.u_num F1 _ o.N o.A w1 (U1.gl hG) u1 hO.hN.1 hO.hN.2 hO.hA.1 hO.hA.2).mono ?_
  rintro q w2 ⟨G1, rfl, v1, gg, mm⟩
  have U2 := NilRun.step f1 n1 U1.hk U1.hB v1 gg mm
  clear a1w1 a2w1 a3w1 a36w1
  clear U1 u1 f1 n1 v1 gg mm
  have a1w2 : w2.cell? ⟨w.heap.size, 1, none⟩ = some (.int .i64 o.A) := (U2.hk.cell 1).trans h1
  have a2w2 : w2.cell? ⟨w.heap.size, 2, none⟩ = some (.int .u64 o.N) := (U2.hk.cell 2).trans h2
  have a3w2 : w2.cell? ⟨w.heap.size, 3, none⟩ = some (.slice o.ba o.bn o.bc) := (U2.hk.cell 3).trans h3
  have a36w2 : w2.cell? ⟨w.heap.size, 36, none⟩ = some (.slice o.la o.ln o.lc) := (U2.hk.cell 36).trans h36
  go_wp2_with fail
  refine (NP.n_bytes o.ba o.bn o.bc o.bs w2 (U2.gl hG) (hO.b.keep U2.hB) hbc).mono ?_
  rintro q w3 ⟨rfl, b3⟩
  have U3 := U2.stay b3
  clear a1w2 a2w2 a3w2 a36w2
  clear b3 U2
  have a1w3 : w3.cell? ⟨w.heap.size, 1, none⟩ = some (.int .i64 o.A) := (U3.hk.cell 1).trans h1
  have a2w3 : w3.cell? ⟨w.heap.size, 2, none⟩ = some (.int .u64 o.N) := (U3.hk.cell 2).trans h2
  have a3w3 : w3.cell? ⟨w.heap.size, 3, none⟩ = some (.slice o.ba o.bn o.bc) := (U3.hk.cell 3).trans h3
  have a36w3 : w3.cell? ⟨w.heap.size, 36, none⟩ = some (.slice o.la o.ln o.lc) := (U3.hk.cell 36).trans h36
  go_wp2_with fail
  obtain ⟨F3, u3, f3, n3⟩ := U3.un
  refine (NP.u_ids F3 _ o.la o.ln o.lc o.ls w3 (U3.gl hG) u3 (hO.l.keep U3.hB) hln).mono ?_
  rintro q w4 ⟨G3, rfl, v3, gg, mm⟩
  have U4 := NilRun.step f3 n3 U3.hk U3.hB v3 gg mm
  clear a1w3 a2w3 a3w3 a36w3
  clear U3 u3 f3 n3 v3 gg mm
  have a1w4 : w4.cell? ⟨w.heap.size, 1, none⟩ = some (.int .i64 o.A) := (U4.hk.cell 1).trans h1
  have a2w4 : w4.cell? ⟨w.heap.size, 2, none⟩ = some (.int .u64 o.N) := (U4.hk.cell 2).trans h2
  have a3w4 : w4.cell? ⟨w.heap.size, 3, none⟩ = some (.slice o.ba o.bn o.bc) := (U4.hk.cell 3).trans h3
  have a36w4 : w4.cell? ⟨w.heap.size, 36, none⟩ = some (.slice o.la o.ln o.lc) := (U4.hk.cell 36).trans h36
  have rg := ir w4 _ U4.hk
  go_wp2_with ((with_reducible refine wpList_load_part rfl 34 (.tmp 28) rfl ?_ I rg hIid ?_); rfl)
  refine (cid w4 (U4.gl hG)).mono ?_
  rintro q w5 ⟨rfl, b5⟩
  have U5 := U4.stay b5
  clear a1w4 a2w4 a3w4 a36w4
  clear b5 U4 rg
  have a1w5 : w5.cell? ⟨w.heap.size, 1, none⟩ = some (.int .i64 o.A) := (U5.hk.cell 1).trans h1
  have a2w5 : w5.cell? ⟨w.heap.size, 2, none⟩ = some (.int .u64 o.N) := (U5.hk.cell 2).trans h2
  have a3w5 : w5.cell? ⟨w.heap.size, 3, none⟩ = some (.slice o.ba o.bn o.bc) := (U5.hk.cell 3).trans h3
  have a36w5 : w5.cell? ⟨w.heap.size, 36, none⟩ = some (.slice o.la o.ln o.lc) := (U5.hk.cell 36).trans h36
  go_wp2_with fail
  obtain ⟨F5, u5, f5, n5⟩ := U5.un
  refine (NP.u_fail F5 _ o.A w5 (U5.gl hG) u5).mono ?_
  rintro q w6 ⟨G5, rfl, v5, gg, mm⟩
  have U6 := NilRun.step f5 n5 U5.hk U5.hB v5 gg mm
  clear a1w5 a2w5 a3w5 a36w5
  clear U5 u5 f5 n5 v5 gg mm
  have a1w6 : w6.cell? ⟨w.heap.size, 1, none⟩ = some (.int .i64 o.A) := (U6.hk.cell 1).trans h1
  have a2w6 : w6.cell? ⟨w.heap.size, 2, none⟩ = some (.int .u64 o.N) := (U6.hk.cell 2).trans h2
  have a3w6 : w6.cell? ⟨w.heap.size, 3, none⟩ = some (.slice o.ba o.bn o.bc) := (U6.hk.cell 3).trans h3
  have a36w6 : w6.cell? ⟨w.heap.size, 36, none⟩ = some (.slice o.la o.ln o.lc) := (U6.hk.cell 36).trans h36
  go_wp2_with fail
  refine (NP.n_done w6 (U6.gl hG)).mono ?_
  rintro q w7 ⟨⟨xb, xc, rfl⟩, b7⟩
  have U7 := U6.stay b7
  clear a1w6 a2w6 a3w6 a36w6
  clear b7 U6
  have a1w7 : w7.cell? ⟨w.heap.size, 1, none⟩ = some (.int .i64 o.A) := (U7.hk.cell 1).trans h1
  have a2w7 : w7.cell? ⟨w.heap.size, 2, none⟩ = some (.int .u64 o.N) := (U7.hk.cell 2).trans h2
  have a3w7 : w7.cell? ⟨w.heap.size, 3, none⟩ = some (.slice o.ba o.bn o.bc) := (U7.hk.cell 3).trans h3
  have a36w7 : w7.cell? ⟨w.heap.size, 36, none⟩ = some (.slice o.la o.ln o.lc) := (U7.hk.cell 36).trans h36
  go_wp2_with fail
  obtain ⟨F7, u7, f7, n7⟩ := U7.un
  refine (NP.u_done F7 _ w7 (U7.gl hG) u7).mono ?_
  rintro q w8 ⟨⟨yb, yc, rfl⟩, b8⟩
  have U8 := U7.stay b8
  clear a1w7 a2w7 a3w7 a36w7
  clear b8 U7 u7 f7 n7
  have a1w8 : w8.cell? ⟨w.heap.size, 1, none⟩ = some (.int .i64 o.A) := (U8.hk.cell 1).trans h1
  have a2w8 : w8.cell? ⟨w.heap.size, 2, none⟩ = some (.int .u64 o.N) := (U8.hk.cell 2).trans h2
  have a3w8 : w8.cell? ⟨w.heap.size, 3, none⟩ = some (.slice o.ba o.bn o.bc) := (U8.hk.cell 3).trans h3
  have a36w8 : w8.cell? ⟨w.heap.size, 36, none⟩ = some (.slice o.la o.ln o.lc) := (U8.hk.cell 36).trans h36
  go_wp2_with fail
  refine (NP.n_len w8 (U8.gl hG)).mono ?_
  rintro q w9 ⟨rfl, b9⟩
  have U9 := U8.stay b9
  clear a1w8 a2w8 a3w8 a36w8
  clear b9 U8
  have a1w9 : w9.cell? ⟨w.heap.size, 1, none⟩ = some (.int .i64 o.A) := (U9.hk.cell 1).trans h1
  have a2w9 : w9.cell? ⟨w.heap.size, 2, none⟩ = some (.int .u64 o.N) := (U9.hk.cell 2).trans h2
  have a3w9 : w9.cell? ⟨w.heap.size, 3, none⟩ = some (.slice o.ba o.bn o.bc) := (U9.hk.cell 3).trans h3
  have a36w9 : w9.cell? ⟨w.heap.size, 36, none⟩ = some (.slice o.la o.ln o.lc) := (U9.hk.cell 36).trans h36
  go_wp2_with fail
  obtain ⟨F9, u9, f9, n9⟩ := U9.un
  refine (NP.u_len F9 _ w9 (U9.gl hG) u9).mono ?_
  rintro q w10 ⟨rfl, b10⟩
  have U10 := U9.stay b10
  clear a1w9 a2w9 a3w9 a36w9
  clear b10 U9 u9 f9 n9
  have a1w10 : w10.cell? ⟨w.heap.size, 1, none⟩ = some (.int .i64 o.A) := (U10.hk.cell 1).trans h1
  have a2w10 : w10.cell? ⟨w.heap.size, 2, none⟩ = some (.int .u64 o.N) := (U10.hk.cell 2).trans h2
  have a3w10 : w10.cell? ⟨w.heap.size, 3, none⟩ = some (.slice o.ba o.bn o.bc) := (U10.hk.cell 3).trans h3
  have a36w10 : w10.cell? ⟨w.heap.size, 36, none⟩ = some (.slice o.la o.ln o.lc) := (U10.hk.cell 36).trans h36
  go_wp2_with fail
  refine (NP.n_err w10 (U10.gl hG)).mono ?_
  rintro q w11 ⟨rfl, b11⟩
  have U11 := U10.stay b11
  clear a1w10 a2w10 a3w10 a36w10
  clear b11 U10
  have a1w11 : w11.cell? ⟨w.heap.size, 1, none⟩ = some (.int .i64 o.A) := (U11.hk.cell 1).trans h1
  have a2w11 : w11.cell? ⟨w.heap.size, 2, none⟩ = some (.int .u64 o.N) := (U11.hk.cell 2).trans h2
  have a3w11 : w11.cell? ⟨w.heap.size, 3, none⟩ = some (.slice o.ba o.bn o.bc) := (U11.hk.cell 3).trans h3
  have a36w11 : w11.cell? ⟨w.heap.size, 36, none⟩ = some (.slice o.la o.ln o.lc) := (U11.hk.cell 36).trans h36
  go_wp2_with fail
  obtain ⟨F11, u11, f11, n11⟩ := U11.un
  refine (NP.u_err F11 _ w11 (U11.gl hG) u11).mono ?_
  rintro q w12 ⟨rfl, b12⟩
  have U12 := U11.stay b12
  clear a1w11 a2w11 a3w11 a36w11
  clear b12 U11 u11 f11 n11
  have a1w12 : w12.cell? ⟨w.heap.size, 1, none⟩ = some (.int .i64 o.A) := (U12.hk.cell 1).trans h1
  have a2w12 : w12.cell? ⟨w.heap.size, 2, none⟩ = some (.int .u64 o.N) := (U12.hk.cell 2).trans h2
  have a3w12 : w12.cell? ⟨w.heap.size, 3, none⟩ = some (.slice o.ba o.bn o.bc) := (U12.hk.cell 3).trans h3
  have a36w12 : w12.cell? ⟨w.heap.size, 36, none⟩ = some (.slice o.la o.ln o.lc) := (U12.hk.cell 36).trans h36
  go_wp2_with fail
  refine (alive10_any WP w12 (U12.gl hG)).mono ?_
  rintro q w13 ⟨rfl, b13⟩
  go_wp2
  go_ret
  exact ⟨rfl, U12.hB.trans (b13.mono U12.hB.size)⟩
end Go.Proofs.Ytlbhpicebefpnaa

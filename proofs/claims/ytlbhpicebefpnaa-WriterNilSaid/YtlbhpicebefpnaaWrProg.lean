/-
  What a program's writer comes to, as a structure ('WriterProg'): a row of contracts; what the laws of layer 10 need of it; and the law's 'alive'. Conditions: at most eighty million bytes.
-/
import Derived.Test.YtlbhpicebefpnaaRwIds
import Derived.Test.YtlbhpicebefpnaaWrOps
namespace Go.Proofs.Ytlbhpicebefpnaa
open Go.RowKit

structure WriterProg where
  Gl : World → Prop
  N : Nat
  gl_le : ∀ {w}, Gl w → N ≤ w.heap.size
  gl_keep : ∀ {w w'}, Gl w → Below N w w' → Gl w'
  Wr : (Nat → Prop) → World → Nat → Int → List Int → Int → Prop
  lt : ∀ {F w g r xs e}, Wr F w g r xs e → ∀ b, F b → b < w.heap.size
  keep : ∀ {F w w' g r xs e}, Wr F w g r xs e → (∀ b, F b → w'.heap[b]? = w.heap[b]?) → w.heap.size ≤ w'.heap.size → Wr F w' g r xs e
  new : ∀ (r : Int) (w : World), Gl w → -9223372036854775808 ≤ r → r < 9223372036854775808 →
    Calls Try.prog 8 #[.int .i64 r] w fun q w' => ∃ g F, q = .returned (.pointer (some ⟨g, 0, none⟩)) ∧ Wr F w' g (max r 0) [] 0 ∧ (∀ b, F b → w.heap.size ≤ b) ∧ Below w.heap.size w w'
  num : ∀ (F : Nat → Prop) (g : Nat) (r : Int) (xs : List Int) (e N A : Int) (w : World), Gl w → Wr F w g r xs e → xs.length ≤ 80000000 → 0 ≤ N → N < 18446744073709551616 → -9223372036854775808 ≤ A → A < 9223372036854775808 →
    Calls Try.prog 15 #[.pointer (some ⟨g, 0, none⟩), .int .u64 N, .int .i64 A] w fun q w' => ∃ F', q = .returned (.tuple #[]) ∧ Wr F' w' g r (wrNum r xs e N A).1 (wrNum r xs e N A).2 ∧ Grows F F' w ∧ Moved F w w'
  bytes : ∀ (F : Nat → Prop) (g : Nat) (r : Int) (xs : List Int) (e : Int) (b : Option Addr) (m d : Nat) (ys : List Int) (w : World), Gl w → Wr F w g r xs e → Ints .u8 w b m d ys → (∀ y ∈ ys, 0 ≤ y ∧ y < 256) → (∀ x, b = some x → 0 < m → ¬ F x.block) → xs.length + m ≤ 80000000 →
    Calls Try.prog 17 #[.pointer (some ⟨g, 0, none⟩), .slice b m d] w fun q w' => ∃ F', q = .returned (.tuple #[]) ∧ Wr F' w' g r (wrStep r xs e ys).1 (wrStep r xs e ys).2 ∧ Grows F F' w ∧ Moved F w w'
  id : ∀ (F : Nat → Prop) (g : Nat) (r : Int) (xs : List Int) (e : Int) (ys : List Int) (w : World), Gl w → Wr F w g r xs e → ys.length = 32 → (∀ y ∈ ys, 0 ≤ y ∧ y < 256) → xs.length ≤ 80000000 →
    Calls Try.prog 16 #[.pointer (some ⟨g, 0, none⟩), .agg (ys.map (Value.int .u8)).toArray] w fun q w' => ∃ F', q = .returned (.tuple #[]) ∧ Wr F' w' g r (wrStep r xs e ys).1 (wrStep r xs e ys).2 ∧ Grows F F' w ∧ Moved F w w'
  hint : ∀ (F : Nat → Prop) (g : Nat) (r : Int) (xs : List Int) (e : Int) (ys : List Int) (w : World), Gl w → Wr F w g r xs e → ys.length = 16 → (∀ y ∈ ys, 0 ≤ y ∧ y < 256) → xs.length ≤ 80000000 →
    Calls Try.prog 30 #[.pointer (some ⟨g, 0, none⟩), .agg (ys.map (Value.int .u8)).toArray] w fun q w' => ∃ F', q = .returned (.tuple #[]) ∧ Wr F' w' g r (wrStep r xs e ys).1 (wrStep r xs e ys).2 ∧ Grows F F' w ∧ Moved F w w'
  ids : ∀ (F : Nat → Prop) (g : Nat) (r : Int) (xs : List Int) (e : Int) (b : Option Addr) (m d : Nat) (ys : List Int) (w : World), Gl w → Wr F w g r xs e → IdsAt w b m d ys → (∀ y ∈ ys, 0 ≤ y ∧ y < 256) → (∀ x, b = some x → 0 < m → ¬ F x.block) → xs.length + 32 * m ≤ 80000000 →
    Calls Try.prog 18 #[.pointer (some ⟨g, 0, none⟩), .slice b m d] w fun q w' => ∃ F', q = .returned (.tuple #[]) ∧ Wr F' w' g r (wrStep r xs e ys).1 (wrStep r xs e ys).2 ∧ Grows F F' w ∧ Moved F w w'
  fail : ∀ (F : Nat → Prop) (g : Nat) (r : Int) (xs : List Int) (e x : Int) (w : World), Gl w → Wr F w g r xs e →
    Calls Try.prog 27 #[.pointer (some ⟨g, 0, none⟩), .int .i64 x] w fun q w' => ∃ F', q = .returned (.tuple #[]) ∧ Wr F' w' g r xs (badOf e x) ∧ Grows F F' w ∧ Moved F w w'
  len : ∀ (F : Nat → Prop) (g : Nat) (r : Int) (xs : List Int) (e : Int) (w : World), Gl w → Wr F w g r xs e →
    Calls Try.prog 13 #[.pointer (some ⟨g, 0, none⟩)] w fun q w' => q = .returned (.int .i64 (xs.length : Int)) ∧ Below w.heap.size w w'
  err : ∀ (F : Nat → Prop) (g : Nat) (r : Int) (xs : List Int) (e : Int) (w : World), Gl w → Wr F w g r xs e →
    Calls Try.prog 14 #[.pointer (some ⟨g, 0, none⟩)] w fun q w' => q = .returned (.int .i64 e) ∧ Below w.heap.size w w'
  done : ∀ (F : Nat → Prop) (g : Nat) (r : Int) (xs : List Int) (e : Int) (w : World), Gl w → Wr F w g r xs e →
    Calls Try.prog 11 #[.pointer (some ⟨g, 0, none⟩)] w fun q w' => ∃ b c, q = .returned (.tuple #[.slice b (if e = 0 then xs else []).length c, .int .i64 e]) ∧ w'.ownsRow w.heap.size 5 1 (.slice b (if e = 0 then xs else []).length c) (if e = 0 then xs else []).length ((if e = 0 then xs else []).map (Value.int .u8)) ∧ Below w.heap.size w w'

theorem WriterProg.gl_moved (WP : WriterProg) {F : Nat → Prop} {w w' : World} (hG : WP.Gl w) (hm : Moved F w w') (hF : ∀ b, F b → WP.N ≤ b) : WP.Gl w' := WP.gl_keep hG (hm.below hF (WP.gl_le hG))
theorem WriterProg.stay (WP : WriterProg) {F : Nat → Prop} {w w' : World} {g : Nat} {r : Int} {xs : List Int} {e : Int} (h : WP.Wr F w g r xs e) (hb : Below w.heap.size w w') : WP.Wr F w' g r xs e :=
  WP.keep h (fun b hb' => hb.block b (WP.lt h b hb')) hb.size
theorem wr_258 : wrNum 3 [] 0 258 2 = ([1, 2], 0) := by decide
theorem wr_3 : wrNum 3 [1, 2] 0 3 2 = ([1, 2], 3) := by decide

set_option maxRecDepth 100000 in
set_option maxHeartbeats 1000000 in
theorem alive10_any (WP : WriterProg) (w : World) (hG : WP.Gl w) : Calls Try.prog 7 #[] w fun r w' => r = .returned (.bool true) ∧ Below w.heap.size w w' := by
  go_enter Try.func7, Try.ntmps7
  go_wp2_with fail
  refine (WP.new 3 w hG (by decide) (by decide)).mono ?_
  rintro q w1 ⟨g, F, rfl, R1, hF, b1⟩
  rw [show max (3 : Int) 0 = 3 by decide] at R1
  have hN : WP.N ≤ w.heap.size := WP.gl_le hG
  have hG1 := WP.gl_keep hG (b1.mono hN)
  have hB1 := b1
  clear b1
  go_wp2_with fail
  have hc := WP.num F g 3 [] 0 258 2 w1 hG1 R1 (by decide) (by decide) (by decide) (by decide) (by decide)
  rw [wr_258] at hc
  refine hc.mono ?_
  rintro q w2 ⟨F2, rfl, R2, g2, m2⟩
  have hG2 := WP.gl_moved hG1 m2 (fun b hb => Nat.le_trans hN (hF b hb))
  have hF2 := g2.low hF hB1.size
  have hB2 := hB1.trans (m2.below hF hB1.size)
  clear hc R1 hG1 hB1 g2 m2
  go_wp2_with fail
  have hc := WP.num F2 g 3 [1, 2] 0 3 2 w2 hG2 R2 (by decide) (by decide) (by decide) (by decide) (by decide)
  rw [wr_3] at hc
  refine hc.mono ?_
  rintro q w3 ⟨F3, rfl, R3, g3, m3⟩
  have hG3 := WP.gl_moved hG2 m3 (fun b hb => Nat.le_trans hN (hF2 b hb))
  have hF3 := g3.low hF2 hB2.size
  have hB3 := hB2.trans (m3.below hF2 hB2.size)
  clear hc R2 hG2 hB2 g3 m3 hF hF2
  go_wp2_with fail
  refine (WP.done F3 g 3 [1, 2] 3 w3 hG3 R3).mono ?_
  rintro q w4 ⟨b, c, rfl, _, b4⟩
  have R4 := WP.stay R3 b4
  have hB4 := hB3.trans (b4.mono hB3.size)
  have hG4 := WP.gl_keep hG3 (b4.mono (WP.gl_le hG3))
  clear R3 hG3 hB3 b4
  go_wp2_with fail
  refine (WP.len F3 g 3 [1, 2] 3 w4 hG4 R4).mono ?_
  rintro q w5 ⟨rfl, b5⟩
  have hB5 := hB4.trans (b5.mono hB4.size)
  clear R4 hG4 hB4 b5
  go_wp2_with fail
  go_ret
  exact ⟨rfl, hB5⟩
end Go.Proofs.Ytlbhpicebefpnaa

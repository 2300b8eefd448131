/-
  What the laws of layer 9 ask of the program's reader ('ReaderProg'): a predicate on memory with the blocks that it speaks of, and what each call comes to by the document's own words. No conditions.
-/
import Derived.Test.YtpobplkijfienaaRdCount
import Derived.Test.YtpobplkijfienaaRdSame
import Derived.Test.YtpobplkijfienaaRdNumber
namespace Go.Proofs.Ytpobplkijfienaa
open Go.RowKit

/-- Only the blocks of F, and new ones, may have been written. -/
def Moved (F : Nat → Prop) (w w' : World) : Prop := Below 0 w w' ∧ ∀ b, b < w.heap.size → ¬ F b → w'.heap[b]? = w.heap[b]?
theorem Moved.below {F : Nat → Prop} {w w' : World} {B : Nat} (h : Moved F w w') (hF : ∀ b, F b → B ≤ b) (hB : B ≤ w.heap.size) : Below B w w' :=
  ⟨h.1.os, h.1.tape, h.1.output, h.1.size, fun i hi => h.2 i (Nat.lt_of_lt_of_le hi hB) (fun hf => absurd (hF i hf) (Nat.not_le.2 hi))⟩
theorem Moved.of_below {F : Nat → Prop} {w w' : World} (h : Below w.heap.size w w') : Moved F w w' := ⟨h.mono (Nat.zero_le _), fun b hb _ => h.block b hb⟩
theorem Moved.size {F : Nat → Prop} {w w' : World} (h : Moved F w w') : w.heap.size ≤ w'.heap.size := h.1.size
/-- The blocks behind a call: those of before, and new ones. -/
def Grows (F F' : Nat → Prop) (w : World) : Prop := ∀ b, F' b → F b ∨ w.heap.size ≤ b
theorem Grows.low {F F' : Nat → Prop} {w : World} {B : Nat} (h : Grows F F' w) (hF : ∀ b, F b → B ≤ b) (hB : B ≤ w.heap.size) : ∀ b, F' b → B ≤ b := fun b hb => by
  rcases h b hb with h | h
  · exact hF b h
  · exact Nat.le_trans hB h

/-- Bytes, and zeros behind them: what an array of so many bytes holds of them. -/
def padTo (n : Nat) (l : List Int) : List Int := l ++ List.replicate (n - l.length) 0

structure ReaderProg where
  Gl : World → Prop
  N : Nat
  gl_le : ∀ {w}, Gl w → N ≤ w.heap.size
  gl_keep : ∀ {w w'}, Gl w → Below N w w' → Gl w'
  Rd : (Nat → Prop) → World → Nat → List Int → Nat → Int → Prop
  lt : ∀ {F w g xs p e}, Rd F w g xs p e → ∀ b, F b → b < w.heap.size
  keep : ∀ {F w w' g xs p e}, Rd F w g xs p e → (∀ b, F b → w'.heap[b]? = w.heap[b]?) → w.heap.size ≤ w'.heap.size → Rd F w' g xs p e
  new : ∀ (a : Option Addr) (n c : Nat) (xs : List Int) (w : World), Gl w → Ints .u8 w a n c xs → (∀ x ∈ xs, 0 ≤ x ∧ x < 256) → n ≤ 1000000 →
    Calls Try.prog 8 #[.slice a n c] w fun r w' => ∃ g F, r = .returned (.pointer (some ⟨g, 0, none⟩)) ∧ Rd F w' g xs 0 0 ∧ (∀ b, F b → w.heap.size ≤ b) ∧ Below w.heap.size w w'
  num : ∀ (F : Nat → Prop) (g : Nat) (xs : List Int) (p : Nat) (e A : Int) (w : World), Gl w → Rd F w g xs p e → p ≤ xs.length →
    Calls Try.prog 17 #[.pointer (some ⟨g, 0, none⟩), .int .i64 A] w fun r w' => ∃ F', r = .returned (.int .u64 (rdNum xs p e A).2.2) ∧ Rd F' w' g xs (rdNum xs p e A).1 (rdNum xs p e A).2.1 ∧ Grows F F' w ∧ Moved F w w'
  err : ∀ (F : Nat → Prop) (g : Nat) (xs : List Int) (p : Nat) (e : Int) (w : World), Gl w → Rd F w g xs p e →
    Calls Try.prog 12 #[.pointer (some ⟨g, 0, none⟩)] w fun r w' => r = .returned (.int .i64 e) ∧ Below w.heap.size w w'
  place : ∀ (F : Nat → Prop) (g : Nat) (xs : List Int) (p : Nat) (e : Int) (w : World), Gl w → Rd F w g xs p e →
    Calls Try.prog 10 #[.pointer (some ⟨g, 0, none⟩)] w fun r w' => r = .returned (.int .i64 (p : Int)) ∧ Below w.heap.size w w'
  left : ∀ (F : Nat → Prop) (g : Nat) (xs : List Int) (p : Nat) (e : Int) (w : World), Gl w → Rd F w g xs p e →
    Calls Try.prog 11 #[.pointer (some ⟨g, 0, none⟩)] w fun r w' => r = .returned (.int .i64 ((xs.length : Int) - p)) ∧ Below w.heap.size w w'
  done : ∀ (F : Nat → Prop) (g : Nat) (xs : List Int) (p : Nat) (e : Int) (w : World), Gl w → Rd F w g xs p e →
    Calls Try.prog 13 #[.pointer (some ⟨g, 0, none⟩)] w fun r w' => r = .returned (.int .i64 (doneOf xs.length p e)) ∧ Below w.heap.size w w'
  fail : ∀ (F : Nat → Prop) (g : Nat) (xs : List Int) (p : Nat) (e x : Int) (w : World), Gl w → Rd F w g xs p e →
    Calls Try.prog 18 #[.pointer (some ⟨g, 0, none⟩), .int .i64 x] w fun r w' => ∃ F', r = .returned (.tuple #[]) ∧ Rd F' w' g xs p (badOf e x) ∧ Grows F F' w ∧ Moved F w w'
  count : ∀ (F : Nat → Prop) (g : Nat) (xs : List Int) (p : Nat) (e A M : Int) (w : World), Gl w → Rd F w g xs p e → p ≤ xs.length → M < 9223372036854775808 →
    Calls Try.prog 20 #[.pointer (some ⟨g, 0, none⟩), .int .i64 A, .int .i64 M] w fun r w' => ∃ F', r = .returned (.int .i64 (rdCount xs p e A M).2.2) ∧ Rd F' w' g xs (rdCount xs p e A M).1 (rdCount xs p e A M).2.1 ∧ Grows F F' w ∧ Moved F w w'
  bytes : ∀ (F : Nat → Prop) (g : Nat) (xs : List Int) (p : Nat) (e A : Int) (w : World), Gl w → Rd F w g xs p e → p ≤ xs.length →
    Calls Try.prog 15 #[.pointer (some ⟨g, 0, none⟩), .int .i64 A] w fun r w' => ∃ F' b c, r = .returned (.slice b (rdStep xs.length p e A).2.2 c) ∧ w'.ownsRow w.heap.size 5 1 (.slice b (rdStep xs.length p e A).2.2 c) (rdStep xs.length p e A).2.2 ((rdBytes xs p e A).map (Value.int .u8)) ∧ (∀ x, b = some x → ¬ F' x.block) ∧ Rd F' w' g xs (rdStep xs.length p e A).1 (rdStep xs.length p e A).2.1 ∧ Grows F F' w ∧ Moved F w w'
  id : ∀ (F : Nat → Prop) (g : Nat) (xs : List Int) (p : Nat) (e : Int) (w : World), Gl w → Rd F w g xs p e → p ≤ xs.length →
    Calls Try.prog 21 #[.pointer (some ⟨g, 0, none⟩)] w fun r w' => ∃ F', r = .returned (.agg ((padTo 32 (rdBytes xs p e 32)).map (Value.int .u8)).toArray) ∧ Rd F' w' g xs (rdStep xs.length p e 32).1 (rdStep xs.length p e 32).2.1 ∧ Grows F F' w ∧ Moved F w w'
  hint : ∀ (F : Nat → Prop) (g : Nat) (xs : List Int) (p : Nat) (e : Int) (w : World), Gl w → Rd F w g xs p e → p ≤ xs.length →
    Calls Try.prog 22 #[.pointer (some ⟨g, 0, none⟩)] w fun r w' => ∃ F', r = .returned (.agg ((padTo 16 (rdBytes xs p e 16)).map (Value.int .u8)).toArray) ∧ Rd F' w' g xs (rdStep xs.length p e 16).1 (rdStep xs.length p e 16).2.1 ∧ Grows F F' w ∧ Moved F w w'
  ids : ∀ (F : Nat → Prop) (g : Nat) (xs : List Int) (p : Nat) (e A : Int) (w : World), Gl w → Rd F w g xs p e → p ≤ xs.length →
    Calls Try.prog 19 #[.pointer (some ⟨g, 0, none⟩), .int .i64 A] w fun r w' => ∃ F' b c, r = .returned (.slice b (rdIds xs.length p e A).2.2 c) ∧ IdsAt w' b (rdIds xs.length p e A).2.2 c ((xs.drop p).take (32 * (rdIds xs.length p e A).2.2)) ∧ Rd F' w' g xs (rdIds xs.length p e A).1 (rdIds xs.length p e A).2.1 ∧ Grows F F' w ∧ Moved F w w'

theorem ReaderProg.gl_moved (RP : ReaderProg) {F : Nat → Prop} {w w' : World} (hG : RP.Gl w) (hm : Moved F w w') (hF : ∀ b, F b → RP.N ≤ b) : RP.Gl w' := RP.gl_keep hG (hm.below hF (RP.gl_le hG))
theorem ReaderProg.stay (RP : ReaderProg) {F : Nat → Prop} {w w' : World} {g : Nat} {xs : List Int} {p : Nat} {e : Int} (h : RP.Rd F w g xs p e) (hb : Below w.heap.size w w') : RP.Rd F w' g xs p e :=
  RP.keep h (fun b hb' => hb.block b (RP.lt h b hb')) hb.size
theorem rd_123a : rdNum [1, 2, 3] 0 0 2 = (2, 0, 258) := by decide
theorem rd_123b : rdNum [1, 2, 3] 2 0 2 = (2, 2, 0) := by decide

set_option maxRecDepth 100000 in
set_option maxHeartbeats 1000000 in
theorem alive9_any (RP : ReaderProg) (w : World) (hG : RP.Gl w) : Calls Try.prog 7 #[] w fun r w' => r = .returned (.bool true) ∧ Below w.heap.size w w' := by
  go_enter Try.func7, Try.ntmps7
  have b0 := below1 w (.cells #[.int .u8 1, .int .u8 2, .int .u8 3] 5)
  have i0 : Ints .u8 (w.alloc (.cells #[.int .u8 1, .int .u8 2, .int .u8 3] 5)) (some ⟨w.heap.size, 0, none⟩) 3 3 [1, 2, 3] := Ints.of_blk (Blk.new w 5 [.int .u8 1, .int .u8 2, .int .u8 3]) rfl (Nat.le_refl _) (fun i hi => by
    rcases i with _ | _ | _ | i
    · rfl
    · rfl
    · rfl
    · omega)
  have g0 := RP.gl_keep hG (b0.mono (RP.gl_le hG))
  go_wp2_with fail
  refine (RP.new _ 3 3 [1, 2, 3] _ g0 i0 (by decide) (by decide)).mono ?_
  rintro r w1 ⟨g, F, rfl, R1, hF, b1⟩
  have hG1 := RP.gl_keep g0 (b1.mono (RP.gl_le g0))
  have hN : RP.N ≤ w.heap.size := RP.gl_le hG
  have hF1 : ∀ b, F b → w.heap.size ≤ b := fun b hb => Nat.le_trans (by rw [size1]; exact Nat.le_succ _) (hF b hb)
  have hB1 : Below w.heap.size w w1 := b0.trans (b1.mono b0.size)
  clear b1 hF i0 g0 b0
  go_wp2_with fail
  have hc := RP.num F g [1, 2, 3] 0 0 2 w1 hG1 R1 (Nat.zero_le _)
  rw [rd_123a] at hc
  refine hc.mono ?_
  rintro r w2 ⟨F2, rfl, R2, g2, m2⟩
  have hG2 := RP.gl_moved hG1 m2 (fun b hb => Nat.le_trans hN (hF1 b hb))
  have hF2 := g2.low hF1 hB1.size
  have hB2 := hB1.trans (m2.below hF1 hB1.size)
  clear hc R1 m2 g2 hF1 hB1 hG1
  go_wp2_with fail
  have hc := RP.num F2 g [1, 2, 3] 2 0 2 w2 hG2 R2 (by decide)
  rw [rd_123b] at hc
  refine hc.mono ?_
  rintro r w3 ⟨F3, rfl, R3, g3, m3⟩
  have hG3 := RP.gl_moved hG2 m3 (fun b hb => Nat.le_trans hN (hF2 b hb))
  have hB3 := hB2.trans (m3.below hF2 hB2.size)
  clear hc R2 m3 g3 hF2 hB2 hG2
  go_wp2_with fail
  refine (RP.err F3 g [1, 2, 3] 2 2 w3 hG3 R3).mono ?_
  rintro r w4 ⟨rfl, b4⟩
  have hG4 := RP.gl_keep hG3 (b4.mono (RP.gl_le hG3))
  have R4 := RP.stay R3 b4
  have hB4 := hB3.trans (b4.mono hB3.size)
  clear R3 hG3 b4 hB3
  go_wp2_with fail
  refine (RP.place F3 g [1, 2, 3] 2 2 w4 hG4 R4).mono ?_
  rintro r w5 ⟨rfl, b5⟩
  have hB5 := hB4.trans (b5.mono hB4.size)
  clear R4 hG4 b5 hB4
  go_wp2
  go_ret
  exact ⟨rfl, hB5⟩
end Go.Proofs.Ytpobplkijfienaa

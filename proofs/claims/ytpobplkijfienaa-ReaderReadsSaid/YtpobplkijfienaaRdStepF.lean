/-
  A fault noted both ways, as the law ReaderReads makes it ('step', any other kind of call). New memory and the reader's own alone are written. Conditions: bytes below 256, at most a million; the place is within them.
-/
import Derived.Test.YtpobplkijfienaaRdStep
namespace Go.Proofs.Ytpobplkijfienaa
open Go.RowKit

set_option maxRecDepth 100000 in
set_option maxHeartbeats 1000000 in
theorem step_fail (RP : ReaderProg) (F : Nat → Prop) (g : Nat) (xs : List Int) (a : Option Addr) (n c p : Nat) (e k A B : Int) (w : World) (hG : RP.Gl w) (hR : RP.Rd F w g xs p e) (hp : p ≤ n) (hk : k < 0 ∨ 5 < k) :
    StepTells RP F g xs a n c p e k A B w := by
  unfold StepTells
  have k0 : (k == 0) = false := by simp; omega
  have k1 : (k == 1) = false := by simp; omega
  have k2 : (k == 2) = false := by simp; omega
  have k3 : (k == 3) = false := by simp; omega
  have k4 : (k == 4) = false := by simp; omega
  have k5 : (k == 5) = false := by simp; omega
  clear hk
  go_enter Try.func9, Try.ntmps9
  go_wp2_with fail
  obtain ⟨V, hV⟩ : ∃ V, (((w.alloc (.cells #[.slice a n c, .int .i64 (p : Int), .int .i64 e] 31)).alloc (.cells #[.int .i64 k, .int .i64 A, .int .i64 B] 33)).alloc (.cells #[.slice none 0 0, .int .i64 0, .int .i64 0] 31)) = V := ⟨_, rfl⟩
  have hx : Blk V w.heap.size 31 (rdC a n c p e) := by rw [← hV]; exact ((Blk.new w _ (rdC a n c p e)).alloc _).alloc _
  have ho : Blk V (w.heap.size + 1) 33 [.int .i64 k, .int .i64 A, .int .i64 B] := by rw [← hV]; exact (Blk.new1 w _ _ _).alloc _
  have hr : Blk V (w.heap.size + 2) 31 (rdC none 0 0 0 0) := by
    rw [← hV]
    have h := Blk.new ((w.alloc (.cells #[.slice a n c, .int .i64 (p : Int), .int .i64 e] 31)).alloc (.cells #[.int .i64 k, .int .i64 A, .int .i64 B] 33)) 31 (rdC none 0 0 0 0)
    rw [size2] at h
    exact h
  have hB : Below w.heap.size w V := by rw [← hV]; exact below3 w _ _ _
  rw [hV]
  clear hV
  have RV := RP.stay hR hB
  have GV := RP.gl_keep hG (hB.mono (RP.gl_le hG))
  have hFl := RP.lt hR
  have nf0 : ¬ F w.heap.size := fun h => by have := hFl _ h; omega
  have nf1 : ¬ F (w.heap.size + 1) := fun h => by have := hFl _ h; omega
  have nf2 : ¬ F (w.heap.size + 2) := fun h => by have := hFl _ h; omega
  refine (RP.fail F g xs p e B V GV RV).mono ?_
  rintro r w2 ⟨F2, rfl, R2, g2, m2⟩
  have hx2 : Blk w2 w.heap.size 31 (rdC a n c p e) := (m2.2 _ hx.lt nf0).trans hx
  have ho2 : Blk w2 (w.heap.size + 1) 33 [.int .i64 k, .int .i64 A, .int .i64 B] := (m2.2 _ ho.lt nf1).trans ho
  have hr2 : Blk w2 (w.heap.size + 2) 31 (rdC none 0 0 0 0) := (m2.2 _ hr.lt nf2).trans hr
  have hM2 : Moved F w w2 := ⟨(hB.mono (Nat.zero_le _)).trans m2.1, fun b hb hf => (m2.2 b (Nat.lt_of_lt_of_le hb hB.size) hf).trans (hB.block b hb)⟩
  have hG2 : Grows F F2 w := fun b hb => (g2 b hb).imp id (fun h => Nat.le_trans hB.size h)
  have hF2r : ¬ F2 (w.heap.size + 2) := fun h => by
    rcases g2 _ h with h | h
    · exact nf2 h
    · have := hr.lt; omega
  have co : w2.cell? ⟨w.heap.size + 1, 2, none⟩ = some (.int .i64 B) := ho2.cell 2
  clear hx ho hr hB RV GV m2 g2 ho2 nf0 nf1 nf2
  go_wp2_with ((refine wpList_load_blk rfl 31 (.tmp 4) rfl ?_ hx2 rowRd rfl ?_); rfl)
  refine (rFail_any a n c p e B w2).mono ?_
  rintro r w3 ⟨rfl, b3⟩
  have hr3 := hr2.keep b3 hr2.lt
  have R3 := RP.stay R2 b3
  have hM3 : Moved F w w3 := ⟨hM2.1.trans (b3.mono (Nat.zero_le _)), fun b hb hf => (b3.block b (Nat.lt_of_lt_of_le hb hM2.size)).trans (hM2.2 b hb hf)⟩
  clear hx2 hr2 R2 hM2 b3 co
  go_wp2_with (refine wpList_store_part (cur := rdC none 0 0 0 0) (cs := rdC a n c p (badOf e B)) rfl 31 (.tmp 6) (.tmp 131) rfl rfl rfl hr3 rowRd (by simp [rdC]) (by simp [rdC, Value.oneCell']) ?_; intro w5 hr5 gr5)
  have hr5 := hr5.cast (overV_all _ _ (by rfl))
  have R5 := RP.keep R3 (fun b hb => gr5.block b (RP.lt R3 b hb) (by intro e; injection e with e; subst e; exact hF2r hb)) gr5.size
  have hM5 : Moved F w w5 := ⟨hM3.1.trans ⟨gr5.os, gr5.tape, gr5.output, gr5.size, fun i hi => absurd hi (Nat.not_lt_zero i)⟩, fun b hb hf => (gr5.block b (Nat.lt_of_lt_of_le hb hM3.size) (by intro e; injection e with e; omega)).trans (hM3.2 b hb hf)⟩
  (try simp only [Exit.inBlock, Exit.then])
  refine bodyPost_ret (results_blk_tmp rfl rfl hr5 rowRd) rfl ?_
  exact ⟨F2, p, badOf e B, rfl, R5, hp, hG2, hM5⟩
end Go.Proofs.Ytpobplkijfienaa

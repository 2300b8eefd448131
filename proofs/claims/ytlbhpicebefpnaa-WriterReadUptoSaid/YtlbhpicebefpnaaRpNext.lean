/-
  What the program's 'next' comes to: the bytes that come next, or a fault. New memory and the reader alone are written. Conditions: those of a reader in memory.
-/
import Derived.Test.YtlbhpicebefpnaaRpDone
namespace Go.Proofs.Ytlbhpicebefpnaa
open Go.RowKit

set_option maxRecDepth 100000 in
set_option maxHeartbeats 800000 in
theorem pNext_bad {F : Nat → Prop} {w : World} {g : Nat} {xs : List Int} {p : Nat} {e : Int} (s : ByteArray) (may : Bool) (A S : Int) (he : e ≠ 0) (h : RdAt F w g xs p e) :
    Calls Try.prog 35 #[.pointer (some ⟨g, 0, none⟩), .string s, .bool may, .int .i64 A, .int .i64 S] w fun r w' => r = .returned (.slice none 0 0) ∧ w = w' := by
  have hc := pReads_any h
  rw [show decide (e = 0) = false from decide_eq_false he] at hc
  go_enter Try.func35, Try.ntmps35
  go_wp2_with fail
  refine hc.mono ?_
  rintro r w1 ⟨rfl, rfl⟩
  go_wp2
  go_ret
  exact ⟨rfl, rfl⟩

set_option maxRecDepth 100000 in
set_option maxHeartbeats 1600000 in
theorem pNext_arg {F : Nat → Prop} {w : World} {g : Nat} {xs : List Int} {p : Nat} (s : ByteArray) (A S : Int) (h : RdAt F w g xs p 0) :
    Calls Try.prog 35 #[.pointer (some ⟨g, 0, none⟩), .string s, .bool false, .int .i64 A, .int .i64 S] w fun r w' => r = .returned (.slice none 0 0) ∧ RdAt F w' g xs p 1 ∧ Moved F w w' := by
  have hc := pReads_any h
  obtain ⟨a, n, c, fv, t, hb, hi, hf, hx⟩ := h.is
  obtain ⟨c0, c1, c2, c3, c4⟩ := rdCells hb
  have hlen := hi.len
  have hm := h.most
  have hw := h.within
  subst hlen
  rw [show decide ((0 : Int) = 0) = true from rfl] at hc
  have z3 := hb.frozen 3
  have z2 := hb.frozen 2
  have hbH := Lib.hid hb
  have hgl := hb.lt
  clear hb
  go_enter Try.func35, Try.ntmps35
  go_wp2_with fail
  refine hc.mono ?_
  rintro r w1 ⟨rfl, rfl⟩
  have hk := Blk.new w 28 [.int .i64 1, .int .i64 2]
  have b1 := below1 w (.cells #[.int .i64 1, .int .i64 2] 28)
  go_wp2_with fail
  refine (pOr_any 1 2 w.heap.size _ (by decide) (hk.cell 0) (hk.cell 1)).mono ?_
  rintro r w2 ⟨rfl, rfl⟩
  obtain ⟨W, hW⟩ : ∃ W, w.alloc (.cells #[.int .i64 1, .int .i64 2] 28) = W := ⟨_, rfl⟩
  rw [hW] at b1
  have hbW := hbH.out.keep b1 hgl
  have hW1 := h.keep (fun b hb => b1.block b (h.lt b hb)) b1.size
  have hiW := hi.keep b1
  have z3' := hbW.frozen 3
  have c3' : W.cell? ⟨g, 3, none⟩ = some fv := hbW.cell 3
  rw [hW]
  have hbWH := Lib.hid hbW
  clear hW hbW hk
  go_wp2
  go_ret
  have k1 := hbWH.out.set 3 (.iface 79 (.agg #[.string s, .int .i64 1]))
  have g1 := grown_setCell W g 3 (.iface 79 (.agg #[.string s, .int .i64 1]))
  refine ⟨rfl, hW1.write hiW hx g1 k1 (.inr ⟨by decide, _, rfl, .inl rfl⟩) h.within, ?_⟩
  have m1 : Moved F W _ := moved_set h.own g1
  exact ⟨(b1.mono (Nat.zero_le _)).trans m1.1, fun b hb hf => (m1.2 b (Nat.lt_of_lt_of_le hb b1.size) hf).trans (b1.block b hb)⟩
theorem Moved.after {F : Nat → Prop} {w W w' : World} (b1 : Below w.heap.size w W) (m1 : Moved F W w') : Moved F w w' :=
  ⟨(b1.mono (Nat.zero_le _)).trans m1.1, fun b hb hf => (m1.2 b (Nat.lt_of_lt_of_le hb b1.size) hf).trans (b1.block b hb)⟩

set_option maxRecDepth 100000 in
set_option maxHeartbeats 1600000 in
theorem pNext_short {F : Nat → Prop} {w : World} {g : Nat} {xs : List Int} {p : Nat} (s : ByteArray) (A S Q : Int) (h : RdAt F w g xs p 0) (hS : ¬ S = 0) (hQ : wrap64 (((xs.length : Int) - p).tdiv S) = Q) (hA : Q < A) :
    Calls Try.prog 35 #[.pointer (some ⟨g, 0, none⟩), .string s, .bool true, .int .i64 A, .int .i64 S] w fun r w' => r = .returned (.slice none 0 0) ∧ RdAt F w' g xs p 2 ∧ Moved F w w' := by
  have hc := pReads_any h
  have hL := fun w1 (b1 : Below w.heap.size w w1) => pLeft_any (h.keep (fun b hb => b1.block b (h.lt b hb)) b1.size)
  obtain ⟨a, n, c, fv, t, hb, hi, hf, hx⟩ := h.is
  obtain ⟨c0, c1, c2, c3, c4⟩ := rdCells hb
  have hlen := hi.len
  have hm := h.most
  have hw := h.within
  subst hlen
  rw [show decide ((0 : Int) = 0) = true from rfl] at hc
  have z3 := hb.frozen 3
  have z2 := hb.frozen 2
  have hbH := Lib.hid hb
  have hgl := hb.lt
  clear hb
  go_enter Try.func35, Try.ntmps35
  go_wp2_with fail
  refine hc.mono ?_
  rintro r w1 ⟨rfl, rfl⟩
  go_wp2_with fail
  refine (hL _ (Below.refl _ _)).mono ?_
  rintro r w1 ⟨rfl, q, hq⟩
  have b0 : Below w.heap.size w w1 := by rw [hq]; exact below_drewN (Below.refl _ _) q
  clear hq hL hc
  have hk := Blk.new w1 28 [.int .i64 0, .int .i64 2]
  have b1 := b0.trans ((below1 w1 (.cells #[.int .i64 0, .int .i64 2] 28)).mono b0.size)
  go_wp2_with fail
  refine (pOr_any 0 2 w1.heap.size _ (by decide) (hk.cell 0) (hk.cell 1)).mono ?_
  rintro r w2 ⟨rfl, rfl⟩
  obtain ⟨W, hW⟩ : ∃ W, w1.alloc (.cells #[.int .i64 0, .int .i64 2] 28) = W := ⟨_, rfl⟩
  rw [hW] at b1
  have hbW := hbH.out.keep b1 hgl
  have hW1 := h.keep (fun b hb => b1.block b (h.lt b hb)) b1.size
  have hiW := hi.keep b1
  have z3' := hbW.frozen 3
  have c3' : W.cell? ⟨g, 3, none⟩ = some fv := hbW.cell 3
  rw [hW]
  have hbWH := Lib.hid hbW
  clear hW hbW hk
  go_wp2
  go_ret
  have k1 := hbWH.out.set 3 (.iface 79 (.agg #[.string s, .int .i64 2]))
  have g1 := grown_setCell W g 3 (.iface 79 (.agg #[.string s, .int .i64 2]))
  exact ⟨rfl, hW1.write hiW hx g1 k1 (.inr ⟨by decide, _, rfl, .inr (.inl rfl)⟩) h.within, (moved_set h.own g1).after b1⟩

set_option maxRecDepth 100000 in
set_option maxHeartbeats 1600000 in
theorem pNext_ok {F : Nat → Prop} {w : World} {g : Nat} {xs : List Int} {p : Nat} (s : ByteArray) (A S Q M : Int) (k : Nat) (h : RdAt F w g xs p 0) (hS : ¬ S = 0) (hQ : wrap64 (((xs.length : Int) - p).tdiv S) = Q) (hA : ¬ Q < A) (hM : wrap64 (A * S) = M) (hk : M = (k : Int)) (hp : p + k ≤ xs.length) :
    Calls Try.prog 35 #[.pointer (some ⟨g, 0, none⟩), .string s, .bool true, .int .i64 A, .int .i64 S] w fun r w' => ∃ a c, r = .returned (.slice a k c) ∧ Ints .u8 w' a k c ((xs.drop p).take k) ∧ (∀ x, a = some x → 0 < k → F x.block ∧ x.block ≠ g) ∧ RdAt F w' g xs (p + k) 0 ∧ Moved F w w' := by
  have hc := pReads_any h
  have hL := pLeft_any h
  obtain ⟨a, n, c, fv, t, hb, hi, hf, hx⟩ := h.is
  obtain ⟨c0, c1, c2, c3, c4⟩ := rdCells hb
  have hlen := hi.len
  have hm := h.most
  have hw := h.within
  subst hlen
  rw [show decide ((0 : Int) = 0) = true from rfl] at hc
  have z3 := hb.frozen 3
  have z2 := hb.frozen 2
  have hbH := Lib.hid hb
  have hgl := hb.lt
  clear hb
  have hsum : wrap64 ((p : Int) + M) = ((p + k : Nat) : Int) := by rw [hk]; unfold wrap64; omega
  have hMH := Lib.hid hk
  have hcut := hi.cut2 p (p + k) (by omega) hp
  have hblk : ∀ x, cutAddr a c p = some x → 0 < k → F x.block ∧ x.block ≠ g := fun x hxx h0 => by
    obtain ⟨y, hy, he⟩ := cutAddr_block hxx
    rw [← he]
    exact hx y hy (by omega)
  have hcn := hi.2.1
  have hs := fun W : World => run_cut2 (P := Try.prog) 27 5 Try.underlying27 (by kernel_rfl) W a xs.length c .i64 .i64 p (p + k) (by omega) (by omega)
  rw [show p + k - p = k by omega] at hs hcut
  obtain ⟨P, hP⟩ : ∃ P : Int, ((p + k : Nat) : Int) = P := ⟨_, rfl⟩
  rw [hP] at hs hsum
  obtain ⟨V, hV⟩ : ∃ V, Value.slice (cutAddr a c p) k (c - p) = V := ⟨_, rfl⟩
  rw [hV] at hs
  have hVH := Lib.hid hV
  have hPH := Lib.hid hP
  have hxH := Lib.hid hx
  have hcutH := Lib.hid hcut
  have hblkH := Lib.hid hblk
  have hpH := Lib.hid hp
  clear hk hV hP hcut hblk hp hcn hm hw hx
  go_enter Try.func35, Try.ntmps35
  go_wp2_with fail
  refine hc.mono ?_
  rintro r w1 ⟨rfl, rfl⟩
  go_wp2_with fail
  refine hL.mono ?_
  rintro r w1 ⟨rfl, q, hq⟩
  have b0 : Below w.heap.size w w1 := by rw [hq]; exact below_drewN (Below.refl _ _) q
  have hbW := hbH.out.keep b0 hgl
  obtain ⟨d0, d1, d2, d3, d4⟩ := rdCells hbW
  have y2 := hbW.frozen 2
  have hbWH := Lib.hid hbW
  clear hq hL hc hbW z3 z2 c0 c1 c2 c3 c4 d0 d3 d4
  go_wp2
  go_quiet (fail)
  go_wp2
  go_ret
  have k1 := hbWH.out.set 2 (.int .i64 ((p + k : Nat) : Int))
  have g1 := grown_drewN (grown_setCell w1 g 2 (.int .i64 P)) nq
  have hW1 := h.keep (fun b hb => b0.block b (h.lt b hb)) b0.size
  have hiW := hi.keep b0
  refine ⟨cutAddr a c p, c - p, by rw [hVH.out]; rfl, (hcutH.out.keep b0).grown g1 (fun x hx h0 => (hblkH.out x hx h0).2), hblkH.out, ?_, (moved_set h.own g1).after b0⟩
  rw [hPH.out] at k1
  refine hW1.write hiW hxH.out g1 (fv := fv) (t := t) ?_ hf hpH.out
  rw [hPH.out]
  exact k1
end Go.Proofs.Ytlbhpicebefpnaa

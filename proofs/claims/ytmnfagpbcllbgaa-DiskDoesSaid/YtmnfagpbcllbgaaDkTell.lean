/-
  What the landed disk's Kept, Size, Units, Room, Fuse, Down, Used, count, spare, Arm come to. New memory alone is written, and the disk's own block. Conditions: a disk that New made.
-/
import Derived.Test.YtmnfagpbcllbgaaDkLook
namespace Go.Proofs.Ytmnfagpbcllbgaa
open Go.RowKit

set_option maxRecDepth 100000 in
set_option maxHeartbeats 800000 in
theorem dKept_any {L : Nat → Nat} {P : Nat → Prop} {w : World} {g : Nat} {D : DkV} {x0 x1 x2 : FaV} {T : Nat} (h : DkAt L P w g D x0 x1 x2) (hO : D.Ok T) (i : Nat) (hi : i < 3) :
    Calls Try.prog 26 #[.pointer (some ⟨g, 0, none⟩), .int .i64 (i : Int)] w fun q w' => Tells w q w' (D.f i).K := by
  obtain ⟨x, hx, hL⟩ := h.look hO i hi
  have hI := hx.k.i
  have hn : (D.f i).K.length ≤ 65536 := Nat.le_trans (kept_le _ _) (hO.f i).need
  have hC := fun (w' : World) (q : Below w.heap.size w w') => pClone_any x.ka (D.f i).K.length x.kc (D.f i).K w' (hI.keep q) (by omega)
  have hf : ∀ wx, (Instr.field 57 (.agg (fC x (D.f i)).toArray) 0).run Try.prog wx = .ok (.slice x.ka (D.f i).K.length x.kc) wx := fun wx => by kernel_rfl
  have hCH := Lib.hid hC
  obtain ⟨Cs, hCs⟩ : ∃ Cs, (fC x (D.f i)).toArray = Cs := ⟨_, rfl⟩
  rw [hCs] at hf hL
  clear hC hI hx h hO hCs hn
  go_enter Try.func26, Try.ntmps26
  go_wp2_with fail
  refine hL.mono ?_
  rintro q w1 ⟨rfl, hB⟩
  go_wp2_with fail
  refine (hCH.out w1 hB).mono ?_
  rintro q w2 ⟨b, c, rfl, ho, hB2⟩
  go_wp2
  go_ret
  exact ⟨b, c, rfl, own_weak ho hB.size, hB.trans (hB2.mono hB.size)⟩

set_option maxRecDepth 100000 in
set_option maxHeartbeats 800000 in
theorem dSize_any {L : Nat → Nat} {P : Nat → Prop} {w : World} {g : Nat} {D : DkV} {x0 x1 x2 : FaV} {T : Nat} (h : DkAt L P w g D x0 x1 x2) (hO : D.Ok T) (i : Nat) (hi : i < 3) :
    Calls Try.prog 14 #[.pointer (some ⟨g, 0, none⟩), .int .i64 (i : Int)] w fun q w' => q = .returned (.int .i64 ((D.f i).held.length : Nat)) ∧ Below w.heap.size w w' := by
  obtain ⟨x, hx, hL⟩ := h.look hO i hi
  have hf : ∀ wx, (Instr.field 57 (.agg (fC x (D.f i)).toArray) 2).run Try.prog wx = .ok (.slice x.ha (D.f i).held.length x.hc) wx := fun wx => by kernel_rfl
  obtain ⟨Cs, hCs⟩ : ∃ Cs, (fC x (D.f i)).toArray = Cs := ⟨_, rfl⟩
  rw [hCs] at hf hL
  clear hx h hO hCs
  go_enter Try.func14, Try.ntmps14
  go_wp2_with fail
  refine hL.mono ?_
  rintro q w1 ⟨rfl, hB⟩
  go_wp2
  go_ret
  exact ⟨rfl, hB⟩

set_option maxRecDepth 100000 in
set_option maxHeartbeats 800000 in
theorem dUnits_any {L : Nat → Nat} {P : Nat → Prop} {w : World} {g : Nat} {D : DkV} {x0 x1 x2 : FaV} {T : Nat} (h : DkAt L P w g D x0 x1 x2) (hO : D.Ok T) (i : Nat) (hi : i < 3) :
    Calls Try.prog 27 #[.pointer (some ⟨g, 0, none⟩), .int .i64 (i : Int)] w fun q w' => q = .returned (.int .i64 ((D.f i).units : Nat)) ∧ Below w.heap.size w w' := by
  obtain ⟨x, hx, hL⟩ := h.look hO i hi
  have hf : ∀ wx, (Instr.field 57 (.agg (fC x (D.f i)).toArray) 4).run Try.prog wx = .ok (.int .i64 ((D.f i).units : Nat)) wx := fun wx => by kernel_rfl
  obtain ⟨Cs, hCs⟩ : ∃ Cs, (fC x (D.f i)).toArray = Cs := ⟨_, rfl⟩
  rw [hCs] at hf hL
  clear hx h hO hCs
  go_enter Try.func27, Try.ntmps27
  go_wp2_with fail
  refine hL.mono ?_
  rintro q w1 ⟨rfl, hB⟩
  go_wp2
  go_ret
  exact ⟨rfl, hB⟩

set_option maxRecDepth 100000 in
set_option maxHeartbeats 800000 in
theorem dRoom_any {w : World} {g : Nat} {r : Int} (c0 : w.cell? ⟨g, 0, none⟩ = some (.int .i64 r)) (hr : 0 < r) :
    Calls Try.prog 30 #[.pointer (some ⟨g, 0, none⟩)] w fun q w' => q = .returned (.int .i64 r) ∧ w = w' := by
  have hM := dMade_any c0 hr
  go_enter Try.func30, Try.ntmps30
  go_wp2_with fail
  refine hM.mono ?_
  rintro q w1 ⟨rfl, rfl⟩
  go_wp2
  go_ret
  exact ⟨rfl, rfl⟩

set_option maxRecDepth 100000 in
set_option maxHeartbeats 800000 in
theorem dFuse_any {w : World} {g : Nat} {r f : Int} (c0 : w.cell? ⟨g, 0, none⟩ = some (.int .i64 r)) (hr : 0 < r) (c1 : w.cell? ⟨g, 1, none⟩ = some (.int .i64 f)) :
    Calls Try.prog 31 #[.pointer (some ⟨g, 0, none⟩)] w fun q w' => q = .returned (.int .i64 f) ∧ w = w' := by
  have hM := dMade_any c0 hr
  go_enter Try.func31, Try.ntmps31
  go_wp2_with fail
  refine hM.mono ?_
  rintro q w1 ⟨rfl, rfl⟩
  go_wp2
  go_ret
  exact ⟨rfl, rfl⟩

set_option maxRecDepth 100000 in
set_option maxHeartbeats 800000 in
theorem dDown_any {w : World} {g : Nat} {r : Int} {d : Bool} (c0 : w.cell? ⟨g, 0, none⟩ = some (.int .i64 r)) (hr : 0 < r) (c2 : w.cell? ⟨g, 2, none⟩ = some (.bool d)) :
    Calls Try.prog 32 #[.pointer (some ⟨g, 0, none⟩)] w fun q w' => q = .returned (.bool d) ∧ w = w' := by
  have hM := dMade_any c0 hr
  go_enter Try.func32, Try.ntmps32
  go_wp2_with fail
  refine hM.mono ?_
  rintro q w1 ⟨rfl, rfl⟩
  go_wp2
  go_ret
  exact ⟨rfl, rfl⟩
end Go.Proofs.Ytmnfagpbcllbgaa

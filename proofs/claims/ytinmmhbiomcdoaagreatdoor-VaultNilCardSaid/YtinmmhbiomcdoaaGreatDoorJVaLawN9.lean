/-
  Texts of stages that were proved on their own, joined: DkFind, DkLook, DkTell, DkUsed, DkCount, DkStep, DkDo, DkBehind, DkSettle, DkSets, DkTakeF, DkTake, DkWhole, RyMath, DkAppend, DkCrash, DkCloneF, DkClone, DkAlive, RyKp, SlMath. Each begins with its own words.
-/
import Derived.Test.YtinmmhbiomcdoaaGreatDoorJVaLawN7
import Derived.Test.YtinmmhbiomcdoaaGreatDoorJVaLawN8
import Derived.Test.YtinmmhbiomcdoaaGreatDoorJVaLawN2
import Derived.Test.YtinmmhbiomcdoaaGreatDoorSeqS
import Derived.Test.YtinmmhbiomcdoaaGreatDoorJVaLawN6
import Derived.Test.YtinmmhbiomcdoaaGreatDoorJVaLawN3

/-
  What the landed disk's made, find, look, New come to, and what it tells: Read, Kept, Size, Units, Room, Fuse, Down. New memory alone is written. Conditions: a disk that New made.
-/
namespace Go.Proofs.YtinmmhbiomcdoaaGreatDoor
open Go.RowKit

set_option maxRecDepth 100000 in
set_option maxHeartbeats 800000 in
theorem dMade_any {w : World} {g : Nat} {r : Int} (c0 : w.cell? ⟨g, 0, none⟩ = some (.int .i64 r)) (hr : 0 < r) :
    Calls Tryz.prog 49 #[.pointer (some ⟨g, 0, none⟩)] w fun q w' => q = .returned (.bool true) ∧ w = w' := by
  go_enter Tryz.func49, Tryz.ntmps49
  go_wp2
  go_ret
  exact ⟨rfl, rfl⟩

set_option maxRecDepth 100000 in
set_option maxHeartbeats 800000 in
theorem dFind_no {w : World} {g : Nat} {r : Int} (c0 : w.cell? ⟨g, 0, none⟩ = some (.int .i64 r)) (hr : 0 < r) (i : Int) (h : noFile i) :
    Calls Tryz.prog 59 #[.pointer (some ⟨g, 0, none⟩), .int .i64 i] w fun q w' => q = .returned (.tuple #[.pointer none, .int .i64 1]) ∧ w = w' := by
  have hM := dMade_any c0 hr
  by_cases h0 : i < 0
  · go_enter Tryz.func59, Tryz.ntmps59
    go_wp2_with fail
    refine hM.mono ?_
    rintro q w1 ⟨rfl, rfl⟩
    go_wp2
    go_ret2
    exact ⟨rfl, rfl⟩
  · have h1 : 3 ≤ i := by rcases h with h | h <;> omega
    go_enter Tryz.func59, Tryz.ntmps59
    go_wp2_with fail
    refine hM.mono ?_
    rintro q w1 ⟨rfl, rfl⟩
    go_wp2
    go_ret2
    exact ⟨rfl, rfl⟩

set_option maxRecDepth 100000 in
set_option maxHeartbeats 800000 in
theorem dFind_any {w : World} {g : Nat} {r : Int} (c0 : w.cell? ⟨g, 0, none⟩ = some (.int .i64 r)) (hr : 0 < r) (i : Nat) (h : i < 3) :
    Calls Tryz.prog 59 #[.pointer (some ⟨g, 0, none⟩), .int .i64 (i : Int)] w fun q w' => q = .returned (.tuple #[.pointer (some ⟨g, 3 + 5 * i, none⟩), .int .i64 0]) ∧ w = w' := by
  have hM := dMade_any c0 hr
  have h0 : ¬ (i : Int) < 0 := by omega
  have h1 : ¬ 3 ≤ (i : Int) := by omega
  have h2 : (i : Int) < 3 := by omega
  rw [Nat.mul_comm]
  go_enter Tryz.func59, Tryz.ntmps59
  go_wp2_with fail
  refine hM.mono ?_
  rintro q w1 ⟨rfl, rfl⟩
  go_wp2
  go_ret2
  exact ⟨rfl, rfl⟩
end Go.Proofs.YtinmmhbiomcdoaaGreatDoor

/-
  What the landed disk's look, New come to, and what it tells: Read, Kept, Size, Units, Room, Fuse, Down, Used. New memory alone is written. Conditions: a disk that New made; at most 65536 bytes a file.
-/
namespace Go.Proofs.YtinmmhbiomcdoaaGreatDoor
open Go.RowKit

theorem rowFl : IsRow Tryz.prog 89 5 := by
  refine ⟨?_, by kernel_rfl⟩
  have h : (Tryz.prog.underlying 89).map (·.isRow) = some true := by kernel_rfl
  cases hq : Tryz.prog.underlying 89 with
  | none => simp [hq] at h
  | some d => rw [hq] at h; simp at h; exact ⟨d, rfl, h⟩
def flZ : List Value := [.slice none 0 0, .slice none 0 0, .slice none 0 0, .int .i64 0, .int .i64 0]
theorem zeroFl : Zero Tryz.prog 89 flZ := by unfold Zero; kernel_rfl
theorem built_fl0 : Tryz.prog.built 89 [] = some flZ.toArray := by kernel_rfl
theorem fC_one (x : FaV) (v : FlV) : ∀ u ∈ fC x v, u.oneCell' = true := by
  intro u hu
  simp only [fC, List.mem_cons, List.not_mem_nil, or_false] at hu
  rcases hu with rfl | rfl | rfl | rfl | rfl <;> rfl
theorem flZ_one : ∀ u ∈ flZ, u.oneCell' = true := by
  intro u hu
  simp only [flZ, List.mem_cons, List.not_mem_nil, or_false] at hu
  rcases hu with rfl | rfl | rfl | rfl | rfl <;> rfl

set_option maxRecDepth 100000 in
set_option maxHeartbeats 800000 in
theorem dLook_any {w : World} {g : Nat} {r : Int} (c0 : w.cell? ⟨g, 0, none⟩ = some (.int .i64 r)) (hr : 0 < r) (i : Nat) (h : i < 3) (cs : List Value) (hc : w.rangeAt g (3 + 5 * i) cs) (hl : cs.length = 5) (h1 : ∀ u ∈ cs, u.oneCell' = true) :
    Calls Tryz.prog 97 #[.pointer (some ⟨g, 0, none⟩), .int .i64 (i : Int)] w fun q w' => q = .returned (.agg cs.toArray) ∧ Below w.heap.size w w' := by
  go_enter Tryz.func97, Tryz.ntmps97
  go_wp2_with (with_reducible refine wpList_alloc_blk rfl 89 rfl zeroFl ?_
               refine RowKit.Hid.out ?_)
  refine Lib.hid ?_
  obtain ⟨W, hW⟩ : ∃ W, w.alloc (.cells flZ.toArray 89) = W := ⟨_, rfl⟩
  have hB : Below w.heap.size w W := by rw [← hW]; exact below1 _ _
  have hZ : Blk W w.heap.size 89 flZ := by rw [← hW]; exact Blk.new w _ flZ
  have hg : g < w.heap.size := World.block_lt_of_cell? w _ c0
  have c0' : W.cell? ⟨g, 0, none⟩ = some (.int .i64 r) := by rw [hB.cell (p := ⟨g, 0, none⟩) hg]; exact c0
  have hc' : W.rangeAt g (3 + 5 * i) cs := fun j v hj => by rw [hB.cell (p := ⟨g, 3 + 5 * i + j, none⟩) hg]; exact hc j v hj
  have hF := Lib.hid (dFind_any c0' hr i h)
  have hBH := Lib.hid hB
  rw [hW]
  have hfz : 0 + cs.length ≤ flZ.length := by rw [hl]; decide
  have hrow : IsRow Tryz.prog 89 cs.length := by rw [hl]; exact rowFl
  clear hW hB c0 hc c0'
  go_wp2_with fail
  refine hF.out.mono ?_
  rintro q w1 ⟨rfl, rfl⟩
  go_wp2_with (with_reducible refine wpList_load_part (off := 3 + 5 * i) rfl 89 _ rfl rfl cs hc' hrow ?_
               refine RowKit.Hid.out ?_)
  refine Lib.hid ?_
  go_wp2_with (with_reducible refine wpList_store_part (off := 0) rfl 89 _ _ rfl rfl rfl hZ hrow hfz h1 ?_
               intro w2 hb2 hg2
               refine RowKit.Hid.out ?_)
  refine Lib.hid ?_
  rw [overV_all _ _ (by rw [hl]; rfl)] at hb2
  have hB2 := hBH.out.grown hg2 hBH.out.size (fun q hq => by injection hq with hq; rw [← hq]; exact Nat.le_refl _)
  go_wp2
  refine bodyPost_ret (results_blk rfl rfl hb2 hrow) rfl ?_
  exact ⟨rfl, hB2⟩

theorem own_weak {w : World} {B B' : Nat} {e : TypeId} {v : Value} {n : Nat} {vs : List Value} (h : w.ownsRow B e 1 v n vs) (hb : B' ≤ B) : w.ownsRow B' e 1 v n vs := by
  refine ⟨h.1, h.2.imp id ?_⟩
  rintro ⟨g, cap, cur, hv, hg, hr⟩
  exact ⟨g, cap, cur, hv, Nat.le_trans hb hg, hr⟩
/-- A slice of bytes, told anew. -/
def Tells (w : World) (q : Ending) (w' : World) (xs : List Int) : Prop := ∃ b c, q = .returned (.slice b xs.length c) ∧ w'.ownsRow w.heap.size 5 1 (.slice b xs.length c) xs.length (xs.map (Value.int .u8)) ∧ Below w.heap.size w w'
theorem DkAt.look {L : Nat → Nat} {P : Nat → Prop} {w : World} {g : Nat} {D : DkV} {x0 x1 x2 : FaV} {T : Nat} (h : DkAt L P w g D x0 x1 x2) (hO : D.Ok T) (i : Nat) (hi : i < 3) :
    ∃ x, FlAt L P w i x (D.f i) ∧ Calls Tryz.prog 97 #[.pointer (some ⟨g, 0, none⟩), .int .i64 (i : Int)] w fun q w' => q = .returned (.agg (fC x (D.f i)).toArray) ∧ Below w.heap.size w w' := by
  obtain ⟨x, hx, hc⟩ := h.fl i hi
  have hr := hO.room
  exact ⟨x, hx, dLook_any (dcells h.b).1 (by omega) i hi (fC x (D.f i)) (h.b.range _ _ hc) rfl (fC_one _ _)⟩

set_option maxRecDepth 100000 in
set_option maxHeartbeats 800000 in
theorem dRead_any {L : Nat → Nat} {P : Nat → Prop} {w : World} {g : Nat} {D : DkV} {x0 x1 x2 : FaV} {T : Nat} (h : DkAt L P w g D x0 x1 x2) (hO : D.Ok T) (i : Nat) (hi : i < 3) :
    Calls Tryz.prog 54 #[.pointer (some ⟨g, 0, none⟩), .int .i64 (i : Int)] w fun q w' => Tells w q w' (D.f i).held := by
  obtain ⟨x, hx, hL⟩ := h.look hO i hi
  have hI := own_ints' hx.h.o
  have hn : (D.f i).held.length ≤ 65536 := Nat.le_trans (FlV.held_le _) (hO.f i).need
  have hC := fun (w' : World) (q : Below w.heap.size w w') => pClone_any x.ha (D.f i).held.length x.hc (D.f i).held w' (hI.keep q) (by omega)
  have hf : ∀ wx, (Instr.field 89 (.agg (fC x (D.f i)).toArray) 2).run Tryz.prog wx = .ok (.slice x.ha (D.f i).held.length x.hc) wx := fun wx => by kernel_rfl
  have hCH := Lib.hid hC
  obtain ⟨Cs, hCs⟩ : ∃ Cs, (fC x (D.f i)).toArray = Cs := ⟨_, rfl⟩
  rw [hCs] at hf hL
  clear hC hI hx h hO hCs hn
  go_enter Tryz.func54, Tryz.ntmps54
  go_wp2_with fail
  refine hL.mono ?_
  rintro q w1 ⟨rfl, hB⟩
  go_wp2_with fail
  refine (hCH.out w1 hB).mono ?_
  rintro q w2 ⟨b, c, rfl, ho, hB2⟩
  go_wp2
  go_ret
  exact ⟨b, c, rfl, own_weak ho hB.size, hB.trans (hB2.mono hB.size)⟩
end Go.Proofs.YtinmmhbiomcdoaaGreatDoor

/-
  What the landed disk's Kept, Size, Units, Room, Fuse, Down, Used, count, spare, Arm come to. New memory alone is written, and the disk's own block. Conditions: a disk that New made.
-/
namespace Go.Proofs.YtinmmhbiomcdoaaGreatDoor
open Go.RowKit

set_option maxRecDepth 100000 in
set_option maxHeartbeats 800000 in
theorem dKept_any {L : Nat → Nat} {P : Nat → Prop} {w : World} {g : Nat} {D : DkV} {x0 x1 x2 : FaV} {T : Nat} (h : DkAt L P w g D x0 x1 x2) (hO : D.Ok T) (i : Nat) (hi : i < 3) :
    Calls Tryz.prog 56 #[.pointer (some ⟨g, 0, none⟩), .int .i64 (i : Int)] w fun q w' => Tells w q w' (D.f i).K := by
  obtain ⟨x, hx, hL⟩ := h.look hO i hi
  have hI := hx.k.i
  have hn : (D.f i).K.length ≤ 65536 := Nat.le_trans (kept_le _ _) (hO.f i).need
  have hC := fun (w' : World) (q : Below w.heap.size w w') => pClone_any x.ka (D.f i).K.length x.kc (D.f i).K w' (hI.keep q) (by omega)
  have hf : ∀ wx, (Instr.field 89 (.agg (fC x (D.f i)).toArray) 0).run Tryz.prog wx = .ok (.slice x.ka (D.f i).K.length x.kc) wx := fun wx => by kernel_rfl
  have hCH := Lib.hid hC
  obtain ⟨Cs, hCs⟩ : ∃ Cs, (fC x (D.f i)).toArray = Cs := ⟨_, rfl⟩
  rw [hCs] at hf hL
  clear hC hI hx h hO hCs hn
  go_enter Tryz.func56, Tryz.ntmps56
  go_wp2_with fail
  refine hL.mono ?_
  rintro q w1 ⟨rfl, hB⟩
  go_wp2_with fail
  refine (hCH.out w1 hB).mono ?_
  rintro q w2 ⟨b, c, rfl, ho, hB2⟩
  go_wp2
  go_ret
  exact ⟨b, c, rfl, own_weak ho hB.size, hB.trans (hB2.mono hB.size)⟩

set_option maxRecDepth 100000 in
set_option maxHeartbeats 800000 in
theorem dSize_any {L : Nat → Nat} {P : Nat → Prop} {w : World} {g : Nat} {D : DkV} {x0 x1 x2 : FaV} {T : Nat} (h : DkAt L P w g D x0 x1 x2) (hO : D.Ok T) (i : Nat) (hi : i < 3) :
    Calls Tryz.prog 58 #[.pointer (some ⟨g, 0, none⟩), .int .i64 (i : Int)] w fun q w' => q = .returned (.int .i64 ((D.f i).held.length : Nat)) ∧ Below w.heap.size w w' := by
  obtain ⟨x, hx, hL⟩ := h.look hO i hi
  have hf : ∀ wx, (Instr.field 89 (.agg (fC x (D.f i)).toArray) 2).run Tryz.prog wx = .ok (.slice x.ha (D.f i).held.length x.hc) wx := fun wx => by kernel_rfl
  obtain ⟨Cs, hCs⟩ : ∃ Cs, (fC x (D.f i)).toArray = Cs := ⟨_, rfl⟩
  rw [hCs] at hf hL
  clear hx h hO hCs
  go_enter Tryz.func58, Tryz.ntmps58
  go_wp2_with fail
  refine hL.mono ?_
  rintro q w1 ⟨rfl, hB⟩
  go_wp2
  go_ret
  exact ⟨rfl, hB⟩

set_option maxRecDepth 100000 in
set_option maxHeartbeats 800000 in
theorem dUnits_any {L : Nat → Nat} {P : Nat → Prop} {w : World} {g : Nat} {D : DkV} {x0 x1 x2 : FaV} {T : Nat} (h : DkAt L P w g D x0 x1 x2) (hO : D.Ok T) (i : Nat) (hi : i < 3) :
    Calls Tryz.prog 126 #[.pointer (some ⟨g, 0, none⟩), .int .i64 (i : Int)] w fun q w' => q = .returned (.int .i64 ((D.f i).units : Nat)) ∧ Below w.heap.size w w' := by
  obtain ⟨x, hx, hL⟩ := h.look hO i hi
  have hf : ∀ wx, (Instr.field 89 (.agg (fC x (D.f i)).toArray) 4).run Tryz.prog wx = .ok (.int .i64 ((D.f i).units : Nat)) wx := fun wx => by kernel_rfl
  obtain ⟨Cs, hCs⟩ : ∃ Cs, (fC x (D.f i)).toArray = Cs := ⟨_, rfl⟩
  rw [hCs] at hf hL
  clear hx h hO hCs
  go_enter Tryz.func126, Tryz.ntmps126
  go_wp2_with fail
  refine hL.mono ?_
  rintro q w1 ⟨rfl, hB⟩
  go_wp2
  go_ret
  exact ⟨rfl, hB⟩

set_option maxRecDepth 100000 in
set_option maxHeartbeats 800000 in
theorem dRoom_any {w : World} {g : Nat} {r : Int} (c0 : w.cell? ⟨g, 0, none⟩ = some (.int .i64 r)) (hr : 0 < r) :
    Calls Tryz.prog 109 #[.pointer (some ⟨g, 0, none⟩)] w fun q w' => q = .returned (.int .i64 r) ∧ w = w' := by
  have hM := dMade_any c0 hr
  go_enter Tryz.func109, Tryz.ntmps109
  go_wp2_with fail
  refine hM.mono ?_
  rintro q w1 ⟨rfl, rfl⟩
  go_wp2
  go_ret
  exact ⟨rfl, rfl⟩

set_option maxRecDepth 100000 in
set_option maxHeartbeats 800000 in
theorem dDown_any {w : World} {g : Nat} {r : Int} {d : Bool} (c0 : w.cell? ⟨g, 0, none⟩ = some (.int .i64 r)) (hr : 0 < r) (c2 : w.cell? ⟨g, 2, none⟩ = some (.bool d)) :
    Calls Tryz.prog 22 #[.pointer (some ⟨g, 0, none⟩)] w fun q w' => q = .returned (.bool d) ∧ w = w' := by
  have hM := dMade_any c0 hr
  go_enter Tryz.func22, Tryz.ntmps22
  go_wp2_with fail
  refine hM.mono ?_
  rintro q w1 ⟨rfl, rfl⟩
  go_wp2
  go_ret
  exact ⟨rfl, rfl⟩
end Go.Proofs.YtinmmhbiomcdoaaGreatDoor

/-
  What the landed disk's Used, spare, count and Arm come to. The disk's own block alone is written. Conditions: a disk that New made; needs of at most 65536 bytes a file.
-/
namespace Go.Proofs.YtinmmhbiomcdoaaGreatDoor
open Go.RowKit

set_option maxRecDepth 100000 in
set_option maxHeartbeats 800000 in
theorem dUsed_any {w : World} {g : Nat} {r : Int} {n0 n1 n2 : Nat} (c0 : w.cell? ⟨g, 0, none⟩ = some (.int .i64 r)) (hr : 0 < r) (a0 : w.cell? ⟨g, 6, none⟩ = some (.int .i64 (n0 : Int))) (a1 : w.cell? ⟨g, 11, none⟩ = some (.int .i64 (n1 : Int))) (a2 : w.cell? ⟨g, 16, none⟩ = some (.int .i64 (n2 : Int))) (h0 : n0 ≤ 65536) (h1 : n1 ≤ 65536) (h2 : n2 ≤ 65536) :
    Calls Tryz.prog 98 #[.pointer (some ⟨g, 0, none⟩)] w fun q w' => q = .returned (.int .i64 ((n0 + n1 + n2 : Nat) : Int)) ∧ w' = w := by
  have hM := dMade_any c0 hr
  go_enter Tryz.func98, Tryz.ntmps98
  go_wp2_with fail
  refine hM.mono ?_
  rintro q w1 ⟨rfl, rfl⟩
  go_wp2_with fail
  go_loopw [3, 8] (fun l i wr => ∃ j : Nat, j ≤ 3 ∧ i = .int .i64 j ∧ l = .int .i64 ((if j = 0 then 0 else if j = 1 then n0 else if j = 2 then n0 + n1 else n0 + n1 + n2 : Nat) : Int) ∧ wr = w) (fun _ i _ => 3 - (intOf i).toNat)
  case atStart => exact ⟨0, by omega, rfl, rfl, rfl⟩
  case round =>
    obtain ⟨j, hj, rfl, rfl, hwr⟩ := hrel
    have hwr' := hwr.symm
    subst hwr'
    match j, hj with
    | 0, _ =>
      go_wp2
      exact ⟨⟨1, by omega, rfl, by simp, by trivial⟩, by simp only [intOf]; omega⟩
    | 1, _ =>
      have hw : wrap64 ((n0 : Int) + n1) = ((n0 + n1 : Nat) : Int) := by unfold wrap64; omega
      go_wp2
      exact ⟨⟨2, by omega, rfl, by simp, by trivial⟩, by simp only [intOf]; omega⟩
    | 2, _ =>
      have hw : wrap64 (((n0 + n1 : Nat) : Int) + n2) = ((n0 + n1 + n2 : Nat) : Int) := by unfold wrap64; omega
      go_wp2
      exact ⟨⟨3, by omega, rfl, by simp, by trivial⟩, by simp only [intOf]; omega⟩
    | 3, _ =>
      go_wp2
      go_ret
      exact ⟨by simp, rfl⟩
end Go.Proofs.YtinmmhbiomcdoaaGreatDoor

/-
  What the landed disk's spare, count, Arm, New and modulo come to. The disk's own block alone is written. Conditions: a disk that New made; needs of at most 65536 bytes a file.
-/
namespace Go.Proofs.YtinmmhbiomcdoaaGreatDoor
open Go.RowKit

set_option maxRecDepth 100000 in
set_option maxHeartbeats 800000 in
theorem dSpare_any {w : World} {g o : Nat} {r : Int} {n0 n1 n2 n m : Nat} {a : Option Addr} {c : Nat} (c0 : w.cell? ⟨g, 0, none⟩ = some (.int .i64 r)) (hr : 0 < r ∧ r ≤ 65536) (a0 : w.cell? ⟨g, 6, none⟩ = some (.int .i64 (n0 : Int))) (a1 : w.cell? ⟨g, 11, none⟩ = some (.int .i64 (n1 : Int))) (a2 : w.cell? ⟨g, 16, none⟩ = some (.int .i64 (n2 : Int))) (h0 : n0 ≤ 65536) (h1 : n1 ≤ 65536) (h2 : n2 ≤ 65536)
    (b2 : w.cell? ⟨g, o + 2, none⟩ = some (.slice a m c)) (b3 : w.cell? ⟨g, o + 3, none⟩ = some (.int .i64 (n : Int))) (hn : n ≤ 65536) (hm : m ≤ 65536) :
    Calls Tryz.prog 60 #[.pointer (some ⟨g, 0, none⟩), .pointer (some ⟨g, o, none⟩)] w fun q w' => q = .returned (.int .i64 ((n : Int) - m + r - ((n0 + n1 + n2 : Nat) : Int))) ∧ ∃ k, w' = w.drewN k := by
  have hU : ∀ k, Calls Tryz.prog 98 #[.pointer (some ⟨g, 0, none⟩)] (w.drewN k) fun q w' => q = .returned (.int .i64 ((n0 + n1 + n2 : Nat) : Int)) ∧ w' = w.drewN k := fun k => dUsed_any (w := w.drewN k) c0 hr.1 a0 a1 a2 h0 h1 h2
  obtain ⟨U, hUU⟩ : ∃ U : Nat, n0 + n1 + n2 = U := ⟨_, rfl⟩
  rw [hUU] at hU ⊢
  have w1 : IntKind.i64.wrap ((n : Int) - m) = (n : Int) - m := by rw [IntKind.wrap_i64]; omega
  have w2 : IntKind.i64.wrap ((n : Int) - m + r) = (n : Int) - m + r := by rw [IntKind.wrap_i64]; omega
  have w3 : IntKind.i64.wrap ((n : Int) - m + r - (U : Int)) = (n : Int) - m + r - (U : Int) := by rw [IntKind.wrap_i64]; omega
  clear a0 a1 a2 hUU h0 h1 h2
  go_enter Tryz.func60, Tryz.ntmps60
  go_wp2
  go_quiet (refine Calls.quiet_of_same (hU _))
  go_wp2
  go_ret
  exact ⟨rfl, _, rfl⟩

set_option maxRecDepth 100000 in
set_option maxHeartbeats 800000 in
theorem dCount_any {w : World} {g : Nat} {f : Int} {t : TypeId} {cs : List Value} (hb : Blk w g t cs) (h1 : cs[1]? = some (.int .i64 f)) (h2 : ∃ d, cs[2]? = some (.bool d)) (hf : 0 ≤ f ∧ f < 9223372036854775808) :
    Calls Tryz.prog 62 #[.pointer (some ⟨g, 0, none⟩)] w fun q w' => q = .returned (.int .i64 (if f = 1 then 18 else 0)) ∧ Blk w' g t (if f = 0 then cs else if f = 1 then (cs.set 1 (.int .i64 (f - 1))).set 2 (.bool true) else cs.set 1 (.int .i64 (f - 1))) ∧ w.grownBy w' (some g) := by
  have c1 := hb.cell 1
  rw [h1] at c1
  have f1 := hb.frozen 1
  have g1 := grown_setCell w g 1 (.int .i64 (f - 1))
  have B1 := hb.set 1 (.int .i64 (f - 1))
  have l1 : 1 < cs.length := (List.getElem?_eq_some_iff.1 h1).1
  have d1 := B1.cell 1
  rw [List.getElem?_set_self l1] at d1
  obtain ⟨d, h2⟩ := h2
  have d2 := B1.cell 2
  rw [List.getElem?_set_ne (by decide), h2] at d2
  have f2 := B1.frozen 2
  have hw : wrap64 (f - 1) = f - 1 := by unfold wrap64; omega
  by_cases hf0 : f = 0
  · subst hf0
    rw [if_neg (by decide), if_pos rfl]
    go_enter Tryz.func62, Tryz.ntmps62
    go_wp2
    go_ret
    exact ⟨rfl, hb, grown_refl _ _⟩
  · by_cases hf1 : f = 1
    · rw [if_pos hf1, if_neg hf0, if_pos hf1]
      have hp : ¬ 0 < f - 1 := by omega
      have hp2 : f - 1 ≤ 0 := by omega
      have B2 := B1.set 2 (.bool true)
      have g2 := grown_trans g1 (grown_setCell _ g 2 (.bool true))
      clear hf1
      go_enter Tryz.func62, Tryz.ntmps62
      go_wp2
      go_ret
      exact ⟨rfl, B2, g2⟩
    · rw [if_neg hf1, if_neg hf0, if_neg hf1]
      have hp : 0 < f - 1 := by omega
      go_enter Tryz.func62, Tryz.ntmps62
      go_wp2
      go_ret
      exact ⟨rfl, B1, g1⟩

set_option maxRecDepth 100000 in
set_option maxHeartbeats 800000 in
theorem dArm_any {w : World} {g : Nat} {r n : Int} {t : TypeId} {cs : List Value} (hb : Blk w g t cs) (h0 : cs[0]? = some (.int .i64 r)) (h1 : ∃ f, cs[1]? = some (.int .i64 f)) (hr : 0 < r) :
    Calls Tryz.prog 16 #[.pointer (some ⟨g, 0, none⟩), .int .i64 n] w fun q w' => q = .returned (.tuple #[]) ∧ Blk w' g t (cs.set 1 (.int .i64 (max n 0))) ∧ w.grownBy w' (some g) := by
  have c0 := hb.cell 0
  rw [h0] at c0
  have hM := dMade_any c0 hr
  have f1 := hb.frozen 1
  obtain ⟨f, h1⟩ := h1
  have c1 := hb.cell 1
  rw [h1] at c1
  by_cases hn : 0 ≤ n
  · rw [show max n 0 = n by omega]
    have g1 := grown_setCell w g 1 (.int .i64 n)
    have B1 := hb.set 1 (.int .i64 n)
    go_enter Tryz.func16, Tryz.ntmps16
    go_wp2_with fail
    refine hM.mono ?_
    rintro q w1 ⟨rfl, rfl⟩
    go_wp2
    (try simp only [Exit.inBlock, Exit.then])
    first
      | go_end0
      | refine bodyPost_ret (results_none rfl _ _ _) rfl ?_
    exact ⟨rfl, B1, g1⟩
  · rw [show max n 0 = 0 by omega]
    have g1 := grown_setCell w g 1 (.int .i64 0)
    have B1 := hb.set 1 (.int .i64 0)
    go_enter Tryz.func16, Tryz.ntmps16
    go_wp2_with fail
    refine hM.mono ?_
    rintro q w1 ⟨rfl, rfl⟩
    go_wp2
    (try simp only [Exit.inBlock, Exit.then])
    first
      | go_end0
      | refine bodyPost_ret (results_none rfl _ _ _) rfl ?_
    exact ⟨rfl, B1, g1⟩

set_option maxRecDepth 100000 in
set_option maxHeartbeats 800000 in
theorem dModulo_any {w : World} (n : Int) (b : Nat) (h0 : 0 < b) (h1 : (b : Int) < 9223372036854775808) :
    Calls Tryz.prog 50 #[.int .i64 n, .int .i64 (b : Int)] w fun q w' => q = .returned (.int .i64 (n % (b : Int))) ∧ w' = w := by
  have hb0 : ¬ b = 0 := by omega
  have hM := Int.tmod_eq_emod (a := n) (b := (b : Int))
  have hl := Int.emod_lt_of_pos n (show (0 : Int) < b by omega)
  have hg := Int.emod_nonneg n (show (b : Int) ≠ 0 by omega)
  obtain ⟨M, hMM⟩ : ∃ M, n % (b : Int) = M := ⟨_, rfl⟩
  rw [hMM] at hl hg hM ⊢
  clear hMM
  split at hM
  · have hnn : ¬ n.tmod (b : Int) < 0 := by omega
    have he : n.tmod (b : Int) = M := by omega
    have heH := Lib.hid he
    clear hM he hl h1 hg
    go_enter Tryz.func50, Tryz.ntmps50
    go_wp2
    go_ret
    exact ⟨by rw [← heH.out]; rfl, rfl⟩
  · rw [Int.natAbs_natCast] at hM
    have hnn : n.tmod (b : Int) < 0 := by omega
    have hw : wrap64 (n.tmod (b : Int) + (b : Int)) = M := by unfold wrap64; omega
    clear hM hl h1 hg
    go_enter Tryz.func50, Tryz.ntmps50
    go_wp2
    go_ret
    exact ⟨by rw [← hw]; rfl, rfl⟩

set_option maxRecDepth 100000 in
set_option maxHeartbeats 800000 in
theorem dNew_no {w : World} (r : Int) (h : r < 1 ∨ 65536 < r) :
    Calls Tryz.prog 7 #[.int .i64 r] w fun q w' => q = .returned (.tuple #[.pointer none, .int .i64 1]) ∧ w' = w := by
  by_cases h0 : r < 1
  · go_enter Tryz.func7, Tryz.ntmps7
    go_wp2
    go_ret2
    exact ⟨rfl, rfl⟩
  · have h1 : 65536 < r := by omega
    go_enter Tryz.func7, Tryz.ntmps7
    go_wp2
    go_ret2
    exact ⟨rfl, rfl⟩
end Go.Proofs.YtinmmhbiomcdoaaGreatDoor

/-
  What the landed disk's New, unitsOf and the two kinds of steps' do come to. New memory alone is written, and the row that a put goes on. Conditions: at most 2^20 bytes.
-/
namespace Go.Proofs.YtinmmhbiomcdoaaGreatDoor
open Go.RowKit

def fa0 : FaV := ⟨none, 0, none, 0, none, 0⟩
def dk0 (r : Int) : DkV := ⟨r, 0, false, ⟨[], []⟩, ⟨[], []⟩, ⟨[], []⟩⟩
theorem built_dk (r : Int) : Tryz.prog.built 92 [(0, .int .i64 r)] = some (dC (dk0 r) fa0 fa0 fa0).toArray := by kernel_rfl
theorem fl_none (L : Nat → Nat) (P : Nat → Prop) (w : World) (i : Nat) : FlAt L P w i fa0 ⟨[], []⟩ :=
  ⟨⟨⟨rfl, Nat.le_refl _, .inl rfl⟩, fun x hx => by cases hx⟩, ⟨⟨[], World.ownsRow_nil _ _ _ _, StsAt.nil⟩, fun x hx => by cases hx⟩, ⟨World.ownsRow_nil _ _ _ _, fun x hx => by cases hx⟩⟩
theorem dk0_ok (r : Int) (h : 1 ≤ r ∧ r ≤ 65536) : (dk0 r).Ok 0 := by
  have f0 : (⟨[], []⟩ : FlV).Ok 0 := ⟨trivial, Nat.le_refl _, Nat.le_refl _, Nat.zero_le _⟩
  exact ⟨h, ⟨Int.le_refl _, show (0 : Int) < 9223372036854775808 by decide⟩, show (0 : Int) ≤ r by omega, f0, f0, f0⟩

set_option maxRecDepth 100000 in
set_option maxHeartbeats 800000 in
theorem dNew_any {w : World} (r : Int) (h : 1 ≤ r ∧ r ≤ 65536) :
    Calls Tryz.prog 7 #[.int .i64 r] w fun q w' => ∃ g L, q = .returned (.tuple #[.pointer (some ⟨g, 0, none⟩), .int .i64 0]) ∧ DkAt L (fun _ => False) w' g (dk0 r) fa0 fa0 fa0 ∧ (∀ b, L b ≠ 0 → w.heap.size ≤ b) ∧ Below w.heap.size w w' := by
  have h0 : ¬ r < 1 := by omega
  have h1 : ¬ 65536 < r := by omega
  have hbt := built_dk r
  obtain ⟨Cs, hCs⟩ : ∃ Cs, (dC (dk0 r) fa0 fa0 fa0) = Cs := ⟨_, rfl⟩
  rw [hCs] at hbt
  go_enter Tryz.func7, Tryz.ntmps7
  go_wp2_with (with_reducible refine build_row rfl 92 #[(0, .tmp 10)] rfl (cells := Cs.toArray) ?_ ?_
               (refine Eq.trans (congrArg _ ?_) hbt; kernel_rfl)
               refine RowKit.Hid.out ?_)
  refine Lib.hid ?_
  go_wp2_with (with_reducible refine box_row rfl 92 _ rfl Cs rfl ?_
               refine RowKit.Hid.out ?_)
  refine Lib.hid ?_
  go_wp2
  go_ret2
  refine ⟨w.heap.size, fun b => if b = w.heap.size then 1 else 0, rfl, ⟨by rw [hCs]; exact Blk.new w _ Cs, if_pos rfl, ⟨fun b hb => ?_, fun b hb => hb.elim⟩, fl_none _ _ _ _, fl_none _ _ _ _, fl_none _ _ _ _⟩, fun b hb => ?_, below1 _ _⟩
  · by_cases e : b = w.heap.size
    · rw [e, size1]; omega
    · exact absurd (if_neg e) hb
  · by_cases e : b = w.heap.size
    · omega
    · exact absurd (if_neg e) hb

theorem as_pp (v : Value) (w : World) : (Instr.typeAssert (.iface 121 v) 169 121 true).run Tryz.prog w = .ok (.tuple #[v, .bool true]) w := by kernel_rfl
theorem as_cp (v : Value) (w : World) : (Instr.typeAssert (.iface 205 v) 169 121 true).run Tryz.prog w = .ok (.tuple #[.slice none 0 0, .bool false]) w := by kernel_rfl
theorem as_cc (v : Value) (w : World) : (Instr.typeAssert (.iface 205 v) 169 205 true).run Tryz.prog w = .ok (.tuple #[v, .bool true]) w := by kernel_rfl

set_option maxRecDepth 100000 in
set_option maxHeartbeats 800000 in
theorem uOf_any {P : Nat → Prop} {w : World} {v : Value} {s : StV} (h : StAt P w v s) :
    Calls Tryz.prog 99 #[v] w fun q w' => q = .returned (.int .i64 (s.units : Nat)) ∧ w' = w := by
  cases s with
  | put xs =>
    obtain ⟨a, c, rfl, hI, hP⟩ := h
    have ha := as_pp (.slice a xs.length c)
    clear hI hP
    go_enter Tryz.func99, Tryz.ntmps99
    go_wp2
    go_ret
    exact ⟨rfl, rfl⟩
  | cut n =>
    obtain rfl : v = .iface 205 (.int .i64 (n : Int)) := h
    have ha := as_cp (.int .i64 (n : Int))
    have hc := as_cc (.int .i64 (n : Int))
    go_enter Tryz.func99, Tryz.ntmps99
    go_wp2
    go_ret
    exact ⟨rfl, rfl⟩
end Go.Proofs.YtinmmhbiomcdoaaGreatDoor

/-
  What the landed steps' do comes to: bytes put to the end of a row of the call's own, or a cut. That row's block alone is written, or new memory. Conditions: at most 2^46 bytes.
-/
namespace Go.Proofs.YtinmmhbiomcdoaaGreatDoor
open Go.RowKit

/-- What a row of the call's own has become: in its own block, or in a new one. -/
structure Became (B : Nat) (w : World) (A : Option Addr) (n C : Nat) (w' : World) (q : Value) (ys : List Int) : Prop where
  is : ∃ A' C', q = .slice A' ys.length C' ∧ w'.ownsRow B 5 1 (.slice A' ys.length C') ys.length (ys.map (Value.int .u8)) ∧ ∀ x, A' = some x → (∃ y, A = some y ∧ y.block = x.block) ∨ x.block = w.heap.size
  gr : w.grownBy w' (Value.slice A n C).ownBlock

set_option maxRecDepth 100000 in
set_option maxHeartbeats 800000 in
theorem dPutDo_any {B : Nat} {w : World} {a A : Option Addr} {m c n C : Nat} {xs ys : List Int} (hI : Ints .u8 w a m c ys) (ho : w.ownsRow B 5 1 (.slice A n C) n (xs.map (Value.int .u8))) (u : Nat) (hu : u ≤ m) (hn : n + u ≤ 70368744177664) (hB : B ≤ w.heap.size) :
    Calls Tryz.prog 175 #[.slice a m c, .slice A n C, .int .i64 (u : Int)] w fun q w' => ∃ v, q = .returned v ∧ Became B w A n C w' v (xs ++ ys.take u) := by
  obtain ⟨i0, hi, hz0, hz1, hz2⟩ := info_u8b
  have hc := hI.2.1
  have hcut := run_cutHi (P := Tryz.prog) 121 5 Tryz.underlying121 (by kernel_rfl) a m c .i64 u (by omega)
  have hJ := hI.upTo u hu
  have hyl : (xs ++ ys.take u).length = n + u := by
    have := ho.1
    rw [List.length_map, Nat.mul_one] at this
    rw [List.length_append, List.length_take, hI.len]
    omega
  have hylH := Lib.hid hyl
  clear hI hc hyl
  go_enter Tryz.func175, Tryz.ntmps175
  go_wp2_with (at_builtin
               refine wpList_append_ints_tx rfl (.tmp 7) (.tmp 10) 34 121 5 rfl B 5 i0 (.int .u8 0) 1 Tryz.underlying34 Tryz.underlying121 hi hz0 hz1 hz2 rfl rfl ho rfl hJ ?_ ?_ hB ?_
               (unfold maxLen; omega)
               (omega)
               intro v5 w5 own5 g5 hat5
               refine RowKit.Hid.out ?_)
  refine Lib.hid ?_
  have hex : ∃ a5 c5, v5 = .slice a5 (n + u) c5 := own_slice own5
  obtain ⟨a5, c5, hv5⟩ := hex
  rw [hv5] at own5 hat5 ⊢
  rw [← List.map_append] at own5
  go_wp2
  go_ret
  refine ⟨_, rfl, ⟨a5, c5, by rw [hylH.out]; rfl, by rw [hylH.out]; exact own5, fun x hx => ?_⟩, g5⟩
  subst hx
  rcases hat5 with h | h
  · refine .inl ?_
    cases A with
    | none => cases h
    | some y => exact ⟨y, rfl, by injection h with h; exact h.symm⟩
  · exact .inr (by injection h)

set_option maxRecDepth 100000 in
set_option maxHeartbeats 800000 in
theorem dCutDo_any {B : Nat} {w : World} {A : Option Addr} {n C k : Nat} {xs : List Int} (ho : w.ownsRow B 5 1 (.slice A n C) n (xs.map (Value.int .u8))) (u : Nat) (hk : 0 < u → k ≤ n) :
    Calls Tryz.prog 194 #[.int .i64 (k : Int), .slice A n C, .int .i64 (u : Int)] w fun q w' => ∃ v, q = .returned v ∧ Became B w A n C w' v (if u = 0 then xs else xs.take k) := by
  have hl : xs.length = n := by have := ho.1; simpa using this
  have hnC : n ≤ C := by
    rcases ho.2 with ⟨hv, h0⟩ | ⟨g, cap, cur, hv, _, _, hnc, _⟩
    · omega
    · injection hv with _ _ h3; omega
  by_cases h0 : u = 0
  · subst h0
    rw [if_pos rfl]
    have hlH := Lib.hid hl
    clear hl
    go_enter Tryz.func194, Tryz.ntmps194
    go_wp2
    go_ret
    exact ⟨_, rfl, ⟨A, C, by rw [hlH.out]; rfl, by rw [hlH.out]; exact ho, fun x hx => .inl ⟨x, hx, rfl⟩⟩, grown_refl _ _⟩
  · rw [if_neg h0]
    have hk' := hk (by omega)
    have hcut := run_cutHi (P := Tryz.prog) 34 5 Tryz.underlying34 (by kernel_rfl) A n C .i64 k (by omega)
    have hu0 : ¬ (u : Int) = 0 := by omega
    have hO := own_upTo ho k hk'
    rw [← List.map_take] at hO
    have hl2 : (xs.take k).length = k := by rw [List.length_take]; omega
    have hlH := Lib.hid hl2
    clear hl hk hl2 ho
    go_enter Tryz.func194, Tryz.ntmps194
    go_wp2
    go_ret
    exact ⟨_, rfl, ⟨A, C, by rw [hlH.out]; rfl, by rw [hlH.out]; exact hO, fun x hx => .inl ⟨x, hx, rfl⟩⟩, grown_refl _ _⟩
end Go.Proofs.YtinmmhbiomcdoaaGreatDoor

/-
  What the landed file's behind comes to: what is kept, with so many units done, in new memory. Conditions: a file of at most 65536 bytes, 2^42 steps.
-/
namespace Go.Proofs.YtinmmhbiomcdoaaGreatDoor
open Go.RowKit

theorem StpAt.get {L : Nat → Nat} {P : Nat → Prop} {w : World} {i : Nat} {a : Option Addr} {c : Nat} {S : List StV} (h : StpAt L P w i a c S) (j : Nat) (hj : j < S.length) : ∃ b v s, a = some ⟨b, 0, none⟩ ∧ S[j]? = some s ∧ w.cell? ⟨b, j, none⟩ = some v ∧ StAt P w v s := by
  obtain ⟨vs, ho, hs⟩ := h.o
  obtain ⟨v, hv, hst⟩ := hs.2 j _ (List.getElem?_eq_getElem hj)
  rcases ho.2 with ⟨hv0, h0⟩ | ⟨g, cap, cur, hv0, _⟩
  · omega
  · injection hv0 with h1 h2 h3
    subst h1
    refine ⟨g, v, S[j], rfl, List.getElem?_eq_getElem hj, ?_, hst⟩
    rw [ho.cellAt j (by omega)]
    exact hv
theorem meth_put (v : Value) (w : World) : (method 371 121 v "mirador/disk.do").run Tryz.prog w = .ok (175, v) w := by kernel_rfl
theorem meth_cut (v : Value) (w : World) : (method 371 205 v "mirador/disk.do").run Tryz.prog w = .ok (194, v) w := by kernel_rfl
theorem Became.below {w0 w w' : World} {A : Option Addr} {n C : Nat} {q : Value} {ys : List Int} {xs : List Value} (h : Became w0.heap.size w A n C w' q ys) (ho : w.ownsRow w0.heap.size 5 1 (.slice A n C) n xs) (hb : Below w0.heap.size w0 w) : Below w0.heap.size w0 w' :=
  hb.grown h.gr hb.size (fun q hq => (ho.lt q hq).1)

set_option maxRecDepth 100000 in
set_option maxHeartbeats 2000000 in
theorem dBehind_any {L : Nat → Nat} {P : Nat → Prop} {w : World} {i g o : Nat} {x : FaV} {v : FlV} (u : Nat) (hx : FlAt L P w i x v) (c0 : w.cell? ⟨g, o, none⟩ = some (.slice x.ka v.K.length x.kc)) (c1 : w.cell? ⟨g, o + 1, none⟩ = some (.slice x.sa v.S.length x.sc)) (hok : okF v.K v.S) (hn : v.need ≤ 65536) (hu : u ≤ 1152921504606846976) (hs : v.S.length ≤ 4398046511104) (hB : ∀ b, P b ∨ isF i (L b) → b < w.heap.size) :
    Calls Tryz.prog 96 #[.pointer (some ⟨g, o, none⟩), .int .i64 (u : Int)] w fun q w' => Tells w q w' (doneL v.K v.S u) := by
  have hI := hx.k.i
  have hK : v.K.length ≤ 65536 := Nat.le_trans (kept_le _ _) hn
  have hC := pClone_any x.ka v.K.length x.kc v.K w hI (by omega)
  have hg : g < w.heap.size := World.block_lt_of_cell? w _ c0
  have hG := fun (j : Nat) (hj : j < v.S.length) => hx.s.get j hj
  have hlen := fun j => Nat.le_trans (Nat.le_trans (doneL_le v.K (v.S.take j) u) (needL_take_le v.K v.S j)) hn
  have hfit := fun j k h => cut_fits v.S v.K j k u hok h
  have hlenH := Lib.hid hlen
  have hfitH := Lib.hid hfit
  have hGH := Lib.hid hG
  have hBH := Lib.hid hB
  obtain ⟨N, hN⟩ : ∃ N, v.S.length = N := ⟨_, rfl⟩
  rw [hN] at c1 hs
  have hNH := Lib.hid hN
  clear hlen hfit hG hB hok hn hI hx hN
  go_enter Tryz.func96, Tryz.ntmps96
  go_wp2_with fail
  refine hC.mono ?_
  rintro q w1 ⟨b, c, rfl, ho, hB1⟩
  have d1 : w1.cell? ⟨g, o + 1, none⟩ = some (.slice x.sa N x.sc) := by rw [hB1.cell (p := ⟨g, o + 1, none⟩) hg]; exact c1
  go_wp2_with fail
  go_loopw [1, 5, 19] (fun l b i wr => ∃ (j : Nat) (B : Option Addr) (n C l0 : Nat), j ≤ N ∧ i = .int .i64 j ∧ l0 = u - unitsL (v.S.take j) ∧ l = .int .i64 (l0 : Int) ∧ b = .slice B n C ∧ wr.ownsRow w.heap.size 5 1 (.slice B n C) n ((doneL v.K (v.S.take j) u).map (Value.int .u8)) ∧ Below w.heap.size w wr) (fun _ _ i _ => N - (intOf i).toNat)
  case atStart => exact ⟨0, _, _, _, _, Nat.zero_le _, rfl, rfl, rfl, rfl, ho, hB1⟩
  case round =>
    clear d1 ho c0 c1 hB1
    obtain ⟨j, B, n, C, l, hj, rfl, hl, rfl, rfl, hO, hBw⟩ := hrel
    have hn5 : n ≤ 65536 := by have := hO.1; rw [List.length_map, Nat.mul_one] at this; rw [← this]; exact hlenH.out j
    have hl5 : l ≤ 1152921504606846976 := by rw [hl]; omega
    by_cases hlt : j < N
    · have hji : (j : Int) < (N : Int) := by omega
      obtain ⟨bk, sv, s, hsa, hSj, hc, hst⟩ := hGH.out j (by rw [hNH.out]; exact hlt)
      rw [hsa]
      have hbk : bk < w.heap.size := World.block_lt_of_cell? w _ hc
      have hcw : wr.cell? ⟨bk, j, none⟩ = some sv := by rw [hBw.cell (p := ⟨bk, j, none⟩) hbk]; exact hc
      have hstw : StAt P wr sv s := hst.same (fun b hb => hBw.block b (hBH.out b (.inl hb))) (fun _ h => h)
      have hU := uOf_any hstw
      have hsplit := unitsL_take v.S j s hSj
      have hact := doneL_take v.S j s hSj v.K u
      rw [← hl] at hact
      have hl2 : l - s.units = u - unitsL (v.S.take (j + 1)) := by rw [hsplit, hl]; omega
      have hactH := Lib.hid hact
      have hl2H := Lib.hid hl2
      have hlH := Lib.hid hl
      have hltH := Lib.hid hlt
      have hfj := hfitH.out j
      clear hc hst hbk hsplit hact hl2 hlt hj hl
      obtain ⟨un, hun⟩ : ∃ un, s.units = un := ⟨_, rfl⟩
      rw [hun] at hU
      have hw0 : wrap64 ((l : Int) - (l : Int)) = ((0 : Nat) : Int) := by unfold wrap64; omega
      by_cases hle : (l : Int) ≤ (un : Int)
      · cases s with
        | put xs =>
          obtain ⟨pa, pc, rfl, hpI, hpP⟩ := hstw
          have hme := meth_put (.slice pa xs.length pc)
          have hact2 : doneL v.K (v.S.take (j + 1)) u = doneL v.K (v.S.take j) u ++ xs.take l := by rw [hactH.out]; have h9 : xs.length = un := hun; simp only [StV.act, StV.units, h9]; rw [Nat.min_eq_left (by omega)]
          have hD := dPutDo_any hpI hO l (by have h9 : xs.length = un := hun; omega) (by have h9 : xs.length = un := hun; have h8 := hlenH.out (j + 1); rw [hact2, List.length_append, List.length_take] at h8; have := hO.1; rw [List.length_map, Nat.mul_one] at this; omega) hBw.size
          have hunH := Lib.hid hun
          have hact2H := Lib.hid hact2
          clear hun hact2 hpI hpP hfj hSj
          go_wp2_with fail
          refine hU.mono ?_
          rintro q w2 ⟨rfl, rfl⟩
          go_wp2_with fail
          refine hD.mono ?_
          rintro q w3 ⟨v3, rfl, hbc⟩
          rw [← hact2H.out] at hbc
          obtain ⟨D5, hD5⟩ : ∃ D5, doneL v.K (v.S.take (j + 1)) u = D5 := ⟨_, rfl⟩
          rw [hD5] at hbc
          have hD5H := Lib.hid hD5
          clear hD5
          obtain ⟨A5, C5, rfl, ho5, _⟩ := hbc.is
          have hB5 := hbc.below hO hBw
          go_wp2
          refine ⟨⟨j + 1, _, _, _, 0, by have := hltH.out; omega, by congr 1, by have := hl2H.out; rw [hunH.out] at this; omega, rfl, rfl, by rw [hD5H.out]; exact ho5, hB5⟩, by simp only [intOf]; have := hltH.out; omega⟩
        | cut k =>
          obtain rfl : sv = .iface 205 (.int .i64 (k : Int)) := hstw
          have hme := meth_cut (.int .i64 (k : Int))
          have hact2 : doneL v.K (v.S.take (j + 1)) u = if l = 0 then doneL v.K (v.S.take j) u else (doneL v.K (v.S.take j) u).take k := by rw [hactH.out]; have h9 : 1 = un := hun; simp only [StV.act, StV.units, h9]; rw [Nat.min_eq_left (by omega)]
          have hD := dCutDo_any (k := k) hO l (fun h => by have h9 : 1 = un := hun; have h8 := hfj k hSj (by have := hlH.out; omega); have := hO.1; rw [List.length_map, Nat.mul_one] at this; omega)
          have hunH := Lib.hid hun
          have hact2H := Lib.hid hact2
          clear hun hact2 hfj hSj
          go_wp2_with fail
          refine hU.mono ?_
          rintro q w2 ⟨rfl, rfl⟩
          go_wp2_with fail
          refine hD.mono ?_
          rintro q w3 ⟨v3, rfl, hbc⟩
          rw [← hact2H.out] at hbc
          obtain ⟨D5, hD5⟩ : ∃ D5, doneL v.K (v.S.take (j + 1)) u = D5 := ⟨_, rfl⟩
          rw [hD5] at hbc
          have hD5H := Lib.hid hD5
          clear hD5
          obtain ⟨A5, C5, rfl, ho5, _⟩ := hbc.is
          have hB5 := hbc.below hO hBw
          go_wp2
          refine ⟨⟨j + 1, _, _, _, 0, by have := hltH.out; omega, by congr 1, by have := hl2H.out; rw [hunH.out] at this; omega, rfl, rfl, by rw [hD5H.out]; exact ho5, hB5⟩, by simp only [intOf]; have := hltH.out; omega⟩
      · cases s with
        | put xs =>
          obtain ⟨pa, pc, rfl, hpI, hpP⟩ := hstw
          have hme := meth_put (.slice pa xs.length pc)
          have hact2 : doneL v.K (v.S.take (j + 1)) u = doneL v.K (v.S.take j) u ++ xs.take un := by rw [hactH.out]; have h9 : xs.length = un := hun; simp only [StV.act, StV.units, h9]; rw [Nat.min_eq_right (by omega)]
          have hD := dPutDo_any hpI hO un (by have h9 : xs.length = un := hun; omega) (by have h9 : xs.length = un := hun; have h8 := hlenH.out (j + 1); rw [hact2, List.length_append, List.length_take] at h8; have := hO.1; rw [List.length_map, Nat.mul_one] at this; omega) hBw.size
          have hunH := Lib.hid hun
          have hw1 : wrap64 ((l : Int) - (un : Int)) = ((l - un : Nat) : Int) := by unfold wrap64; omega
          have hact2H := Lib.hid hact2
          clear hun hact2 hpI hpP hfj hSj
          go_wp2_with fail
          refine hU.mono ?_
          rintro q w2 ⟨rfl, rfl⟩
          go_wp2_with fail
          refine hD.mono ?_
          rintro q w3 ⟨v3, rfl, hbc⟩
          rw [← hact2H.out] at hbc
          obtain ⟨D5, hD5⟩ : ∃ D5, doneL v.K (v.S.take (j + 1)) u = D5 := ⟨_, rfl⟩
          rw [hD5] at hbc
          have hD5H := Lib.hid hD5
          clear hD5
          obtain ⟨A5, C5, rfl, ho5, _⟩ := hbc.is
          have hB5 := hbc.below hO hBw
          go_wp2
          refine ⟨⟨j + 1, _, _, _, l - un, by have := hltH.out; omega, by congr 1, by have := hl2H.out; rw [hunH.out] at this; omega, by congr 1; omega, rfl, by rw [hD5H.out]; exact ho5, hB5⟩, by simp only [intOf]; have := hltH.out; omega⟩
        | cut k =>
          obtain rfl : sv = .iface 205 (.int .i64 (k : Int)) := hstw
          have hme := meth_cut (.int .i64 (k : Int))
          have hact2 : doneL v.K (v.S.take (j + 1)) u = if un = 0 then doneL v.K (v.S.take j) u else (doneL v.K (v.S.take j) u).take k := by rw [hactH.out]; have h9 : 1 = un := hun; simp only [StV.act, StV.units, h9]; rw [Nat.min_eq_right (by omega)]
          have hD := dCutDo_any (k := k) hO un (fun h => by have h9 : 1 = un := hun; have h8 := hfj k hSj (by have := hlH.out; omega); have := hO.1; rw [List.length_map, Nat.mul_one] at this; omega)
          have hunH := Lib.hid hun
          have hw1 : wrap64 ((l : Int) - (un : Int)) = ((l - un : Nat) : Int) := by unfold wrap64; omega
          have hact2H := Lib.hid hact2
          clear hun hact2 hfj hSj
          go_wp2_with fail
          refine hU.mono ?_
          rintro q w2 ⟨rfl, rfl⟩
          go_wp2_with fail
          refine hD.mono ?_
          rintro q w3 ⟨v3, rfl, hbc⟩
          rw [← hact2H.out] at hbc
          obtain ⟨D5, hD5⟩ : ∃ D5, doneL v.K (v.S.take (j + 1)) u = D5 := ⟨_, rfl⟩
          rw [hD5] at hbc
          have hD5H := Lib.hid hD5
          clear hD5
          obtain ⟨A5, C5, rfl, ho5, _⟩ := hbc.is
          have hB5 := hbc.below hO hBw
          go_wp2
          refine ⟨⟨j + 1, _, _, _, l - un, by have := hltH.out; omega, by congr 1, by have := hl2H.out; rw [hunH.out] at this; omega, by congr 1; omega, rfl, by rw [hD5H.out]; exact ho5, hB5⟩, by simp only [intOf]; have := hltH.out; omega⟩
    · obtain rfl : j = N := by omega
      have hji : ¬ (j : Int) < (j : Int) := by omega
      have hnn : (doneL v.K v.S u).length = n := by
        have := hO.1
        rw [List.length_map, Nat.mul_one] at this
        rw [List.take_of_length_le (by rw [hNH.out]; exact Nat.le_refl _)] at this
        exact this
      rw [List.take_of_length_le (by rw [hNH.out]; exact Nat.le_refl _)] at hO
      have hnnH := Lib.hid hnn
      clear hlt hj hnn hl
      go_wp2
      go_ret
      exact ⟨B, C, by rw [hnnH.out]; rfl, by rw [hnnH.out]; exact hO, hBw⟩
end Go.Proofs.YtinmmhbiomcdoaaGreatDoor

/-
  What the landed file's settle comes to: so many units are kept, and no steps are left. The disk's own block is written, and new memory. Conditions: a file of at most 65536 bytes, 2^42 steps.
-/
namespace Go.Proofs.YtinmmhbiomcdoaaGreatDoor
open Go.RowKit

/-- What a call that works on file i leaves. -/
structure WentF (i : Nat) (L : Nat → Nat) (P : Nat → Prop) (w : World) (L' : Nat → Nat) (P' : Nat → Prop) (w' : World) : Prop where
  m : Moved (fun b => L b = 1 ∨ isF i (L b)) w w'
  l : ∀ b, b < w.heap.size → L' b = L b
  p : ∀ b, P b → P' b
  q : ∀ b, P' b → P b ∨ w.heap.size ≤ b
  lab : LabAt L' P' w'
theorem WentF.went {i : Nat} {L L' : Nat → Nat} {P P' : Nat → Prop} {w w' : World} (h : WentF i L P w L' P' w') : Went L P w L' P' w' :=
  ⟨⟨h.m.1, fun b hb hn => h.m.2 b hb (fun he => hn (by
    show L b ≠ 0
    rcases he with he | he
    · omega
    · unfold isF at he; omega))⟩, h.l, h.p, h.q⟩
def FaV.pick (i j : Nat) (x y : FaV) : FaV := if i = j then y else x
theorem WentF.other {i j : Nat} {L L' : Nat → Nat} {P P' : Nat → Prop} {w w' : World} (h : WentF i L P w L' P' w') (hl : LabAt L P w) (hij : i ≠ j) {x : FaV} {v : FlV} (hx : FlAt L P w j x v) : FlAt L' P' w' j x v := by
  refine hx.same (fun b hb => ?_) h.p (fun b hb => h.l b (hl.l b (by unfold isF at hb; omega)))
  rcases hb with hb | hb
  · have := hl.p b hb
    exact h.m.2 b this.1 (by show ¬ (L b = 1 ∨ isF i (L b)); rw [this.2]; unfold isF; omega)
  · exact h.m.2 b (hl.l b (by unfold isF at hb; omega)) (by show ¬ (L b = 1 ∨ isF i (L b)); unfold isF at hb ⊢; omega)
/-- A disk of which file i was worked on. -/
theorem DkAt.put {i : Nat} (hi : i < 3) {L L' : Nat → Nat} {P P' : Nat → Prop} {w w' : World} {g : Nat} {D : DkV} {x0 x1 x2 y : FaV} {v : FlV} (h : DkAt L P w g D x0 x1 x2) (hw : WentF i L P w L' P' w') (hb : Blk w' g 92 (overV (dC D x0 x1 x2) (3 + 5 * i) (fC y v))) (hf : FlAt L' P' w' i y v) :
    ∃ y0 y1 y2, DkAt L' P' w' g (D.set i v) y0 y1 y2 := by
  have hg : L' g = 1 := by rw [hw.l g (h.lab.l g (by rw [h.g]; decide))]; exact h.g
  match i, hi with
  | 0, _ => exact ⟨y, x1, x2, hb, hg, hw.lab, hf, hw.other h.lab (by decide) h.f1, hw.other h.lab (by decide) h.f2⟩
  | 1, _ => exact ⟨x0, y, x2, hb, hg, hw.lab, hw.other h.lab (by decide) h.f0, hf, hw.other h.lab (by decide) h.f2⟩
  | 2, _ => exact ⟨x0, x1, y, hb, hg, hw.lab, hw.other h.lab (by decide) h.f0, hw.other h.lab (by decide) h.f1, hf⟩
/-- One more block's label. -/
def lab1 (L : Nat → Nat) (a : Option Addr) (r : Nat) : Nat → Nat := fun b => if a.map Addr.block = some b then r else L b
theorem lab1_at (L : Nat → Nat) {a : Option Addr} (r : Nat) {y : Addr} (h : a = some y) : lab1 L a r y.block = r := by
  subst h
  exact if_pos rfl
theorem lab1_ne (L : Nat → Nat) {a : Option Addr} (r b : Nat) (h : ∀ y, a = some y → y.block ≠ b) : lab1 L a r b = L b := by
  unfold lab1
  rw [if_neg]
  intro e
  cases a with
  | none => cases e
  | some y => injection e with e; exact h y rfl e
theorem lab1_or (L : Nat → Nat) {a : Option Addr} (r b : Nat) : (∃ y, a = some y ∧ y.block = b) ∨ lab1 L a r b = L b := by
  by_cases e : ∃ y, a = some y ∧ y.block = b
  · exact .inl e
  · exact .inr (lab1_ne L r b (fun y hy hb => e ⟨y, hy, hb⟩))
theorem built_fl (a b : Option Addr) (n m c d : Nat) (k : Int) : Tryz.prog.built 89 [(0, .slice a n c), (2, .slice b m d), (3, .int .i64 k)] = some #[.slice a n c, .slice none 0 0, .slice b m d, .int .i64 k, .int .i64 0] := by kernel_rfl

set_option maxRecDepth 100000 in
set_option maxHeartbeats 1000000 in
theorem dSettle_any {L : Nat → Nat} {P : Nat → Prop} {w : World} {i g o : Nat} {t : TypeId} {cs : List Value} {x : FaV} {v : FlV} {T : Nat} (u : Nat) (hl : LabAt L P w) (hg1 : L g = 1) (hx : FlAt L P w i x v) (hb : Blk w g t cs) (hc : ∀ j u, (fC x v)[j]? = some u → cs[o + j]? = some u) (hO : v.Ok T) (hT : T ≤ 4398046511104) (hu : u ≤ v.units) :
    Calls Tryz.prog 51 #[.pointer (some ⟨g, o, none⟩), .int .i64 (u : Int)] w fun q w' => ∃ y L' P', q = .returned (.tuple #[]) ∧ Blk w' g t (overV cs o (fC y (v.settle u))) ∧ FlAt L' P' w' i y (v.settle u) ∧ WentF i L P w L' P' w' := by
  have hgs := hb.lt
  obtain ⟨c0, c1, c2, c3, c4⟩ := fcells hb hc
  have hun := hO.un
  have hBH := dBehind_any u hx c0 c1 hO.ok hO.need (by omega) (Nat.le_trans hO.len hT) (fun b h => by
    rcases h with h | h
    · exact (hl.p b h).1
    · exact hl.l b (by unfold isF at h; omega))
  have hlen : (doneL v.K v.S u).length ≤ 65536 := Nat.le_trans (doneL_le _ _ _) hO.need
  have hfit : o + 5 ≤ cs.length := by
    have := (List.getElem?_eq_some_iff.1 (hc 4 _ rfl)).1
    omega
  obtain ⟨X, hX⟩ : ∃ X, doneL v.K v.S u = X := ⟨_, rfl⟩
  have hset : v.settle u = ⟨X, []⟩ := by rw [← hX]; rfl
  rw [hX] at hBH hlen
  rw [hset]
  clear hX hset c0 c1 c2 c3 c4 hun hO hx hc
  go_enter Tryz.func51, Tryz.ntmps51
  go_wp2_with fail
  refine hBH.mono ?_
  rintro q w1 ⟨b1, d1, rfl, ho1, hB1⟩
  have hC := pClone_any b1 X.length d1 X w1 (own_ints' ho1) (by omega)
  go_wp2_with fail
  refine hC.mono ?_
  rintro q w2 ⟨b2, d2, rfl, ho2, hB2⟩
  have hbt := built_fl b1 b2 X.length X.length d1 d2 (X.length : Int)
  have hB12 := hB1.trans (hB2.mono hB1.size)
  have hb2 : Blk w2 g t cs := hb.keep hB12 hgs
  have hrow : IsRow Tryz.prog 89 ([.slice b1 X.length d1, .slice none 0 0, .slice b2 X.length d2, .int .i64 (X.length : Int), .int .i64 0] : List Value).length := rowFl
  have h1 : ∀ u ∈ ([.slice b1 X.length d1, .slice none 0 0, .slice b2 X.length d2, .int .i64 (X.length : Int), .int .i64 0] : List Value), u.oneCell' = true := by
    intro u hu
    simp only [List.mem_cons, List.not_mem_nil, or_false] at hu
    rcases hu with rfl | rfl | rfl | rfl | rfl <;> rfl
  have hfit2 : o + ([.slice b1 X.length d1, .slice none 0 0, .slice b2 X.length d2, .int .i64 (X.length : Int), .int .i64 0] : List Value).length ≤ cs.length := hfit
  go_wp2_with (with_reducible refine build_row rfl 89 #[(0, .tmp 9), (2, .tmp 11), (3, .tmp 13)] rfl (cells := #[.slice b1 X.length d1, .slice none 0 0, .slice b2 X.length d2, .int .i64 (X.length : Int), .int .i64 0]) ?_ ?_
               (refine Eq.trans (congrArg _ ?_) hbt; kernel_rfl)
               refine RowKit.Hid.out ?_)
  refine Lib.hid ?_
  go_wp2_with (with_reducible refine wpList_store_part (off := o) rfl 89 _ _ rfl rfl rfl hb2 hrow hfit2 h1 ?_
               intro w3 hb3 hg3
               refine RowKit.Hid.out ?_)
  refine Lib.hid ?_
  have hs1 := hB1.size
  have hs2 := hB2.size
  have hs3 := hg3.size
  have hK : ∀ y, b1 = some y → w.heap.size ≤ y.block ∧ y.block < w1.heap.size := fun y hy => ho1.lt y.block (by rw [hy]; rfl)
  have hH : ∀ y, b2 = some y → w1.heap.size ≤ y.block ∧ y.block < w2.heap.size := fun y hy => ho2.lt y.block (by rw [hy]; rfl)
  have k3 : ∀ b, w.heap.size ≤ b → b < w2.heap.size → w3.heap[b]? = w2.heap[b]? := fun b hb1 hb2 => hg3.block b hb2 (fun e => by injection e; omega)
  have hL0 : ∀ b, w.heap.size ≤ b → L b = 0 := fun b hb => by
    by_cases h0 : L b = 0
    · exact h0
    · have := hl.l b h0; omega
  have hfin : ∃ y L' P', Blk w3 g t (overV cs o (fC y ⟨X, []⟩)) ∧ FlAt L' P' w3 i y ⟨X, []⟩ ∧ WentF i L P w L' P' w3 := by
    refine ⟨⟨b1, d1, none, 0, b2, d2⟩, lab1 L b2 (2 + 2 * i), fun b => P b ∨ ∃ y, b1 = some y ∧ y.block = b, hb3, ⟨⟨?_, fun y hy => .inr ⟨y, hy, rfl⟩⟩, ⟨⟨[], World.ownsRow_nil _ _ _ _, StsAt.nil⟩, fun y hy => by cases hy⟩, ⟨?_, fun y hy => lab1_at L _ hy⟩⟩, ⟨?_, ?_, fun b h => .inl h, ?_, ?_, ?_⟩⟩
    · refine ints_same ((own_ints' ho1).keep hB2) (fun y hy => ?_)
      have := hK y hy
      exact k3 _ this.1 (by omega)
    · refine own_same (own_weak ho2 (Nat.zero_le _)) (fun b hb => ?_)
      obtain ⟨y, hy, hyb⟩ := slice_block hb
      have := hH y hy
      exact k3 _ (by omega) (by omega)
    · refine ⟨⟨hg3.os.trans hB12.os, hg3.tape.trans hB12.tape, hg3.output.trans hB12.output, by omega, fun _ h => absurd h (Nat.not_lt_zero _)⟩, fun b hb hn => ?_⟩
      rw [hg3.block b (by omega) (fun e => by injection e with e; exact hn (.inl (e ▸ hg1))), hB12.block b hb]
    · intro b hb
      exact lab1_ne L _ b (fun y hy => by have := hH y hy; omega)
    · rintro b (hb | ⟨y, hy, hb⟩)
      · exact .inl hb
      · have := hK y hy
        exact .inr (by omega)
    · intro b hb
      rcases lab1_or L (a := b2) (2 + 2 * i) b with ⟨y, hy, hyb⟩ | he
      · have := hH y hy; omega
      · rw [he] at hb
        have := hl.l b hb
        omega
    · rintro b (hb | ⟨z, hz, hb⟩)
      · have h5 := hl.p b hb
        exact ⟨by omega, by rw [lab1_ne L _ b (fun y hy => by have := hH y hy; omega)]; exact h5.2⟩
      · have h6 := hK z hz
        exact ⟨by omega, by rw [lab1_ne L _ b (fun y hy => by have := hH y hy; omega)]; exact hL0 b (by omega)⟩
  obtain ⟨y, L', P', q1, q2, q3⟩ := hfin
  clear hb3 hb2 hC hBH ho1 ho2 hK hH k3 hL0 hb hl
  go_wp2
  (try simp only [Exit.inBlock, Exit.then])
  first
    | go_end0
    | refine bodyPost_ret (results_none rfl _ _ _) rfl ?_
  exact ⟨y, L', P', rfl, q1, q2, q3⟩
end Go.Proofs.YtinmmhbiomcdoaaGreatDoor

/-
  Five cells of a row, four of them written one by one: a part laid over the row. No Go function is spoken of. No conditions.
-/
namespace Go.Proofs.YtinmmhbiomcdoaaGreatDoor
open Go.RowKit

theorem overV_low (cs ys : List Value) (o i : Nat) (ho : o ≤ cs.length) (h : i < o) : (overV cs o ys)[i]? = cs[i]? := by
  unfold overV
  rw [List.getElem?_append_left (by rw [List.length_take]; omega), List.getElem?_take_of_lt h]
theorem overV_mid (cs ys : List Value) (o j : Nat) (ho : o ≤ cs.length) (h : j < ys.length) : (overV cs o ys)[o + j]? = ys[j]? := by
  unfold overV
  have hl : (cs.take o).length = o := by rw [List.length_take]; omega
  rw [List.getElem?_append_right (by omega), hl, Nat.add_sub_cancel_left, List.getElem?_append_left h]
theorem overV_high (cs ys : List Value) (o i : Nat) (ho : o ≤ cs.length) (h : o + ys.length ≤ i) : (overV cs o ys)[i]? = cs[i]? := by
  unfold overV
  have hl : (cs.take o).length = o := by rw [List.length_take]; omega
  rw [List.getElem?_append_right (by omega), hl, List.getElem?_append_right (by omega), List.getElem?_drop]
  congr 1
  omega
theorem sets_over (cs : List Value) (o : Nat) (k a h n u : Value) (hl : o + 5 ≤ cs.length) (hk : cs[o]? = some k) : (((cs.set (o + 1) a).set (o + 4) u).set (o + 2) h).set (o + 3) n = overV cs o [k, a, h, n, u] := by
  apply List.ext_getElem?
  intro i
  by_cases h1 : i < o
  · rw [overV_low _ _ _ _ (by omega) h1]
    rw [List.getElem?_set_ne (by omega), List.getElem?_set_ne (by omega), List.getElem?_set_ne (by omega), List.getElem?_set_ne (by omega)]
  · by_cases h2 : o + 5 ≤ i
    · rw [overV_high _ _ _ _ (by omega) h2]
      rw [List.getElem?_set_ne (by omega), List.getElem?_set_ne (by omega), List.getElem?_set_ne (by omega), List.getElem?_set_ne (by omega)]
    · obtain ⟨j, rfl⟩ : ∃ j, i = o + j := ⟨i - o, by omega⟩
      have hj : j < 5 := by omega
      rw [overV_mid _ _ _ _ (by omega) hj]
      match j, hj with
      | 0, _ =>
        rw [List.getElem?_set_ne (by omega), List.getElem?_set_ne (by omega), List.getElem?_set_ne (by omega), List.getElem?_set_ne (by omega)]
        exact hk
      | 1, _ =>
        rw [List.getElem?_set_ne (by omega), List.getElem?_set_ne (by omega), List.getElem?_set_ne (by omega), List.getElem?_set_self (by omega)]
        rfl
      | 2, _ =>
        rw [List.getElem?_set_ne (by omega), List.getElem?_set_self (by simp only [List.length_set]; omega)]
        rfl
      | 3, _ =>
        rw [List.getElem?_set_self (by simp only [List.length_set]; omega)]
        rfl
      | 4, _ =>
        rw [List.getElem?_set_ne (by omega), List.getElem?_set_ne (by omega), List.getElem?_set_self (by simp only [List.length_set]; omega)]
        rfl
theorem info_stp : ∃ i, Tryz.prog.info? 169 = some i ∧ i.zero = some .nilIface ∧ i.size = 1 ∧ i.bytes = 16 := by
  have h : (Tryz.prog.info? 169).map (fun i => (i.zero, i.size, i.bytes)) = some (some .nilIface, 1, 16) := by kernel_rfl
  cases hq : Tryz.prog.info? 169 with
  | none => simp [hq] at h
  | some i => rw [hq] at h; simp at h; exact ⟨i, rfl, h.1, h.2.1, h.2.2⟩
theorem StAt.one {P : Nat → Prop} {w : World} {v : Value} {s : StV} (h : StAt P w v s) : v.oneCell' = true := by
  cases s with
  | put xs => obtain ⟨a, c, rfl, _⟩ := h; rfl
  | cut n => obtain rfl : v = _ := h; rfl
end Go.Proofs.YtinmmhbiomcdoaaGreatDoor

/-
  What becomes of a file by a step more: a lemma on memory behind the walk. No Go function is spoken of. No conditions.
-/
namespace Go.Proofs.YtinmmhbiomcdoaaGreatDoor
open Go.RowKit

/-- Only blocks of F, and new ones, were written: from one block's row. -/
theorem moved_row {F : Nat → Prop} {w w' : World} {r : Option Nat} (h : w.grownBy w' r) (hF : ∀ b, r = some b → F b) : Moved F w w' :=
  ⟨⟨h.os, h.tape, h.output, h.size, fun _ h => absurd h (Nat.not_lt_zero _)⟩, fun b hb hn => h.block b hb (fun e => hn (hF b e.symm))⟩
theorem Moved.wide {F G : Nat → Prop} {w w' : World} (h : Moved F w w') (hG : ∀ b, b < w.heap.size → F b → G b) : Moved G w w' := ⟨h.1, fun b hb hn => h.2 b hb (fun hf => hn (hG b hb hf))⟩
/-- Behind a first step, where new blocks may have come. -/
theorem Moved.next {F : Nat → Prop} {w w1 w2 : World} (m1 : Moved F w w1) (m2 : Moved (fun b => F b ∨ w.heap.size ≤ b) w1 w2) : Moved F w w2 :=
  ⟨m1.1.trans m2.1, fun b hb hf => (m2.2 b (Nat.lt_of_lt_of_le hb m1.size) (fun h => h.elim hf (fun h => by omega))).trans (m1.2 b hb hf)⟩
theorem take_fin {L : Nat → Nat} {P : Nat → Prop} {w0 w1 w2 w4 w5 w7 : World} {i g : Nat} {x : FaV} {v : FlV} {s : StV} {sv v5 : Value} {vs : List Value} {a2 : Option Addr} {c2 M n : Nat} (hl : LabAt L P w0) (hg1 : L g = 1) (hx : FlAt L P w0 i x v) (hst : StAt P w0 sv s) (hvs : StsAt P w0 vs v.S) (hM : v.S.length = M)
    (hB1 : Below w0.heap.size w0 w1) (own2 : w2.ownsRow 0 169 1 (.slice a2 (M + 1) c2) (M + 1) (vs ++ [sv])) (g2 : w1.grownBy w2 (Value.slice x.sa M x.sc).ownBlock) (hat2 : (Value.slice a2 (M + 1) c2).ownBlock = (Value.slice x.sa M x.sc).ownBlock ∨ (Value.slice a2 (M + 1) c2).ownBlock = some w1.heap.size)
    (g4 : w2.grownBy w4 (some g)) (hbc : Became 0 w4 x.ha n x.hc w5 v5 (v.step s).held) (g7 : w5.grownBy w7 (some g)) :
    ∃ y L', fC y (v.step s) = [.slice x.ka v.K.length x.kc, .slice a2 (M + 1) c2, v5, .int .i64 ((v.step s).need : Nat), .int .i64 ((v.step s).units : Nat)] ∧ FlAt L' P w7 i y (v.step s) ∧ WentF i L P w0 L' P w7 := by
  obtain ⟨a5, c5, rfl, own5, hat5⟩ := hbc.is
  have hgr5 := hbc.gr
  have hgl : g < w0.heap.size := hl.l g (by omega)
  have hs1 := hB1.size
  have hs2 := g2.size
  have hs4 := g4.size
  have hs5 := hgr5.size
  have hs7 := g7.size
  have hSb : ∀ b, (Value.slice x.sa M x.sc).ownBlock = some b → L b = 3 + 2 * i ∧ b < w0.heap.size := fun b hb => by
    obtain ⟨z, hz, hzb⟩ := slice_block hb
    have h1 := hx.s.l z hz
    rw [hzb] at h1
    exact ⟨h1, hl.l b (by omega)⟩
  have hHb : ∀ b, (Value.slice x.ha n x.hc).ownBlock = some b → L b = 2 + 2 * i ∧ b < w0.heap.size := fun b hb => by
    obtain ⟨z, hz, hzb⟩ := slice_block hb
    have h1 := hx.h.l z hz
    rw [hzb] at h1
    exact ⟨h1, hl.l b (by omega)⟩
  have k2 : ∀ b, b < w0.heap.size → L b ≠ 3 + 2 * i → w2.heap[b]? = w0.heap[b]? := fun b hb hn => by
    rw [g2.block b (by omega) (fun e => hn (hSb b e.symm).1), hB1.block b hb]
  have k4 : ∀ b, b < w2.heap.size → b ≠ g → w4.heap[b]? = w2.heap[b]? := fun b hb hn => g4.block b hb (fun e => by injection e with e; exact hn e)
  have k5 : ∀ b, b < w4.heap.size → L b ≠ 2 + 2 * i → w5.heap[b]? = w4.heap[b]? := fun b hb hn => hgr5.block b hb (fun e => hn (hHb b e.symm).1)
  have k7 : ∀ b, b < w5.heap.size → b ≠ g → w7.heap[b]? = w5.heap[b]? := fun b hb hn => g7.block b hb (fun e => by injection e with e; exact hn e)
  have h2 : ∀ z, a2 = some z → z.block < w2.heap.size ∧ ((z.block < w0.heap.size ∧ L z.block = 3 + 2 * i) ∨ (w0.heap.size ≤ z.block)) := fun z hz => by
    have e : (Value.slice a2 (M + 1) c2).ownBlock = some z.block := by rw [hz]; rfl
    refine ⟨(own2.lt z.block e).2, ?_⟩
    rcases hat2 with h | h
    · rw [e] at h
      have := hSb z.block h.symm
      exact .inl ⟨this.2, this.1⟩
    · rw [e] at h
      injection h with h
      exact .inr (by omega)
  have h5 : ∀ z, a5 = some z → z.block < w5.heap.size ∧ ((z.block < w0.heap.size ∧ L z.block = 2 + 2 * i) ∨ (w4.heap.size ≤ z.block)) := fun z hz => by
    refine ⟨(own5.lt z.block (by rw [hz]; rfl)).2, ?_⟩
    rcases hat5 z hz with ⟨y, hy, hyb⟩ | h
    · have h1 := hx.h.l y hy
      rw [hyb] at h1
      exact .inl ⟨hl.l _ (by omega), h1⟩
    · exact .inr (by omega)
  have hL0 : ∀ b, w0.heap.size ≤ b → L b = 0 := fun b hb => by
    by_cases h0 : L b = 0
    · exact h0
    · have := hl.l b h0; omega
  have hLL : ∀ b, b < w0.heap.size → lab1 (lab1 L a2 (3 + 2 * i)) a5 (2 + 2 * i) b = L b := fun b hb => by
    rcases lab1_or (lab1 L a2 (3 + 2 * i)) (a := a5) (2 + 2 * i) b with ⟨z, hz, hzb⟩ | he
    · rw [← hzb, lab1_at _ _ hz]
      have := h5 z hz
      rcases this.2 with h | h
      · exact h.2.symm
      · omega
    · rw [he]
      rcases lab1_or L (a := a2) (3 + 2 * i) b with ⟨z, hz, hzb⟩ | he
      · rw [← hzb, lab1_at _ _ hz]
        have := h2 z hz
        rcases this.2 with h | h
        · exact h.2.symm
        · omega
      · exact he
  have hPk : ∀ b, P b → w7.heap[b]? = w0.heap[b]? := fun b hb => by
    have := hl.p b hb
    have hbg : b ≠ g := fun e => by rw [e] at this; omega
    rw [k7 b (by omega) hbg, k5 b (by omega) (by omega), k4 b (by omega) hbg, k2 b (by omega) (by omega)]
  refine ⟨⟨x.ka, x.kc, a2, c2, a5, c5⟩, lab1 (lab1 L a2 (3 + 2 * i)) a5 (2 + 2 * i), ?_, ⟨hx.k.same hPk (fun _ h => h), ⟨⟨vs ++ [sv], ?_, (hvs.snoc hst).same hPk (fun _ h => h)⟩, ?_⟩, ⟨?_, fun z hz => lab1_at _ _ hz⟩⟩, ⟨⟨⟨?_, ?_, ?_, by omega, fun _ h => absurd h (Nat.not_lt_zero _)⟩, ?_⟩, hLL, fun _ h => h, fun _ h => .inl h, ?_, ?_⟩⟩
  · have hlen : (v.step s).S.length = M + 1 := by show (v.S ++ [s]).length = _; rw [List.length_append, hM]; rfl
    show [Value.slice x.ka v.K.length x.kc, .slice a2 (v.step s).S.length c2, .slice a5 (v.step s).held.length c5, _, _] = _
    rw [hlen]
  · have hlen : (v.step s).S.length = M + 1 := by show (v.S ++ [s]).length = _; rw [List.length_append, hM]; rfl
    show w7.ownsRow 0 _ 1 (.slice a2 (v.step s).S.length c2) (v.step s).S.length (vs ++ [sv])
    rw [hlen]
    refine own_same own2 (fun b hb => ?_)
    obtain ⟨z, hz, hzb⟩ := slice_block hb
    have := h2 z hz
    rw [hzb] at this
    have hbg : b ≠ g := fun e => by subst e; rcases this.2 with h | h <;> omega
    have hb2 : L b ≠ 2 + 2 * i := by
      rcases this.2 with h | h
      · omega
      · rw [hL0 b h]; omega
    rw [k7 b (by omega) hbg, k5 b (by omega) hb2, k4 b (by omega) hbg]
  · intro z hz
    rw [lab1_ne _ _ _ (fun y hy e => ?_), lab1_at _ _ hz]
    have q2 := h2 z hz
    have q5 := h5 y hy
    rw [e] at q5
    rcases q2.2 with p2 | p2 <;> rcases q5.2 with p5 | p5 <;> omega
  · refine own_same own5 (fun b hb => ?_)
    obtain ⟨z, hz, hzb⟩ := slice_block hb
    have := h5 z hz
    rw [hzb] at this
    exact k7 b this.1 (fun e => by subst e; rcases this.2 with h | h <;> omega)
  · exact g7.os.trans (hgr5.os.trans (g4.os.trans (g2.os.trans hB1.os)))
  · exact g7.tape.trans (hgr5.tape.trans (g4.tape.trans (g2.tape.trans hB1.tape)))
  · exact g7.output.trans (hgr5.output.trans (g4.output.trans (g2.output.trans hB1.output)))
  · intro b hb hn
    have hn1 : L b ≠ 1 := fun e => hn (.inl e)
    have hn2 : L b ≠ 2 + 2 * i := fun e => hn (.inr (.inl e))
    have hn3 : L b ≠ 3 + 2 * i := fun e => hn (.inr (.inr e))
    have hbg : b ≠ g := fun e => hn1 (e ▸ hg1)
    rw [k7 b (by omega) hbg, k5 b (by omega) hn2, k4 b (by omega) hbg, k2 b hb hn3]
  · intro b hb
    rcases lab1_or (lab1 L a2 (3 + 2 * i)) (a := a5) (2 + 2 * i) b with ⟨z, hz, hzb⟩ | he
    · have := (h5 z hz).1; omega
    · rw [he] at hb
      rcases lab1_or L (a := a2) (3 + 2 * i) b with ⟨z, hz, hzb⟩ | he
      · have := (h2 z hz).1; omega
      · rw [he] at hb
        have := hl.l b hb; omega
  · intro b hb
    have := hl.p b hb
    exact ⟨by omega, by rw [hLL b this.1]; exact this.2⟩
end Go.Proofs.YtinmmhbiomcdoaaGreatDoor

/-
  What the landed file's take comes to: a step more. The disk's own block, what the file holds and its steps are written, and new memory. Conditions: a file of at most 65536 bytes, 2^42 steps.
-/
namespace Go.Proofs.YtinmmhbiomcdoaaGreatDoor
open Go.RowKit

theorem ahead_put (v : Value) (w : World) : (nilAhead 371 121 v "mirador/disk.do").run Tryz.prog w = .ok (some false) w := by kernel_rfl
theorem ahead_cut (v : Value) (w : World) : (nilAhead 371 205 v "mirador/disk.do").run Tryz.prog w = .ok (some false) w := by kernel_rfl

set_option maxRecDepth 100000 in
set_option maxHeartbeats 2000000 in
theorem dTake_put {L : Nat → Nat} {P : Nat → Prop} {w : World} {i g o : Nat} {t : TypeId} {cs : List Value} {x : FaV} {v : FlV} {T : Nat} {a : Option Addr} {c : Nat} {xs : List Int} (hl : LabAt L P w) (hg1 : L g = 1) (hx : FlAt L P w i x v) (hb : Blk w g t cs) (hc : ∀ j u, (fC x v)[j]? = some u → cs[o + j]? = some u) (hO : v.Ok T) (hT : T < 4398046511104) (hI : Ints .u8 w a xs.length c xs) (hP : ∀ z, a = some z → P z.block) (hn : v.held.length + xs.length ≤ 65536) :
    Calls Tryz.prog 61 #[.pointer (some ⟨g, o, none⟩), .iface 121 (.slice a xs.length c)] w fun q w' => ∃ y L', q = .returned (.tuple #[]) ∧ Blk w' g t (overV cs o (fC y (v.step (.put xs)))) ∧ FlAt L' P w' i y (v.step (.put xs)) ∧ WentF i L P w L' P w' := by
  obtain ⟨i7, hi7, hz0, hz1, hz2⟩ := info_stp
  have hst : StAt P w (.iface 121 (.slice a xs.length c)) (.put xs) := ⟨a, c, rfl, hI, hP⟩
  have hU := uOf_any hst
  have hme := meth_put (.slice a xs.length c)
  have hna := ahead_put (.slice a xs.length c)
  have hgs := hb.lt
  obtain ⟨c0, c1, c2, c3, c4⟩ := fcells hb hc
  have hlen := hO.len
  have hun := hO.un
  have hnd := hO.need
  have hhl := FlV.held_le v
  have hfit : o + 5 ≤ cs.length := by
    have := (List.getElem?_eq_some_iff.1 (hc 4 _ rfl)).1
    omega
  obtain ⟨vs, hvo, hvs⟩ := hx.s.o
  have hvo1 : (w.alloc (.cells #[.iface 121 (.slice a xs.length c)] 169)).ownsRow 0 169 1 (.slice x.sa v.S.length x.sc) v.S.length vs := own_same hvo (fun b hb' => (below1 w _).block b (hvo.lt b hb').2)
  have hb1 : Blk (w.alloc (.cells #[.iface 121 (.slice a xs.length c)] 169)) g t cs := hb.alloc _
  have hB1 := below1 w (.cells #[.iface 121 (.slice a xs.length c)] 169)
  have hnews := cell_one_new w (.iface 121 (.slice a xs.length c)) 169
  have hone : ∀ u ∈ ([.iface 121 (.slice a xs.length c)] : List Value), u.oneCell' = true := by
    intro u hu
    simp only [List.mem_singleton] at hu
    rw [hu]
    exact hst.one
  obtain ⟨M, hM⟩ : ∃ M, v.S.length = M := ⟨_, rfl⟩
  rw [hM] at hvo1 c1
  have hMH := Lib.hid hM
  clear hM
  go_enter Tryz.func61, Tryz.ntmps61
  go_wp2_with fail
  refine hU.mono ?_
  rintro q w0 ⟨rfl, hw0⟩
  subst hw0
  go_wp2_with (at_builtin
               refine wpList_append_own_at _ rfl (.tmp 11) (.tmp 13) 87 rfl 0 169 i7 .nilIface 1 16 Tryz.underlying87 hi7 hz0 hz1 hz2 rfl (by decide) _ M vs rfl hvo1 ⟨w0.heap.size, 0, none⟩ 1 1 [.iface 121 (.slice a xs.length c)] rfl rfl hnews hone ?_ ?_ (Nat.zero_le _) ?_
               (have := hMH.out; unfold maxLen; omega)
               (have := hMH.out; omega)
               intro v2 w2 own2 g2 hnil2 hat2
               refine RowKit.Hid.out ?_)
  refine Lib.hid ?_
  have hex : ∃ a2 d2, v2 = .slice a2 (M + 1) d2 := own_slice own2
  obtain ⟨a2, d2, hv2⟩ := hex
  subst hv2
  have own2' := own2
  have hat2' : (Value.slice a2 (M + 1) d2).ownBlock = (Value.slice x.sa M x.sc).ownBlock ∨ (Value.slice a2 (M + 1) d2).ownBlock = some (w0.alloc (.cells #[.iface 121 (.slice a xs.length c)] 169)).heap.size := hat2
  have g2' : (w0.alloc (.cells #[.iface 121 (.slice a xs.length c)] 169)).grownBy w2 (Value.slice x.sa M x.sc).ownBlock := g2
  have hgne : some g ≠ (Value.slice x.sa M x.sc).ownBlock := fun e => by
    obtain ⟨z, hz, hzb⟩ := slice_block e.symm
    have h9 := hx.s.l z hz
    rw [hzb] at h9
    omega
  have hb2 : Blk w2 g t cs := hb1.grown g2' hgne
  have e1 := hb2.cell (o + 1)
  rw [hc 1 _ rfl] at e1
  have f1 := hb2.frozen (o + 1)
  have B3 := hb2.set (o + 1) (.slice a2 (M + 1) d2)
  have e4 := B3.cell (o + 4)
  rw [List.getElem?_set_ne (by omega), hc 4 _ rfl] at e4
  have f4 := B3.frozen (o + 4)
  have B4 := B3.set (o + 4) (.int .i64 ((v.units : Int) + (xs.length : Int)))
  obtain ⟨cs4, hcs4⟩ : ∃ c, (cs.set (o + 1) (.slice a2 (M + 1) d2)).set (o + 4) (.int .i64 ((v.units : Int) + (xs.length : Int))) = c := ⟨_, rfl⟩
  rw [hcs4] at B4
  have g4 : w2.grownBy ((w2.setCell ⟨g, o + 1, none⟩ (.slice a2 (M + 1) d2)).setCell ⟨g, o + 4, none⟩ (.int .i64 ((v.units : Int) + (xs.length : Int)))).drew (some g) := grown_drew (grown_trans (grown_setCell _ _ _ _) (grown_setCell _ _ _ _))
  have B4D : Blk ((w2.setCell ⟨g, o + 1, none⟩ (.slice a2 (M + 1) d2)).setCell ⟨g, o + 4, none⟩ (.int .i64 ((v.units : Int) + (xs.length : Int)))).drew g t cs4 := B4
  have hmid : ∀ b, b < w0.heap.size → L b ≠ 1 → L b ≠ 3 + 2 * i → ((w2.setCell ⟨g, o + 1, none⟩ (.slice a2 (M + 1) d2)).setCell ⟨g, o + 4, none⟩ (.int .i64 ((v.units : Int) + (xs.length : Int)))).drew.heap[b]? = w0.heap[b]? := fun b hb0 h1 h3 => by
    have hz1 := hB1.size
    have hz2 := g2'.size
    rw [g4.block b (by omega) (fun e => by injection e with e; exact h1 (e ▸ hg1)), g2'.block b (by omega) (fun e => by
      obtain ⟨z, hz, hzb⟩ := slice_block e.symm
      have h9 := hx.s.l z hz
      rw [hzb] at h9
      exact h3 h9), hB1.block b hb0]
  obtain ⟨V, hV⟩ : ∃ V, ((w2.setCell ⟨g, o + 1, none⟩ (.slice a2 (M + 1) d2)).setCell ⟨g, o + 4, none⟩ (.int .i64 ((v.units : Int) + (xs.length : Int)))).drew = V := ⟨_, rfl⟩
  rw [hV] at g4 B4D hmid
  have hVH := Lib.hid hV
  have hH4 : V.ownsRow 0 5 1 (.slice x.ha v.held.length x.hc) v.held.length (v.held.map (Value.int .u8)) := own_same hx.h.o (fun b hb => by
    obtain ⟨z, hz, hzb⟩ := slice_block hb
    have h9 := hx.h.l z hz
    rw [hzb] at h9
    exact hmid b (hl.l b (by omega)) (by omega) (by omega))
  have hI4 : Ints .u8 V a xs.length c xs := ints_same hI (fun z hz => by have h9 := hl.p _ (hP z hz); exact hmid _ h9.1 (by omega) (by omega))
  have hD := dPutDo_any hI4 hH4 xs.length (Nat.le_refl _) (by omega) (Nat.zero_le _)
  rw [List.take_length, ← StV.all_put, ← FlV.step_held] at hD
  have e2 := B4D.cell (o + 2)
  rw [← hcs4, List.getElem?_set_ne (by omega), List.getElem?_set_ne (by omega), hc 2 _ rfl] at e2
  have hlenV := own2.lt
  have hcs4H := Lib.hid hcs4
  have hcH := Lib.hid hc
  have ownH := Lib.hid own2'
  have hatH := Lib.hid hat2'
  have hxH := Lib.hid hx
  have hlH := Lib.hid hl
  have hstH := Lib.hid hst
  have hgrH := Lib.hid g2'
  have hBHH := Lib.hid hB1
  have huN : StV.units (.put xs) = xs.length := rfl
  clear hV hmid B4 g2 g2' hcs4 own2 own2' hat2 hat2' hvo hvo1 hnews hone c0 c1 c2 c3 c4 hb2 hnil2 hgne hb1 hB1 hU hi7 hz0 hz1 hz2 hb
  go_wp2_with fail
  refine region_seqS (fun _ => True) (by kernel_rfl) trivial ?_
  simp only [pairs, Nat.reduceAdd]
  rw [hVH.out]
  repeat (first
    | (refine SeqS.take (v := ?_) (by first | assumption | trivial) (by kernel_rfl) (by decide +kernel) (by decide +kernel) (Or.inl ⟨by rfl, ?_⟩) ?_
       rotate_left
       focus
         intro w' hb'
         go_simp
         with_reducible rfl
       simp only [Act.put, List.setIfInBounds_toArray, List.set_cons_zero, List.set_cons_succ])
    | (refine SeqS.take (v := ?_) (by first | assumption | trivial) (by kernel_rfl) (by decide +kernel) (by decide +kernel) (Or.inl ⟨by rfl, ?_⟩) ?_
       rotate_left
       focus
         intro w' hb'
         have d0 := hna
         go_simp
         with_reducible rfl
       simp only [Act.put, List.setIfInBounds_toArray, List.set_cons_zero, List.set_cons_succ])
    | (refine SeqS.take (v := undef) (by first | assumption | trivial) (by kernel_rfl) (by decide +kernel) (by decide +kernel) (Or.inr ⟨by rfl, rfl⟩) ?_
       simp only [Act.put, List.setIfInBounds_toArray, List.set_cons_zero, List.set_cons_succ])
    | (refine SeqS.take1 (v := ?_) (by first | assumption | trivial) (by kernel_rfl) (by decide +kernel) (by decide +kernel) (Or.inl ⟨by rfl, ?_⟩) ?_
       rotate_left
       focus
         intro w' hb'
         go_simp
         with_reducible rfl
       simp only [Act.put, List.setIfInBounds_toArray, List.set_cons_zero, List.set_cons_succ])
    | (refine SeqS.take1 (v := ?_) (by first | assumption | trivial) (by kernel_rfl) (by decide +kernel) (by decide +kernel) (Or.inl ⟨by rfl, ?_⟩) ?_
       rotate_left
       focus
         intro w' hb'
         have d0 := hna
         go_simp
         with_reducible rfl
       simp only [Act.put, List.setIfInBounds_toArray, List.set_cons_zero, List.set_cons_succ])
    | (refine SeqS.take1 (v := undef) (by first | assumption | trivial) (by kernel_rfl) (by decide +kernel) (by decide +kernel) (Or.inr ⟨by rfl, rfl⟩) ?_
       simp only [Act.put, List.setIfInBounds_toArray, List.set_cons_zero, List.set_cons_succ])
    | (refine SeqS.take2 (v := ?_) (by first | assumption | trivial) (by kernel_rfl) (by decide +kernel) (by decide +kernel) (Or.inl ⟨by rfl, ?_⟩) ?_
       rotate_left
       focus
         intro w' hb'
         go_simp
         with_reducible rfl
       simp only [Act.put, List.setIfInBounds_toArray, List.set_cons_zero, List.set_cons_succ])
    | (refine SeqS.take2 (v := ?_) (by first | assumption | trivial) (by kernel_rfl) (by decide +kernel) (by decide +kernel) (Or.inl ⟨by rfl, ?_⟩) ?_
       rotate_left
       focus
         intro w' hb'
         have d0 := hna
         go_simp
         with_reducible rfl
       simp only [Act.put, List.setIfInBounds_toArray, List.set_cons_zero, List.set_cons_succ])
    | (refine SeqS.take2 (v := undef) (by first | assumption | trivial) (by kernel_rfl) (by decide +kernel) (by decide +kernel) (Or.inr ⟨by rfl, rfl⟩) ?_
       simp only [Act.put, List.setIfInBounds_toArray, List.set_cons_zero, List.set_cons_succ])
    | (refine SeqS.take3 (v := ?_) (by first | assumption | trivial) (by kernel_rfl) (by decide +kernel) (by decide +kernel) (Or.inl ⟨by rfl, ?_⟩) ?_
       rotate_left
       focus
         intro w' hb'
         go_simp
         with_reducible rfl
       simp only [Act.put, List.setIfInBounds_toArray, List.set_cons_zero, List.set_cons_succ])
    | (refine SeqS.take3 (v := ?_) (by first | assumption | trivial) (by kernel_rfl) (by decide +kernel) (by decide +kernel) (Or.inl ⟨by rfl, ?_⟩) ?_
       rotate_left
       focus
         intro w' hb'
         have d0 := hna
         go_simp
         with_reducible rfl
       simp only [Act.put, List.setIfInBounds_toArray, List.set_cons_zero, List.set_cons_succ])
    | (refine SeqS.take3 (v := undef) (by first | assumption | trivial) (by kernel_rfl) (by decide +kernel) (by decide +kernel) (Or.inr ⟨by rfl, rfl⟩) ?_
       simp only [Act.put, List.setIfInBounds_toArray, List.set_cons_zero, List.set_cons_succ]))
  refine SeqS.alone (by decide +kernel) (by rfl) (fun K5 hK5 => ?_)
  go_simp
  refine hK5 _ _ trivial ?_
  clear hK5 K5
  (try simp only [Act.put, List.setIfInBounds_toArray, List.set_cons_zero, List.set_cons_succ])
  refine SeqS.alone (by decide +kernel) (by rfl) (fun K5 hK5 => ?_)
  go_simp
  refine hD.mono ?_
  rintro q w5 ⟨v5, rfl, hbc⟩
  go_simp
  have hbcH := Lib.hid hbc
  obtain ⟨a5, d5, hv5, own5, hat5⟩ := hbc.is
  have hlen5 := FlV.step_held v (.put xs)
  have hnd5 := FlV.step_need v (.put xs)
  rw [← hlen5] at hnd5
  obtain ⟨N5, hN5⟩ : ∃ N5, (v.step (.put xs)).held.length = N5 := ⟨_, rfl⟩
  rw [hN5] at hv5 hnd5
  subst hv5
  have hgne5 : some g ≠ (Value.slice x.ha v.held.length x.hc).ownBlock := fun e => by
    obtain ⟨z, hz, hzb⟩ := slice_block e.symm
    have h9 := hxH.out.h.l z hz
    rw [hzb] at h9
    omega
  have B5 : Blk w5 g t cs4 := B4D.grown hbc.gr hgne5
  have e5 := B5.cell (o + 2)
  rw [← hcs4H.out, List.getElem?_set_ne (by omega), List.getElem?_set_ne (by omega), hcH.out 2 _ rfl] at e5
  have f5 := B5.frozen (o + 2)
  have B6 := B5.set (o + 2) (.slice a5 N5 d5)
  have l4 : cs4.length = cs.length := by rw [← hcs4H.out, List.length_set, List.length_set]
  have e62 := B6.cell (o + 2)
  rw [List.getElem?_set_self (by rw [l4]; omega)] at e62
  have e63 := B6.cell (o + 3)
  rw [List.getElem?_set_ne (by omega), ← hcs4H.out, List.getElem?_set_ne (by omega), List.getElem?_set_ne (by omega), hcH.out 3 _ rfl] at e63
  have f63 := B6.frozen (o + 3)
  have hN5H := Lib.hid hN5
  have hnd5H := Lib.hid hnd5
  have B5H := Lib.hid B5
  clear hbc own5 hat5 hlen5 hgne5 hN5 hnd5 B5 l4
  refine hK5 _ _ trivial ?_
  clear hK5 K5
  (try simp only [Act.put, List.setIfInBounds_toArray, List.set_cons_zero, List.set_cons_succ])
  repeat (first
    | (refine SeqS.take (v := ?_) (by first | assumption | trivial) (by kernel_rfl) (by decide +kernel) (by decide +kernel) (Or.inl ⟨by rfl, ?_⟩) ?_
       rotate_left
       focus
         intro w' hb'
         go_simp
         with_reducible rfl
       simp only [Act.put, List.setIfInBounds_toArray, List.set_cons_zero, List.set_cons_succ])
    | (refine SeqS.take (v := undef) (by first | assumption | trivial) (by kernel_rfl) (by decide +kernel) (by decide +kernel) (Or.inr ⟨by rfl, rfl⟩) ?_
       simp only [Act.put, List.setIfInBounds_toArray, List.set_cons_zero, List.set_cons_succ])
    | (refine SeqS.take1 (v := ?_) (by first | assumption | trivial) (by kernel_rfl) (by decide +kernel) (by decide +kernel) (Or.inl ⟨by rfl, ?_⟩) ?_
       rotate_left
       focus
         intro w' hb'
         go_simp
         with_reducible rfl
       simp only [Act.put, List.setIfInBounds_toArray, List.set_cons_zero, List.set_cons_succ])
    | (refine SeqS.take1 (v := undef) (by first | assumption | trivial) (by kernel_rfl) (by decide +kernel) (by decide +kernel) (Or.inr ⟨by rfl, rfl⟩) ?_
       simp only [Act.put, List.setIfInBounds_toArray, List.set_cons_zero, List.set_cons_succ])
    | (refine SeqS.take2 (v := ?_) (by first | assumption | trivial) (by kernel_rfl) (by decide +kernel) (by decide +kernel) (Or.inl ⟨by rfl, ?_⟩) ?_
       rotate_left
       focus
         intro w' hb'
         go_simp
         with_reducible rfl
       simp only [Act.put, List.setIfInBounds_toArray, List.set_cons_zero, List.set_cons_succ])
    | (refine SeqS.take2 (v := undef) (by first | assumption | trivial) (by kernel_rfl) (by decide +kernel) (by decide +kernel) (Or.inr ⟨by rfl, rfl⟩) ?_
       simp only [Act.put, List.setIfInBounds_toArray, List.set_cons_zero, List.set_cons_succ]))
  refine SeqS.alone (by decide +kernel) (by rfl) (fun K5 hK5 => ?_)
  go_simp
  refine hK5 _ _ trivial ?_
  clear hK5 K5
  refine SeqS.done (by decide +kernel) ?_
  go_wp2_with fail
  have e62V : (w5.setCell ⟨g, o + 2, none⟩ (.slice a5 N5 d5)).drew.cell? ⟨g, o + 2, none⟩ = some (.slice a5 N5 d5) := e62
  have e63V : (w5.setCell ⟨g, o + 2, none⟩ (.slice a5 N5 d5)).drew.cell? ⟨g, o + 3, none⟩ = some (.int .i64 (v.need : Nat)) := e63
  have f63V : (w5.setCell ⟨g, o + 2, none⟩ (.slice a5 N5 d5)).drew.frozen? ⟨g, o + 3, none⟩ = false := f63
  have B6V : Blk (w5.setCell ⟨g, o + 2, none⟩ (.slice a5 N5 d5)).drew g t (cs4.set (o + 2) (.slice a5 N5 d5)) := B6
  have g6 : w5.grownBy (w5.setCell ⟨g, o + 2, none⟩ (.slice a5 N5 d5)).drew (some g) := grown_drew (grown_setCell _ _ _ _)
  obtain ⟨X, hX⟩ : ∃ X : Nat, (v.step (.put xs)).need = X := ⟨_, rfl⟩
  have B7 := B6V.set (o + 3) (.int .i64 (X : Int))
  have g7 := grown_trans g6 (grown_setCell _ g (o + 3) (.int .i64 (X : Int)))
  have hfin := take_fin hlH.out hg1 hxH.out hstH.out hvs hMH.out hBHH.out ownH.out hgrH.out hatH.out g4 hbcH.out g7
  have hun9 : (v.step (.put xs)).units = v.units + xs.length := FlV.step_units v (.put xs)
  rw [hX, hun9] at hfin
  have k9 := hcH.out 0 _ rfl
  have so9 := sets_over cs o (.slice x.ka v.K.length x.kc) (.slice a2 (M + 1) d2) (.slice a5 N5 d5) (.int .i64 (X : Int)) (.int .i64 ((v.units : Int) + (xs.length : Int))) hfit k9
  rw [hcs4H.out] at so9
  rw [so9] at B7
  obtain ⟨y, L', hy, hfy, hwy⟩ := hfin
  have hy2 : fC y (v.step (.put xs)) = [.slice x.ka v.K.length x.kc, .slice a2 (M + 1) d2, .slice a5 N5 d5, .int .i64 (X : Int), .int .i64 ((v.units : Int) + (xs.length : Int))] := by rw [hy]; congr 5
  rw [← hy2] at B7
  have hX2 := hnd5H.out
  rw [hX] at hX2
  obtain ⟨V6, hV6⟩ : ∃ V6, (w5.setCell ⟨g, o + 2, none⟩ (.slice a5 N5 d5)).drew = V6 := ⟨_, rfl⟩
  rw [hV6] at e62V e63V f63V B7 hfy hwy
  have hV6H := Lib.hid hV6
  have hB7H := Lib.hid B7
  have hfyH := Lib.hid hfy
  have hwyH := Lib.hid hwy
  clear hV6 B7 hfy hwy B6V g6 g7 e62 e63 f63 hX so9 k9 hy hy2 hun9 hbcH hD hH4 e1 f1 e2 e4 f4 B3 B4D e5 f5 B6 B5H hatH ownH hlH hgrH hBHH hcH hcs4H hN5H hnd5H hst hx hl hvs hMH hstH hxH hc hme hna hI hI4 hP hn
  have hmv : (if v.need < N5 then (N5 : Int) else (v.need : Int)) = (X : Int) := by split <;> omega
  clear hX2
  refine region_seqS (fun w' => w'.cell? ⟨g, o + 2, none⟩ = some (.slice a5 N5 d5)) (by kernel_rfl) (by rw [hV6H.out]; exact e62V) ?_
  simp only [pairs, Nat.reduceAdd]
  rw [hV6H.out]
  repeat (first
    | (refine SeqS.take (v := ?_) (by first | assumption | trivial) (by kernel_rfl) (by decide +kernel) (by decide +kernel) (Or.inl ⟨by rfl, ?_⟩) ?_
       rotate_left
       focus
         intro w' hb'
         go_simp
         with_reducible rfl
       simp only [Act.put, List.setIfInBounds_toArray, List.set_cons_zero, List.set_cons_succ])
    | (refine SeqS.take (v := ?_) (by first | assumption | trivial) (by kernel_rfl) (by decide +kernel) (by decide +kernel) (Or.inl ⟨by rfl, ?_⟩) ?_
       rotate_left
       focus
         intro w' hb'
         have d0 := hb'
         go_simp
         with_reducible rfl
       simp only [Act.put, List.setIfInBounds_toArray, List.set_cons_zero, List.set_cons_succ])
    | (refine SeqS.take (v := undef) (by first | assumption | trivial) (by kernel_rfl) (by decide +kernel) (by decide +kernel) (Or.inr ⟨by rfl, rfl⟩) ?_
       simp only [Act.put, List.setIfInBounds_toArray, List.set_cons_zero, List.set_cons_succ])
    | (refine SeqS.take1 (v := ?_) (by first | assumption | trivial) (by kernel_rfl) (by decide +kernel) (by decide +kernel) (Or.inl ⟨by rfl, ?_⟩) ?_
       rotate_left
       focus
         intro w' hb'
         go_simp
         with_reducible rfl
       simp only [Act.put, List.setIfInBounds_toArray, List.set_cons_zero, List.set_cons_succ])
    | (refine SeqS.take1 (v := ?_) (by first | assumption | trivial) (by kernel_rfl) (by decide +kernel) (by decide +kernel) (Or.inl ⟨by rfl, ?_⟩) ?_
       rotate_left
       focus
         intro w' hb'
         have d0 := hb'
         go_simp
         with_reducible rfl
       simp only [Act.put, List.setIfInBounds_toArray, List.set_cons_zero, List.set_cons_succ])
    | (refine SeqS.take1 (v := undef) (by first | assumption | trivial) (by kernel_rfl) (by decide +kernel) (by decide +kernel) (Or.inr ⟨by rfl, rfl⟩) ?_
       simp only [Act.put, List.setIfInBounds_toArray, List.set_cons_zero, List.set_cons_succ])
    | (refine SeqS.take2 (v := ?_) (by first | assumption | trivial) (by kernel_rfl) (by decide +kernel) (by decide +kernel) (Or.inl ⟨by rfl, ?_⟩) ?_
       rotate_left
       focus
         intro w' hb'
         go_simp
         with_reducible rfl
       simp only [Act.put, List.setIfInBounds_toArray, List.set_cons_zero, List.set_cons_succ])
    | (refine SeqS.take2 (v := ?_) (by first | assumption | trivial) (by kernel_rfl) (by decide +kernel) (by decide +kernel) (Or.inl ⟨by rfl, ?_⟩) ?_
       rotate_left
       focus
         intro w' hb'
         have d0 := hb'
         go_simp
         with_reducible rfl
       simp only [Act.put, List.setIfInBounds_toArray, List.set_cons_zero, List.set_cons_succ])
    | (refine SeqS.take2 (v := undef) (by first | assumption | trivial) (by kernel_rfl) (by decide +kernel) (by decide +kernel) (Or.inr ⟨by rfl, rfl⟩) ?_
       simp only [Act.put, List.setIfInBounds_toArray, List.set_cons_zero, List.set_cons_succ]))
  refine SeqS.alone (by decide +kernel) (by rfl) (fun K5 hK5 => ?_)
  go_simp
  refine hK5 _ _ e62V ?_
  clear hK5 K5
  (try simp only [Act.put, List.setIfInBounds_toArray, List.set_cons_zero, List.set_cons_succ])
  refine SeqS.alone (by decide +kernel) (by rfl) (fun K5 hK5 => ?_)
  go_simp
  (try rw [hmv])
  refine hK5 _ _ e62V ?_
  clear hK5 K5
  (try simp only [Act.put, List.setIfInBounds_toArray, List.set_cons_zero, List.set_cons_succ])
  repeat (first
    | (refine SeqS.take (v := ?_) (by first | assumption | trivial) (by kernel_rfl) (by decide +kernel) (by decide +kernel) (Or.inl ⟨by rfl, ?_⟩) ?_
       rotate_left
       focus
         intro w' hb'
         go_simp
         with_reducible rfl
       simp only [Act.put, List.setIfInBounds_toArray, List.set_cons_zero, List.set_cons_succ])
    | (refine SeqS.take (v := undef) (by first | assumption | trivial) (by kernel_rfl) (by decide +kernel) (by decide +kernel) (Or.inr ⟨by rfl, rfl⟩) ?_
       simp only [Act.put, List.setIfInBounds_toArray, List.set_cons_zero, List.set_cons_succ])
    | (refine SeqS.take1 (v := ?_) (by first | assumption | trivial) (by kernel_rfl) (by decide +kernel) (by decide +kernel) (Or.inl ⟨by rfl, ?_⟩) ?_
       rotate_left
       focus
         intro w' hb'
         go_simp
         with_reducible rfl
       simp only [Act.put, List.setIfInBounds_toArray, List.set_cons_zero, List.set_cons_succ])
    | (refine SeqS.take1 (v := undef) (by first | assumption | trivial) (by kernel_rfl) (by decide +kernel) (by decide +kernel) (Or.inr ⟨by rfl, rfl⟩) ?_
       simp only [Act.put, List.setIfInBounds_toArray, List.set_cons_zero, List.set_cons_succ])
    | (refine SeqS.take2 (v := ?_) (by first | assumption | trivial) (by kernel_rfl) (by decide +kernel) (by decide +kernel) (Or.inl ⟨by rfl, ?_⟩) ?_
       rotate_left
       focus
         intro w' hb'
         go_simp
         with_reducible rfl
       simp only [Act.put, List.setIfInBounds_toArray, List.set_cons_zero, List.set_cons_succ])
    | (refine SeqS.take2 (v := undef) (by first | assumption | trivial) (by kernel_rfl) (by decide +kernel) (by decide +kernel) (Or.inr ⟨by rfl, rfl⟩) ?_
       simp only [Act.put, List.setIfInBounds_toArray, List.set_cons_zero, List.set_cons_succ]))
  have e7 : (V6.setCell ⟨g, o + 3, none⟩ (.int .i64 (X : Int))).cell? ⟨g, o + 2, none⟩ = some (.slice a5 N5 d5) := by
    rw [World.cell?_setCell_other]
    · exact e62V
    · intro e
      injection e with _ e
      omega
  refine SeqS.alone (by decide +kernel) (by rfl) (fun K5 hK5 => ?_)
  go_simp
  refine hK5 _ _ e7 ?_
  clear hK5 K5
  refine SeqS.done (by decide +kernel) ?_
  (try simp only [Exit.inBlock, Exit.then])
  first
    | go_end0
    | refine bodyPost_ret (results_none rfl _ _ _) rfl ?_
  exact ⟨y, L', rfl, hB7H.out, hfyH.out, hwyH.out⟩

set_option maxRecDepth 100000 in
set_option maxHeartbeats 2000000 in
theorem dTake_cut {L : Nat → Nat} {P : Nat → Prop} {w : World} {i g o : Nat} {t : TypeId} {cs : List Value} {x : FaV} {v : FlV} {T : Nat} {k : Nat} (hl : LabAt L P w) (hg1 : L g = 1) (hx : FlAt L P w i x v) (hb : Blk w g t cs) (hc : ∀ j u, (fC x v)[j]? = some u → cs[o + j]? = some u) (hO : v.Ok T) (hT : T < 4398046511104) (hk : k ≤ v.held.length) :
    Calls Tryz.prog 61 #[.pointer (some ⟨g, o, none⟩), .iface 205 (.int .i64 (k : Int))] w fun q w' => ∃ y L', q = .returned (.tuple #[]) ∧ Blk w' g t (overV cs o (fC y (v.step (.cut k)))) ∧ FlAt L' P w' i y (v.step (.cut k)) ∧ WentF i L P w L' P w' := by
  obtain ⟨i7, hi7, hz0, hz1, hz2⟩ := info_stp
  have hst : StAt P w (.iface 205 (.int .i64 (k : Int))) (.cut k) := rfl
  have hU := uOf_any hst
  have hme := meth_cut (.int .i64 (k : Int))
  have hna := ahead_cut (.int .i64 (k : Int))
  have hgs := hb.lt
  obtain ⟨c0, c1, c2, c3, c4⟩ := fcells hb hc
  have hlen := hO.len
  have hun := hO.un
  have hnd := hO.need
  have hhl := FlV.held_le v
  have hfit : o + 5 ≤ cs.length := by
    have := (List.getElem?_eq_some_iff.1 (hc 4 _ rfl)).1
    omega
  obtain ⟨vs, hvo, hvs⟩ := hx.s.o
  have hvo1 : (w.alloc (.cells #[.iface 205 (.int .i64 (k : Int))] 169)).ownsRow 0 169 1 (.slice x.sa v.S.length x.sc) v.S.length vs := own_same hvo (fun b hb' => (below1 w _).block b (hvo.lt b hb').2)
  have hb1 : Blk (w.alloc (.cells #[.iface 205 (.int .i64 (k : Int))] 169)) g t cs := hb.alloc _
  have hB1 := below1 w (.cells #[.iface 205 (.int .i64 (k : Int))] 169)
  have hnews := cell_one_new w (.iface 205 (.int .i64 (k : Int))) 169
  have hone : ∀ u ∈ ([.iface 205 (.int .i64 (k : Int))] : List Value), u.oneCell' = true := by
    intro u hu
    simp only [List.mem_singleton] at hu
    rw [hu]
    exact hst.one
  obtain ⟨M, hM⟩ : ∃ M, v.S.length = M := ⟨_, rfl⟩
  rw [hM] at hvo1 c1
  have hMH := Lib.hid hM
  clear hM
  go_enter Tryz.func61, Tryz.ntmps61
  go_wp2_with fail
  refine hU.mono ?_
  rintro q w0 ⟨rfl, hw0⟩
  subst hw0
  go_wp2_with (at_builtin
               refine wpList_append_own_at _ rfl (.tmp 11) (.tmp 13) 87 rfl 0 169 i7 .nilIface 1 16 Tryz.underlying87 hi7 hz0 hz1 hz2 rfl (by decide) _ M vs rfl hvo1 ⟨w0.heap.size, 0, none⟩ 1 1 [.iface 205 (.int .i64 (k : Int))] rfl rfl hnews hone ?_ ?_ (Nat.zero_le _) ?_
               (have := hMH.out; unfold maxLen; omega)
               (have := hMH.out; omega)
               intro v2 w2 own2 g2 hnil2 hat2
               refine RowKit.Hid.out ?_)
  refine Lib.hid ?_
  have hex : ∃ a2 d2, v2 = .slice a2 (M + 1) d2 := own_slice own2
  obtain ⟨a2, d2, hv2⟩ := hex
  subst hv2
  have own2' := own2
  have hat2' : (Value.slice a2 (M + 1) d2).ownBlock = (Value.slice x.sa M x.sc).ownBlock ∨ (Value.slice a2 (M + 1) d2).ownBlock = some (w0.alloc (.cells #[.iface 205 (.int .i64 (k : Int))] 169)).heap.size := hat2
  have g2' : (w0.alloc (.cells #[.iface 205 (.int .i64 (k : Int))] 169)).grownBy w2 (Value.slice x.sa M x.sc).ownBlock := g2
  have hgne : some g ≠ (Value.slice x.sa M x.sc).ownBlock := fun e => by
    obtain ⟨z, hz, hzb⟩ := slice_block e.symm
    have h9 := hx.s.l z hz
    rw [hzb] at h9
    omega
  have hb2 : Blk w2 g t cs := hb1.grown g2' hgne
  have e1 := hb2.cell (o + 1)
  rw [hc 1 _ rfl] at e1
  have f1 := hb2.frozen (o + 1)
  have B3 := hb2.set (o + 1) (.slice a2 (M + 1) d2)
  have e4 := B3.cell (o + 4)
  rw [List.getElem?_set_ne (by omega), hc 4 _ rfl] at e4
  have f4 := B3.frozen (o + 4)
  have B4 := B3.set (o + 4) (.int .i64 ((v.units : Int) + 1))
  obtain ⟨cs4, hcs4⟩ : ∃ c, (cs.set (o + 1) (.slice a2 (M + 1) d2)).set (o + 4) (.int .i64 ((v.units : Int) + 1)) = c := ⟨_, rfl⟩
  rw [hcs4] at B4
  have g4 : w2.grownBy ((w2.setCell ⟨g, o + 1, none⟩ (.slice a2 (M + 1) d2)).setCell ⟨g, o + 4, none⟩ (.int .i64 ((v.units : Int) + 1))).drew (some g) := grown_drew (grown_trans (grown_setCell _ _ _ _) (grown_setCell _ _ _ _))
  have B4D : Blk ((w2.setCell ⟨g, o + 1, none⟩ (.slice a2 (M + 1) d2)).setCell ⟨g, o + 4, none⟩ (.int .i64 ((v.units : Int) + 1))).drew g t cs4 := B4
  have hmid : ∀ b, b < w0.heap.size → L b ≠ 1 → L b ≠ 3 + 2 * i → ((w2.setCell ⟨g, o + 1, none⟩ (.slice a2 (M + 1) d2)).setCell ⟨g, o + 4, none⟩ (.int .i64 ((v.units : Int) + 1))).drew.heap[b]? = w0.heap[b]? := fun b hb0 h1 h3 => by
    have hz1 := hB1.size
    have hz2 := g2'.size
    rw [g4.block b (by omega) (fun e => by injection e with e; exact h1 (e ▸ hg1)), g2'.block b (by omega) (fun e => by
      obtain ⟨z, hz, hzb⟩ := slice_block e.symm
      have h9 := hx.s.l z hz
      rw [hzb] at h9
      exact h3 h9), hB1.block b hb0]
  obtain ⟨V, hV⟩ : ∃ V, ((w2.setCell ⟨g, o + 1, none⟩ (.slice a2 (M + 1) d2)).setCell ⟨g, o + 4, none⟩ (.int .i64 ((v.units : Int) + 1))).drew = V := ⟨_, rfl⟩
  rw [hV] at g4 B4D hmid
  have hVH := Lib.hid hV
  have hH4 : V.ownsRow 0 5 1 (.slice x.ha v.held.length x.hc) v.held.length (v.held.map (Value.int .u8)) := own_same hx.h.o (fun b hb => by
    obtain ⟨z, hz, hzb⟩ := slice_block hb
    have h9 := hx.h.l z hz
    rw [hzb] at h9
    exact hmid b (hl.l b (by omega)) (by omega) (by omega))
  have hD := dCutDo_any (k := k) hH4 1 (fun _ => hk)
  rw [if_neg (by decide), ← StV.all_cut, ← FlV.step_held] at hD
  have e2 := B4D.cell (o + 2)
  rw [← hcs4, List.getElem?_set_ne (by omega), List.getElem?_set_ne (by omega), hc 2 _ rfl] at e2
  have hlenV := own2.lt
  have hcs4H := Lib.hid hcs4
  have hcH := Lib.hid hc
  have ownH := Lib.hid own2'
  have hatH := Lib.hid hat2'
  have hxH := Lib.hid hx
  have hlH := Lib.hid hl
  have hstH := Lib.hid hst
  have hgrH := Lib.hid g2'
  have hBHH := Lib.hid hB1
  have huN : StV.units (.cut k) = 1 := rfl
  clear hV hmid B4 g2 g2' hcs4 own2 own2' hat2 hat2' hvo hvo1 hnews hone c0 c1 c2 c3 c4 hb2 hnil2 hgne hb1 hB1 hU hi7 hz0 hz1 hz2 hb
  go_wp2_with fail
  refine region_seqS (fun _ => True) (by kernel_rfl) trivial ?_
  simp only [pairs, Nat.reduceAdd]
  rw [hVH.out]
  repeat (first
    | (refine SeqS.take (v := ?_) (by first | assumption | trivial) (by kernel_rfl) (by decide +kernel) (by decide +kernel) (Or.inl ⟨by rfl, ?_⟩) ?_
       rotate_left
       focus
         intro w' hb'
         go_simp
         with_reducible rfl
       simp only [Act.put, List.setIfInBounds_toArray, List.set_cons_zero, List.set_cons_succ])
    | (refine SeqS.take (v := ?_) (by first | assumption | trivial) (by kernel_rfl) (by decide +kernel) (by decide +kernel) (Or.inl ⟨by rfl, ?_⟩) ?_
       rotate_left
       focus
         intro w' hb'
         have d0 := hna
         go_simp
         with_reducible rfl
       simp only [Act.put, List.setIfInBounds_toArray, List.set_cons_zero, List.set_cons_succ])
    | (refine SeqS.take (v := undef) (by first | assumption | trivial) (by kernel_rfl) (by decide +kernel) (by decide +kernel) (Or.inr ⟨by rfl, rfl⟩) ?_
       simp only [Act.put, List.setIfInBounds_toArray, List.set_cons_zero, List.set_cons_succ])
    | (refine SeqS.take1 (v := ?_) (by first | assumption | trivial) (by kernel_rfl) (by decide +kernel) (by decide +kernel) (Or.inl ⟨by rfl, ?_⟩) ?_
       rotate_left
       focus
         intro w' hb'
         go_simp
         with_reducible rfl
       simp only [Act.put, List.setIfInBounds_toArray, List.set_cons_zero, List.set_cons_succ])
    | (refine SeqS.take1 (v := ?_) (by first | assumption | trivial) (by kernel_rfl) (by decide +kernel) (by decide +kernel) (Or.inl ⟨by rfl, ?_⟩) ?_
       rotate_left
       focus
         intro w' hb'
         have d0 := hna
         go_simp
         with_reducible rfl
       simp only [Act.put, List.setIfInBounds_toArray, List.set_cons_zero, List.set_cons_succ])
    | (refine SeqS.take1 (v := undef) (by first | assumption | trivial) (by kernel_rfl) (by decide +kernel) (by decide +kernel) (Or.inr ⟨by rfl, rfl⟩) ?_
       simp only [Act.put, List.setIfInBounds_toArray, List.set_cons_zero, List.set_cons_succ])
    | (refine SeqS.take2 (v := ?_) (by first | assumption | trivial) (by kernel_rfl) (by decide +kernel) (by decide +kernel) (Or.inl ⟨by rfl, ?_⟩) ?_
       rotate_left
       focus
         intro w' hb'
         go_simp
         with_reducible rfl
       simp only [Act.put, List.setIfInBounds_toArray, List.set_cons_zero, List.set_cons_succ])
    | (refine SeqS.take2 (v := ?_) (by first | assumption | trivial) (by kernel_rfl) (by decide +kernel) (by decide +kernel) (Or.inl ⟨by rfl, ?_⟩) ?_
       rotate_left
       focus
         intro w' hb'
         have d0 := hna
         go_simp
         with_reducible rfl
       simp only [Act.put, List.setIfInBounds_toArray, List.set_cons_zero, List.set_cons_succ])
    | (refine SeqS.take2 (v := undef) (by first | assumption | trivial) (by kernel_rfl) (by decide +kernel) (by decide +kernel) (Or.inr ⟨by rfl, rfl⟩) ?_
       simp only [Act.put, List.setIfInBounds_toArray, List.set_cons_zero, List.set_cons_succ])
    | (refine SeqS.take3 (v := ?_) (by first | assumption | trivial) (by kernel_rfl) (by decide +kernel) (by decide +kernel) (Or.inl ⟨by rfl, ?_⟩) ?_
       rotate_left
       focus
         intro w' hb'
         go_simp
         with_reducible rfl
       simp only [Act.put, List.setIfInBounds_toArray, List.set_cons_zero, List.set_cons_succ])
    | (refine SeqS.take3 (v := ?_) (by first | assumption | trivial) (by kernel_rfl) (by decide +kernel) (by decide +kernel) (Or.inl ⟨by rfl, ?_⟩) ?_
       rotate_left
       focus
         intro w' hb'
         have d0 := hna
         go_simp
         with_reducible rfl
       simp only [Act.put, List.setIfInBounds_toArray, List.set_cons_zero, List.set_cons_succ])
    | (refine SeqS.take3 (v := undef) (by first | assumption | trivial) (by kernel_rfl) (by decide +kernel) (by decide +kernel) (Or.inr ⟨by rfl, rfl⟩) ?_
       simp only [Act.put, List.setIfInBounds_toArray, List.set_cons_zero, List.set_cons_succ]))
  refine SeqS.alone (by decide +kernel) (by rfl) (fun K5 hK5 => ?_)
  go_simp
  refine hK5 _ _ trivial ?_
  clear hK5 K5
  (try simp only [Act.put, List.setIfInBounds_toArray, List.set_cons_zero, List.set_cons_succ])
  refine SeqS.alone (by decide +kernel) (by rfl) (fun K5 hK5 => ?_)
  go_simp
  refine hD.mono ?_
  rintro q w5 ⟨v5, rfl, hbc⟩
  go_simp
  have hbcH := Lib.hid hbc
  obtain ⟨a5, d5, hv5, own5, hat5⟩ := hbc.is
  have hlen5 := FlV.step_held v (.cut k)
  have hnd5 := FlV.step_need v (.cut k)
  rw [← hlen5] at hnd5
  obtain ⟨N5, hN5⟩ : ∃ N5, (v.step (.cut k)).held.length = N5 := ⟨_, rfl⟩
  rw [hN5] at hv5 hnd5
  subst hv5
  have hgne5 : some g ≠ (Value.slice x.ha v.held.length x.hc).ownBlock := fun e => by
    obtain ⟨z, hz, hzb⟩ := slice_block e.symm
    have h9 := hxH.out.h.l z hz
    rw [hzb] at h9
    omega
  have B5 : Blk w5 g t cs4 := B4D.grown hbc.gr hgne5
  have e5 := B5.cell (o + 2)
  rw [← hcs4H.out, List.getElem?_set_ne (by omega), List.getElem?_set_ne (by omega), hcH.out 2 _ rfl] at e5
  have f5 := B5.frozen (o + 2)
  have B6 := B5.set (o + 2) (.slice a5 N5 d5)
  have l4 : cs4.length = cs.length := by rw [← hcs4H.out, List.length_set, List.length_set]
  have e62 := B6.cell (o + 2)
  rw [List.getElem?_set_self (by rw [l4]; omega)] at e62
  have e63 := B6.cell (o + 3)
  rw [List.getElem?_set_ne (by omega), ← hcs4H.out, List.getElem?_set_ne (by omega), List.getElem?_set_ne (by omega), hcH.out 3 _ rfl] at e63
  have f63 := B6.frozen (o + 3)
  have hN5H := Lib.hid hN5
  have hnd5H := Lib.hid hnd5
  have B5H := Lib.hid B5
  clear hbc own5 hat5 hlen5 hgne5 hN5 hnd5 B5 l4
  refine hK5 _ _ trivial ?_
  clear hK5 K5
  (try simp only [Act.put, List.setIfInBounds_toArray, List.set_cons_zero, List.set_cons_succ])
  repeat (first
    | (refine SeqS.take (v := ?_) (by first | assumption | trivial) (by kernel_rfl) (by decide +kernel) (by decide +kernel) (Or.inl ⟨by rfl, ?_⟩) ?_
       rotate_left
       focus
         intro w' hb'
         go_simp
         with_reducible rfl
       simp only [Act.put, List.setIfInBounds_toArray, List.set_cons_zero, List.set_cons_succ])
    | (refine SeqS.take (v := undef) (by first | assumption | trivial) (by kernel_rfl) (by decide +kernel) (by decide +kernel) (Or.inr ⟨by rfl, rfl⟩) ?_
       simp only [Act.put, List.setIfInBounds_toArray, List.set_cons_zero, List.set_cons_succ])
    | (refine SeqS.take1 (v := ?_) (by first | assumption | trivial) (by kernel_rfl) (by decide +kernel) (by decide +kernel) (Or.inl ⟨by rfl, ?_⟩) ?_
       rotate_left
       focus
         intro w' hb'
         go_simp
         with_reducible rfl
       simp only [Act.put, List.setIfInBounds_toArray, List.set_cons_zero, List.set_cons_succ])
    | (refine SeqS.take1 (v := undef) (by first | assumption | trivial) (by kernel_rfl) (by decide +kernel) (by decide +kernel) (Or.inr ⟨by rfl, rfl⟩) ?_
       simp only [Act.put, List.setIfInBounds_toArray, List.set_cons_zero, List.set_cons_succ])
    | (refine SeqS.take2 (v := ?_) (by first | assumption | trivial) (by kernel_rfl) (by decide +kernel) (by decide +kernel) (Or.inl ⟨by rfl, ?_⟩) ?_
       rotate_left
       focus
         intro w' hb'
         go_simp
         with_reducible rfl
       simp only [Act.put, List.setIfInBounds_toArray, List.set_cons_zero, List.set_cons_succ])
    | (refine SeqS.take2 (v := undef) (by first | assumption | trivial) (by kernel_rfl) (by decide +kernel) (by decide +kernel) (Or.inr ⟨by rfl, rfl⟩) ?_
       simp only [Act.put, List.setIfInBounds_toArray, List.set_cons_zero, List.set_cons_succ]))
  refine SeqS.alone (by decide +kernel) (by rfl) (fun K5 hK5 => ?_)
  go_simp
  refine hK5 _ _ trivial ?_
  clear hK5 K5
  refine SeqS.done (by decide +kernel) ?_
  go_wp2_with fail
  have e62V : (w5.setCell ⟨g, o + 2, none⟩ (.slice a5 N5 d5)).drew.cell? ⟨g, o + 2, none⟩ = some (.slice a5 N5 d5) := e62
  have e63V : (w5.setCell ⟨g, o + 2, none⟩ (.slice a5 N5 d5)).drew.cell? ⟨g, o + 3, none⟩ = some (.int .i64 (v.need : Nat)) := e63
  have f63V : (w5.setCell ⟨g, o + 2, none⟩ (.slice a5 N5 d5)).drew.frozen? ⟨g, o + 3, none⟩ = false := f63
  have B6V : Blk (w5.setCell ⟨g, o + 2, none⟩ (.slice a5 N5 d5)).drew g t (cs4.set (o + 2) (.slice a5 N5 d5)) := B6
  have g6 : w5.grownBy (w5.setCell ⟨g, o + 2, none⟩ (.slice a5 N5 d5)).drew (some g) := grown_drew (grown_setCell _ _ _ _)
  obtain ⟨X, hX⟩ : ∃ X : Nat, (v.step (.cut k)).need = X := ⟨_, rfl⟩
  have B7 := B6V.set (o + 3) (.int .i64 (X : Int))
  have g7 := grown_trans g6 (grown_setCell _ g (o + 3) (.int .i64 (X : Int)))
  have hfin := take_fin hlH.out hg1 hxH.out hstH.out hvs hMH.out hBHH.out ownH.out hgrH.out hatH.out g4 hbcH.out g7
  have hun9 : (v.step (.cut k)).units = v.units + 1 := FlV.step_units v (.cut k)
  rw [hX, hun9] at hfin
  have k9 := hcH.out 0 _ rfl
  have so9 := sets_over cs o (.slice x.ka v.K.length x.kc) (.slice a2 (M + 1) d2) (.slice a5 N5 d5) (.int .i64 (X : Int)) (.int .i64 ((v.units : Int) + 1)) hfit k9
  rw [hcs4H.out] at so9
  rw [so9] at B7
  obtain ⟨y, L', hy, hfy, hwy⟩ := hfin
  have hy2 : fC y (v.step (.cut k)) = [.slice x.ka v.K.length x.kc, .slice a2 (M + 1) d2, .slice a5 N5 d5, .int .i64 (X : Int), .int .i64 ((v.units : Int) + 1)] := by rw [hy]; congr 5
  rw [← hy2] at B7
  have hX2 := hnd5H.out
  rw [hX] at hX2
  obtain ⟨V6, hV6⟩ : ∃ V6, (w5.setCell ⟨g, o + 2, none⟩ (.slice a5 N5 d5)).drew = V6 := ⟨_, rfl⟩
  rw [hV6] at e62V e63V f63V B7 hfy hwy
  have hV6H := Lib.hid hV6
  have hB7H := Lib.hid B7
  have hfyH := Lib.hid hfy
  have hwyH := Lib.hid hwy
  clear hV6 B7 hfy hwy B6V g6 g7 e62 e63 f63 hX so9 k9 hy hy2 hun9 hbcH hD hH4 e1 f1 e2 e4 f4 B3 B4D e5 f5 B6 B5H hatH ownH hlH hgrH hBHH hcH hcs4H hN5H hnd5H hst hx hl hvs hMH hstH hxH hc hme hna hk
  have hmv : (if v.need < N5 then (N5 : Int) else (v.need : Int)) = (X : Int) := by split <;> omega
  clear hX2
  refine region_seqS (fun w' => w'.cell? ⟨g, o + 2, none⟩ = some (.slice a5 N5 d5)) (by kernel_rfl) (by rw [hV6H.out]; exact e62V) ?_
  simp only [pairs, Nat.reduceAdd]
  rw [hV6H.out]
  repeat (first
    | (refine SeqS.take (v := ?_) (by first | assumption | trivial) (by kernel_rfl) (by decide +kernel) (by decide +kernel) (Or.inl ⟨by rfl, ?_⟩) ?_
       rotate_left
       focus
         intro w' hb'
         go_simp
         with_reducible rfl
       simp only [Act.put, List.setIfInBounds_toArray, List.set_cons_zero, List.set_cons_succ])
    | (refine SeqS.take (v := ?_) (by first | assumption | trivial) (by kernel_rfl) (by decide +kernel) (by decide +kernel) (Or.inl ⟨by rfl, ?_⟩) ?_
       rotate_left
       focus
         intro w' hb'
         have d0 := hb'
         go_simp
         with_reducible rfl
       simp only [Act.put, List.setIfInBounds_toArray, List.set_cons_zero, List.set_cons_succ])
    | (refine SeqS.take (v := undef) (by first | assumption | trivial) (by kernel_rfl) (by decide +kernel) (by decide +kernel) (Or.inr ⟨by rfl, rfl⟩) ?_
       simp only [Act.put, List.setIfInBounds_toArray, List.set_cons_zero, List.set_cons_succ])
    | (refine SeqS.take1 (v := ?_) (by first | assumption | trivial) (by kernel_rfl) (by decide +kernel) (by decide +kernel) (Or.inl ⟨by rfl, ?_⟩) ?_
       rotate_left
       focus
         intro w' hb'
         go_simp
         with_reducible rfl
       simp only [Act.put, List.setIfInBounds_toArray, List.set_cons_zero, List.set_cons_succ])
    | (refine SeqS.take1 (v := ?_) (by first | assumption | trivial) (by kernel_rfl) (by decide +kernel) (by decide +kernel) (Or.inl ⟨by rfl, ?_⟩) ?_
       rotate_left
       focus
         intro w' hb'
         have d0 := hb'
         go_simp
         with_reducible rfl
       simp only [Act.put, List.setIfInBounds_toArray, List.set_cons_zero, List.set_cons_succ])
    | (refine SeqS.take1 (v := undef) (by first | assumption | trivial) (by kernel_rfl) (by decide +kernel) (by decide +kernel) (Or.inr ⟨by rfl, rfl⟩) ?_
       simp only [Act.put, List.setIfInBounds_toArray, List.set_cons_zero, List.set_cons_succ])
    | (refine SeqS.take2 (v := ?_) (by first | assumption | trivial) (by kernel_rfl) (by decide +kernel) (by decide +kernel) (Or.inl ⟨by rfl, ?_⟩) ?_
       rotate_left
       focus
         intro w' hb'
         go_simp
         with_reducible rfl
       simp only [Act.put, List.setIfInBounds_toArray, List.set_cons_zero, List.set_cons_succ])
    | (refine SeqS.take2 (v := ?_) (by first | assumption | trivial) (by kernel_rfl) (by decide +kernel) (by decide +kernel) (Or.inl ⟨by rfl, ?_⟩) ?_
       rotate_left
       focus
         intro w' hb'
         have d0 := hb'
         go_simp
         with_reducible rfl
       simp only [Act.put, List.setIfInBounds_toArray, List.set_cons_zero, List.set_cons_succ])
    | (refine SeqS.take2 (v := undef) (by first | assumption | trivial) (by kernel_rfl) (by decide +kernel) (by decide +kernel) (Or.inr ⟨by rfl, rfl⟩) ?_
       simp only [Act.put, List.setIfInBounds_toArray, List.set_cons_zero, List.set_cons_succ]))
  refine SeqS.alone (by decide +kernel) (by rfl) (fun K5 hK5 => ?_)
  go_simp
  refine hK5 _ _ e62V ?_
  clear hK5 K5
  (try simp only [Act.put, List.setIfInBounds_toArray, List.set_cons_zero, List.set_cons_succ])
  refine SeqS.alone (by decide +kernel) (by rfl) (fun K5 hK5 => ?_)
  go_simp
  (try rw [hmv])
  refine hK5 _ _ e62V ?_
  clear hK5 K5
  (try simp only [Act.put, List.setIfInBounds_toArray, List.set_cons_zero, List.set_cons_succ])
  repeat (first
    | (refine SeqS.take (v := ?_) (by first | assumption | trivial) (by kernel_rfl) (by decide +kernel) (by decide +kernel) (Or.inl ⟨by rfl, ?_⟩) ?_
       rotate_left
       focus
         intro w' hb'
         go_simp
         with_reducible rfl
       simp only [Act.put, List.setIfInBounds_toArray, List.set_cons_zero, List.set_cons_succ])
    | (refine SeqS.take (v := undef) (by first | assumption | trivial) (by kernel_rfl) (by decide +kernel) (by decide +kernel) (Or.inr ⟨by rfl, rfl⟩) ?_
       simp only [Act.put, List.setIfInBounds_toArray, List.set_cons_zero, List.set_cons_succ])
    | (refine SeqS.take1 (v := ?_) (by first | assumption | trivial) (by kernel_rfl) (by decide +kernel) (by decide +kernel) (Or.inl ⟨by rfl, ?_⟩) ?_
       rotate_left
       focus
         intro w' hb'
         go_simp
         with_reducible rfl
       simp only [Act.put, List.setIfInBounds_toArray, List.set_cons_zero, List.set_cons_succ])
    | (refine SeqS.take1 (v := undef) (by first | assumption | trivial) (by kernel_rfl) (by decide +kernel) (by decide +kernel) (Or.inr ⟨by rfl, rfl⟩) ?_
       simp only [Act.put, List.setIfInBounds_toArray, List.set_cons_zero, List.set_cons_succ])
    | (refine SeqS.take2 (v := ?_) (by first | assumption | trivial) (by kernel_rfl) (by decide +kernel) (by decide +kernel) (Or.inl ⟨by rfl, ?_⟩) ?_
       rotate_left
       focus
         intro w' hb'
         go_simp
         with_reducible rfl
       simp only [Act.put, List.setIfInBounds_toArray, List.set_cons_zero, List.set_cons_succ])
    | (refine SeqS.take2 (v := undef) (by first | assumption | trivial) (by kernel_rfl) (by decide +kernel) (by decide +kernel) (Or.inr ⟨by rfl, rfl⟩) ?_
       simp only [Act.put, List.setIfInBounds_toArray, List.set_cons_zero, List.set_cons_succ]))
  have e7 : (V6.setCell ⟨g, o + 3, none⟩ (.int .i64 (X : Int))).cell? ⟨g, o + 2, none⟩ = some (.slice a5 N5 d5) := by
    rw [World.cell?_setCell_other]
    · exact e62V
    · intro e
      injection e with _ e
      omega
  refine SeqS.alone (by decide +kernel) (by rfl) (fun K5 hK5 => ?_)
  go_simp
  refine hK5 _ _ e7 ?_
  clear hK5 K5
  refine SeqS.done (by decide +kernel) ?_
  (try simp only [Exit.inBlock, Exit.then])
  first
    | go_end0
    | refine bodyPost_ret (results_none rfl _ _ _) rfl ?_
  exact ⟨y, L', rfl, hB7H.out, hfyH.out, hwyH.out⟩

end Go.Proofs.YtinmmhbiomcdoaaGreatDoor

/-
  What the landed disk's take, settle, count, spare come to, said of the whole disk. The disk's own blocks are written, and new memory. Conditions: a disk that New made; fewer than 2^42 steps.
-/
namespace Go.Proofs.YtinmmhbiomcdoaaGreatDoor
open Go.RowKit

theorem DkV.set_f (D : DkV) (i : Nat) (hi : i < 3) (v : FlV) : (D.set i v).f i = v := by
  match i, hi with
  | 0, _ => rfl
  | 1, _ => rfl
  | 2, _ => rfl
theorem DkV.set_head (D : DkV) (i : Nat) (v : FlV) : (D.set i v).room = D.room ∧ (D.set i v).fuse = D.fuse ∧ (D.set i v).down = D.down := by
  unfold DkV.set
  split
  · exact ⟨rfl, rfl, rfl⟩
  · split <;> exact ⟨rfl, rfl, rfl⟩
/-- More blocks that nobody writes to any more. -/
theorem DkAt.more {L : Nat → Nat} {P P' : Nat → Prop} {w : World} {g : Nat} {D : DkV} {x0 x1 x2 : FaV} (h : DkAt L P w g D x0 x1 x2) (hp : ∀ b, P b → P' b) (hq : ∀ b, P' b → P b ∨ (b < w.heap.size ∧ L b = 0)) : DkAt L P' w g D x0 x1 x2 :=
  ⟨h.b, h.g, ⟨h.lab.l, fun b hb => (hq b hb).elim (h.lab.p b) id⟩, h.f0.same (fun _ _ => rfl) hp (fun _ _ => rfl), h.f1.same (fun _ _ => rfl) hp (fun _ _ => rfl), h.f2.same (fun _ _ => rfl) hp (fun _ _ => rfl)⟩
/-- The disk's own block alone was written, and not the files. -/
theorem DkAt.head {L : Nat → Nat} {P : Nat → Prop} {w w' : World} {g : Nat} {D D' : DkV} {x0 x1 x2 : FaV} (h : DkAt L P w g D x0 x1 x2) (hg : w.grownBy w' (some g)) (hb : Blk w' g 92 (dC D' x0 x1 x2)) (h0 : D'.f0 = D.f0) (h1 : D'.f1 = D.f1) (h2 : D'.f2 = D.f2) : DkAt L P w' g D' x0 x1 x2 ∧ Went L P w L P w' := by
  have hs := hg.size
  have hk : ∀ b, b < w.heap.size → L b ≠ 1 → w'.heap[b]? = w.heap[b]? := fun b hb hn => hg.block b hb (fun e => by injection e with e; exact hn (e ▸ h.g))
  have hf : ∀ i b, P b ∨ isF i (L b) → w'.heap[b]? = w.heap[b]? := fun i b hb => by
    rcases hb with hb | hb
    · have := h.lab.p b hb
      exact hk b this.1 (by omega)
    · unfold isF at hb
      exact hk b (h.lab.l b (by omega)) (by omega)
  refine ⟨⟨hb, h.g, ⟨fun b hb => Nat.lt_of_lt_of_le (h.lab.l b hb) hs, fun b hb => ⟨Nat.lt_of_lt_of_le (h.lab.p b hb).1 hs, (h.lab.p b hb).2⟩⟩, ?_, ?_, ?_⟩, ⟨⟨⟨hg.os, hg.tape, hg.output, hg.size, fun _ h => absurd h (Nat.not_lt_zero _)⟩, fun b hb hn => hk b hb (fun e => hn (by show L b ≠ 0; omega))⟩, fun _ _ => rfl, fun _ h => h, fun _ h => .inl h⟩⟩
  · rw [h0]; exact h.f0.same (hf 0) (fun _ h => h) (fun _ _ => rfl)
  · rw [h1]; exact h.f1.same (hf 1) (fun _ h => h) (fun _ _ => rfl)
  · rw [h2]; exact h.f2.same (hf 2) (fun _ h => h) (fun _ _ => rfl)
theorem Went.of_below {L : Nat → Nat} {P : Nat → Prop} {w w' : World} (h : Below w.heap.size w w') : Went L P w L P w' := ⟨Moved.of_below h, fun _ _ => rfl, fun _ h => h, fun _ h => .inl h⟩
/-- A disk that stands so, somewhere. -/
def DkIs (L : Nat → Nat) (P : Nat → Prop) (w : World) (g : Nat) (D : DkV) : Prop := ∃ x0 x1 x2, DkAt L P w g D x0 x1 x2
/-- What a call leaves of a disk. -/
def DkTo (L : Nat → Nat) (P : Nat → Prop) (w : World) (g : Nat) (w' : World) (D' : DkV) : Prop := ∃ L' P', DkIs L' P' w' g D' ∧ Went L P w L' P' w'
theorem DkIs.keep {L : Nat → Nat} {P : Nat → Prop} {w w' : World} {g : Nat} {D : DkV} (h : DkIs L P w g D) (hb : Below w.heap.size w w') : DkIs L P w' g D := by
  obtain ⟨x0, x1, x2, h⟩ := h
  exact ⟨x0, x1, x2, h.keep hb⟩
theorem DkTo.stay {L : Nat → Nat} {P : Nat → Prop} {w w' : World} {g : Nat} {D : DkV} (h : DkIs L P w g D) (hb : Below w.heap.size w w') : DkTo L P w g w' D := ⟨L, P, h.keep hb, Went.of_below hb⟩

theorem dTakePut {L : Nat → Nat} {P : Nat → Prop} {w : World} {g : Nat} {D : DkV} {T : Nat} {a : Option Addr} {c : Nat} {xs : List Int} (h : DkIs L P w g D) (hO : D.Ok T) (hT : T < 4398046511104) (i : Nat) (hi : i < 3) (hI : Ints .u8 w a xs.length c xs) (hP : ∀ z, a = some z → P z.block) (hn : (D.f i).held.length + xs.length ≤ 65536) :
    Calls Tryz.prog 61 #[.pointer (some ⟨g, 3 + 5 * i, none⟩), .iface 121 (.slice a xs.length c)] w fun q w' => q = .returned (.tuple #[]) ∧ DkTo L P w g w' (D.set i ((D.f i).step (.put xs))) := by
  obtain ⟨x0, x1, x2, h⟩ := h
  obtain ⟨x, hx, hc⟩ := h.fl i hi
  refine (dTake_put h.lab h.g hx h.b hc (hO.f i) hT hI hP hn).mono ?_
  rintro q w' ⟨y, L', rfl, hb, hf, hw⟩
  exact ⟨rfl, L', P, h.put hi hw hb hf, hw.went⟩
theorem dTakeCut {L : Nat → Nat} {P : Nat → Prop} {w : World} {g : Nat} {D : DkV} {T : Nat} {k : Nat} (h : DkIs L P w g D) (hO : D.Ok T) (hT : T < 4398046511104) (i : Nat) (hi : i < 3) (hk : k ≤ (D.f i).held.length) :
    Calls Tryz.prog 61 #[.pointer (some ⟨g, 3 + 5 * i, none⟩), .iface 205 (.int .i64 (k : Int))] w fun q w' => q = .returned (.tuple #[]) ∧ DkTo L P w g w' (D.set i ((D.f i).step (.cut k))) := by
  obtain ⟨x0, x1, x2, h⟩ := h
  obtain ⟨x, hx, hc⟩ := h.fl i hi
  refine (dTake_cut h.lab h.g hx h.b hc (hO.f i) hT hk).mono ?_
  rintro q w' ⟨y, L', rfl, hb, hf, hw⟩
  exact ⟨rfl, L', P, h.put hi hw hb hf, hw.went⟩
theorem dSettleD {L : Nat → Nat} {P : Nat → Prop} {w : World} {g : Nat} {D : DkV} {T : Nat} (h : DkIs L P w g D) (hO : D.Ok T) (hT : T ≤ 4398046511104) (i : Nat) (hi : i < 3) (u : Nat) (hu : u ≤ (D.f i).units) :
    Calls Tryz.prog 51 #[.pointer (some ⟨g, 3 + 5 * i, none⟩), .int .i64 (u : Int)] w fun q w' => q = .returned (.tuple #[]) ∧ DkTo L P w g w' (D.set i ((D.f i).settle u)) := by
  obtain ⟨x0, x1, x2, h⟩ := h
  obtain ⟨x, hx, hc⟩ := h.fl i hi
  refine (dSettle_any u h.lab h.g hx h.b hc (hO.f i) hT hu).mono ?_
  rintro q w' ⟨y, L', P', rfl, hb, hf, hw⟩
  exact ⟨rfl, L', P', h.put hi hw hb hf, hw.went⟩
theorem burn_cells (D : DkV) (x0 x1 x2 : FaV) (hd : D.down = false) : (if D.fuse = 0 then dC D x0 x1 x2 else if D.fuse = 1 then ((dC D x0 x1 x2).set 1 (.int .i64 (D.fuse - 1))).set 2 (.bool true) else (dC D x0 x1 x2).set 1 (.int .i64 (D.fuse - 1))) = dC D.burn x0 x1 x2 := by
  unfold DkV.burn
  split
  · rfl
  · split
    · rename_i h1
      have h2 : decide (D.fuse - 1 = 0) = true := decide_eq_true (by omega)
      rw [h2]
      rfl
    · rename_i h1
      have h2 : decide (D.fuse - 1 = 0) = false := decide_eq_false (by omega)
      rw [h2, ← hd]
      rfl
theorem burn_ans (D : DkV) (hd : D.down = false) : (if D.fuse = 1 then 18 else 0 : Int) = D.burn.ans := by
  unfold DkV.ans DkV.burn
  by_cases h0 : D.fuse = 0
  · rw [if_neg (by omega), if_pos h0, hd]; rfl
  · rw [if_neg h0]
    by_cases h1 : D.fuse = 1
    · rw [if_pos h1, if_pos (by show decide (D.fuse - 1 = 0) = true; exact decide_eq_true (by omega))]
    · rw [if_neg h1, if_neg (by show ¬ decide (D.fuse - 1 = 0) = true; rw [decide_eq_false (by omega)]; decide)]
theorem burn_f (D : DkV) : D.burn.f0 = D.f0 ∧ D.burn.f1 = D.f1 ∧ D.burn.f2 = D.f2 ∧ D.burn.room = D.room := by
  unfold DkV.burn
  split <;> exact ⟨rfl, rfl, rfl, rfl⟩
theorem dCountD {L : Nat → Nat} {P : Nat → Prop} {w : World} {g : Nat} {D : DkV} {T : Nat} (h : DkIs L P w g D) (hO : D.Ok T) (hd : D.down = false) :
    Calls Tryz.prog 62 #[.pointer (some ⟨g, 0, none⟩)] w fun q w' => q = .returned (.int .i64 D.burn.ans) ∧ DkTo L P w g w' D.burn := by
  obtain ⟨x0, x1, x2, h⟩ := h
  refine (dCount_any h.b (f := D.fuse) rfl ⟨D.down, rfl⟩ hO.fuse).mono ?_
  rintro q w' ⟨rfl, hb, hg⟩
  rw [burn_cells D x0 x1 x2 hd] at hb
  rw [burn_ans D hd]
  obtain ⟨k1, k2⟩ := h.head hg hb (burn_f D).1 (burn_f D).2.1 (burn_f D).2.2.1
  exact ⟨rfl, L, P, ⟨x0, x1, x2, k1⟩, k2⟩
theorem dSpareD {L : Nat → Nat} {P : Nat → Prop} {w : World} {g : Nat} {D : DkV} {T : Nat} (h : DkIs L P w g D) (hO : D.Ok T) (i : Nat) (hi : i < 3) :
    Calls Tryz.prog 60 #[.pointer (some ⟨g, 0, none⟩), .pointer (some ⟨g, 3 + 5 * i, none⟩)] w fun q w' => q = .returned (.int .i64 (((D.f i).need : Int) - (D.f i).held.length + D.room - (D.used : Nat))) ∧ Below w.heap.size w w' := by
  obtain ⟨x0, x1, x2, h⟩ := h
  obtain ⟨x, hx, hc⟩ := h.fl i hi
  have hf := fcells h.b hc
  have hr := hO.room
  have n0 := hO.o0.need
  have n1 := hO.o1.need
  have n2 := hO.o2.need
  have ni := (hO.f i).need
  have hh := FlV.held_le (D.f i)
  refine (dSpare_any (n0 := D.f0.need) (n1 := D.f1.need) (n2 := D.f2.need) (n := (D.f i).need) (m := (D.f i).held.length) (dcells h.b).1 (by omega) (h.b.cell 6) (h.b.cell 11) (h.b.cell 16) n0 n1 n2 hf.2.2.1 hf.2.2.2.1 ni (by omega)).mono ?_
  rintro q w' ⟨rfl, k, rfl⟩
  exact ⟨rfl, below_drewN (Below.refl _ _) k⟩
/-- Whether more bytes fit. -/
theorem spare_fits {D : DkV} {T : Nat} (hO : D.Ok T) (i : Nat) (bs : List Int) : (((D.f i).need : Int) - (D.f i).held.length + D.room - (D.used : Nat) < bs.length) ↔ D.room < ((D.set i ((D.f i).step (.put bs))).used : Int) := by
  have h1 := DkV.set_used D i ((D.f i).step (.put bs))
  have h2 := FlV.step_need (D.f i) (.put bs)
  have h3 := put_len bs (D.f i).held
  have h4 := hO.used
  have h5 := FlV.held_le (D.f i)
  omega
end Go.Proofs.YtinmmhbiomcdoaaGreatDoor

/-
  A roll on lists (layer 20): the bodies of a file, its tail, and what the roll's calls come to over a disk of lists. No Go function is spoken of. No conditions.
-/
namespace Go.Proofs.YtinmmhbiomcdoaaGreatDoor
open Go.RowKit

/-! ### The frames that bytes begin with -/
theorem Fr.uniq {xs : List Int} {K K' : Nat} (h : Fr xs K) (h' : Fr xs K') : K = K' := by
  rcases Nat.lt_trichotomy K K' with hl | he | hg
  · exact absurd (h'.ok K hl) h.stop
  · exact he
  · exact absurd (h.ok K' hg) h'.stop
/-- How many frames bytes begin with. -/
noncomputable def numF (xs : List Int) : Nat := Classical.choose (fr_ex xs)
theorem numF_fr (xs : List Int) : Fr xs (numF xs) := Classical.choose_spec (fr_ex xs)
theorem numF_eq {xs : List Int} {K : Nat} (h : Fr xs K) : numF xs = K := (numF_fr xs).uniq h
/-- How many bytes they have, and the bodies. -/
noncomputable def goodF (xs : List Int) : Nat := atF xs (numF xs)
noncomputable def allF (xs : List Int) : List (List Int) := bodiesF xs (numF xs)
theorem goodF_le (xs : List Int) : goodF xs ≤ xs.length := ((numF_fr xs).at (Nat.le_refl _)).2
theorem allF_len (xs : List Int) : (allF xs).length = numF xs := bodiesF_len _ _
theorem numF_le (xs : List Int) : 9 * numF xs ≤ xs.length := Nat.le_trans ((numF_fr xs).at (Nat.le_refl _)).1 (goodF_le xs)
theorem allF_range {xs : List Int} (hr : ∀ x ∈ xs, 0 ≤ x ∧ x < 256) : ∀ p ∈ allF xs, ∀ y ∈ p, 0 ≤ y ∧ y < 256 := by
  intro p hp
  obtain ⟨k, _, rfl⟩ := List.mem_map.1 hp
  exact bodyF_range hr k
theorem good_torn (L : List (List Int)) (t : List Int) (hL : ∀ b ∈ L, 1 ≤ b.length ∧ b.length ≤ 65536) (ht : (oneF t).2.2 ≠ 0) :
    goodF ((L.map frB).flatten ++ t) = (L.map frB).flatten.length ∧ allF ((L.map frB).flatten ++ t) = L ∧ numF ((L.map frB).flatten ++ t) = L.length := by
  obtain ⟨h1, h2, h3⟩ := torn_fr L t hL ht
  have h := numF_eq h1
  exact ⟨by unfold goodF; rw [h, h3], by unfold allF; rw [h, h2], h⟩
theorem oneF_nil : oneF [] = ([], 0, 2) := by unfold oneF; rfl
theorem good_whole (L : List (List Int)) (hL : ∀ b ∈ L, 1 ≤ b.length ∧ b.length ≤ 65536) :
    goodF (L.map frB).flatten = (L.map frB).flatten.length ∧ allF (L.map frB).flatten = L ∧ numF (L.map frB).flatten = L.length := by
  have h := good_torn L [] hL (by rw [oneF_nil]; decide)
  rw [List.append_nil] at h
  exact h
/-- A first frame is there as long as its own bytes are. -/
theorem oneF_take {xs : List Int} (h : (oneF xs).2.2 = 0) (m : Nat) (hm : (oneF xs).2.1 ≤ m) : oneF (xs.take m) = oneF xs := by
  by_cases hle : xs.length ≤ m
  · rw [List.take_of_length_le hle]
  have hl : (xs.take m).length = m := by rw [List.length_take]; omega
  obtain ⟨e1, e2, e3, e4, e5⟩ := oneF_ok h
  have t4 : (xs.take m).take 4 = xs.take 4 := by rw [List.take_take, Nat.min_eq_left (by omega)]
  have d4 : ((xs.take m).drop 4).take 4 = (xs.drop 4).take 4 := by
    rw [List.drop_take, List.take_take, Nat.min_eq_left (by omega)]
  unfold oneF at h e1 hm ⊢
  rw [t4, d4, hl]
  split at h
  · cases h
  rename_i c1
  split at h
  · cases h
  rename_i c2
  split at h
  · cases h
  rename_i c3
  split at h
  · rename_i c4
    rw [if_neg c1, if_neg c2, if_neg c3, if_pos c4] at hm ⊢
    have hm' : 8 + (be (xs.take 4)).toNat ≤ m := hm
    have d8 : ((xs.take m).drop 8).take (be (xs.take 4)).toNat = (xs.drop 8).take (be (xs.take 4)).toNat := by
      rw [List.drop_take, List.take_take, Nat.min_eq_left (by omega)]
    rw [d8, if_neg (by omega), if_neg c2, if_neg (by omega), if_pos c4]
  · cases h
theorem at_take {xs : List Int} {K : Nat} (h : Fr xs K) : ∀ k, k ≤ K → atF (xs.take (atF xs K)) k = atF xs k ∧ ∀ j, j < k → oneF ((xs.take (atF xs K)).drop (atF xs j)) = oneF (xs.drop (atF xs j)) := by
  have mono : ∀ n k, k + n ≤ K → atF xs k ≤ atF xs (k + n) := by
    intro n
    induction n with
    | zero => intro k _; exact Nat.le_refl _
    | succ n ih =>
      intro k hk
      have := ih k (by omega)
      have := (h.body (k := k + n) (by omega)).2.2.1
      have e : k + (n + 1) = k + n + 1 := rfl
      rw [e]
      omega
  intro k
  induction k with
  | zero => intro _; exact ⟨rfl, fun j hj => absurd hj (Nat.not_lt_zero _)⟩
  | succ k ih =>
    intro hk
    obtain ⟨h1, h2⟩ := ih (by omega)
    have hs := (h.body (k := k) (by omega)).2.2.1
    have hm := mono (K - (k + 1)) (k + 1) (by omega)
    rw [show k + 1 + (K - (k + 1)) = K by omega] at hm
    have h3 : oneF ((xs.take (atF xs K)).drop (atF xs k)) = oneF (xs.drop (atF xs k)) := by
      rw [List.drop_take]
      refine oneF_take (h.ok k (by omega)) _ ?_
      have e1 := (oneF_ok (h.ok k (by omega))).1
      rw [e1]
      have : (oneF (xs.drop (atF xs k))).1 = bodyF xs k := rfl
      rw [this]
      omega
    refine ⟨?_, fun j hj => ?_⟩
    · show atF _ k + (oneF ((xs.take (atF xs K)).drop (atF _ k))).2.1 = atF xs k + (oneF (xs.drop (atF xs k))).2.1
      rw [h1, h3]
    · by_cases hjk : j = k
      · subst hjk; exact h3
      · exact h2 j (by omega)
/-- What is whole is all that is told of what is whole. -/
theorem good_take (xs : List Int) : goodF (xs.take (goodF xs)) = goodF xs ∧ allF (xs.take (goodF xs)) = allF xs ∧ numF (xs.take (goodF xs)) = numF xs := by
  have h := numF_fr xs
  have hA := at_take h
  have hle := goodF_le xs
  have hF : Fr (xs.take (atF xs (numF xs))) (numF xs) := by
    refine ⟨fun k hk => ?_, ?_⟩
    · unfold errF
      rw [(hA k (by omega)).1, (hA (k + 1) (by omega)).2 k (by omega)]
      exact h.ok k hk
    · unfold errF
      rw [(hA _ (Nat.le_refl _)).1, List.drop_of_length_le (by rw [List.length_take]; omega), oneF_nil]
      decide
  have hn := numF_eq hF
  refine ⟨?_, ?_, hn⟩
  · show atF (xs.take (atF xs (numF xs))) (numF (xs.take (atF xs (numF xs)))) = _
    rw [hn]
    exact (hA _ (Nat.le_refl _)).1
  · show bodiesF (xs.take (atF xs (numF xs))) (numF (xs.take (atF xs (numF xs)))) = bodiesF xs (numF xs)
    rw [hn]
    apply List.map_congr_left
    intro k hk
    have hk' := List.mem_range.1 hk
    unfold bodyF
    rw [(hA k (by omega)).1, (hA (k + 1) (by omega)).2 k (by omega)]

/-! ### The roll's calls -/
/-- What the file holds. -/
def heldR (D : DkV) (z : Int) : List Int := (D.f z.toNat).held
/-- Cut, and then synced. -/
def keD (D : DkV) (z n : Int) : DkV × Int := if (ctD D z n).2 = 0 then syD (ctD D z n).1 z else ctD D z n
/-- What Open does to the file. -/
noncomputable def mdD (D : DkV) (z : Int) : DkV × Int :=
  if goodF (heldR D z) < (heldR D z).length then keD D z (goodF (heldR D z) : Nat)
  else if 0 < (D.f z.toNat).units then syD D z else (D, 0)
/-- What Append does. -/
def prD (D : DkV) (z : Int) (b : List Int) : DkV × Int :=
  if b.length < 1 ∨ 65536 < b.length then (D, 1) else if (apD D z (frB b)).2 = 0 then syD (apD D z (frB b)).1 z else apD D z (frB b)
theorem keD_ok {D : DkV} {T : Nat} (h : D.Ok T) (z n : Int) : (keD D z n).1.Ok (T + 1) := by
  unfold keD
  split
  · exact syD_ok (ctD_ok h z n) z
  · exact ctD_ok h z n
theorem mdD_ok {D : DkV} {T : Nat} (h : D.Ok T) (z : Int) : (mdD D z).1.Ok (T + 1) := by
  unfold mdD
  split
  · exact keD_ok h z _
  · split
    · exact (syD_ok h z).more (Nat.le_succ T)
    · exact h.more (Nat.le_succ T)
theorem prD_ok {D : DkV} {T : Nat} (h : D.Ok T) (z : Int) (b : List Int) : (prD D z b).1.Ok (T + 1) := by
  unfold prD
  split
  · exact h.more (Nat.le_succ T)
  · split
    · exact syD_ok (apD_ok h z _) z
    · exact apD_ok h z _
theorem ctD_err (D : DkV) (z n : Int) : (ctD D z n).2 = 0 ∨ (ctD D z n).2 = 1 ∨ (ctD D z n).2 = 18 := by
  unfold ctD DkV.ans
  split
  · exact .inr (.inl rfl)
  split
  · exact .inr (.inr rfl)
  dsimp only
  split
  · exact .inr (.inr rfl)
  · exact .inl rfl
theorem apD_err (D : DkV) (z : Int) (b : List Int) : (apD D z b).2 = 0 ∨ (apD D z b).2 = 1 ∨ (apD D z b).2 = 17 ∨ (apD D z b).2 = 18 := by
  unfold apD DkV.ans
  split
  · exact .inr (.inl rfl)
  split
  · exact .inr (.inr (.inr rfl))
  split
  · exact .inr (.inr (.inl rfl))
  dsimp only
  split
  · exact .inr (.inr (.inr rfl))
  · exact .inl rfl
theorem syD_err (D : DkV) (z : Int) : (syD D z).2 = 0 ∨ (syD D z).2 = 1 ∨ (syD D z).2 = 18 := by
  unfold syD
  split
  · exact .inr (.inl rfl)
  split
  · exact .inr (.inr rfl)
  split
  · exact .inr (.inr rfl)
  · exact .inl rfl
/-- Without a fuse nothing goes down. -/
theorem burn_none {D : DkV} (h : D.fuse = 0) : D.burn = D := by unfold DkV.burn; rw [if_pos h]
theorem ctD_none {D : DkV} (hf : D.fuse = 0) (hd : D.down = false) {z n : Int} (hz : 0 ≤ z ∧ z < 3) (hn : 0 ≤ n) (hn' : n ≤ (heldR D z).length) :
    ctD D z n = (D.set z.toNat ((D.f z.toNat).step (.cut n.toNat)), 0) := by
  have hh := DkV.set_head D z.toNat ((D.f z.toNat).step (.cut n.toNat))
  have hb := burn_none (D := D.set z.toNat ((D.f z.toNat).step (.cut n.toNat))) (by rw [hh.2.1]; exact hf)
  unfold heldR at hn'
  unfold ctD
  rw [if_neg (by unfold noFile; omega), if_neg (by rw [hd]; decide), hb]
  unfold DkV.ans
  rw [if_neg (by rw [hh.2.2, hd]; decide)]
theorem syD_none {D : DkV} (hf : D.fuse = 0) (hd : D.down = false) {z : Int} (hz : 0 ≤ z ∧ z < 3) :
    syD D z = (D.set z.toNat ⟨heldR D z, []⟩, 0) := by
  unfold syD
  rw [if_neg (by unfold noFile; omega), if_neg (by rw [hd]; decide), burn_none hf, if_neg (by rw [hd]; decide)]
  rfl
theorem toNat_lt3 {z : Int} (hz : 0 ≤ z ∧ z < 3) : z.toNat < 3 := by omega
theorem set_set (D : DkV) (i : Nat) (u v : FlV) : (D.set i u).set i v = D.set i v := by
  unfold DkV.set
  split
  · rfl
  · split <;> rfl
/-- What a disk without a fuse is, behind Open. -/
theorem mdD_none {D : DkV} (hf : D.fuse = 0) (hd : D.down = false) {z : Int} (hz : 0 ≤ z ∧ z < 3) : (mdD D z).2 = 0 := by
  unfold mdD
  split
  · have hc := ctD_none hf hd hz (n := (goodF (heldR D z) : Nat)) (Int.natCast_nonneg _) (Int.ofNat_le.2 (goodF_le _))
    have hh := DkV.set_head D z.toNat ((D.f z.toNat).step (.cut (goodF (heldR D z) : Nat)))
    unfold keD
    rw [hc, if_pos rfl, syD_none (by rw [Int.toNat_natCast, hh.2.1]; exact hf) (by rw [Int.toNat_natCast, hh.2.2]; exact hd) hz]
  · split
    · rw [syD_none hf hd hz]
    · rfl

/-! ### What the files hold are bytes -/
def isByte (x : Int) : Prop := 0 ≤ x ∧ x < 256
def StV.By (s : StV) : Prop := match s with
  | .put xs => ∀ x ∈ xs, isByte x
  | .cut _ => True
structure FlV.By (v : FlV) : Prop where
  k : ∀ x ∈ v.K, isByte x
  s : ∀ s ∈ v.S, s.By
structure DkV.By (D : DkV) : Prop where
  b0 : D.f0.By
  b1 : D.f1.By
  b2 : D.f2.By
theorem DkV.By.f {D : DkV} (h : D.By) (i : Nat) : (D.f i).By := by
  unfold DkV.f
  split
  · exact h.b0
  · split
    · exact h.b1
    · exact h.b2
theorem act_by (s : StV) (hs : s.By) (b : List Int) (hb : ∀ x ∈ b, isByte x) (u : Nat) : ∀ x ∈ s.act b u, isByte x := by
  cases s with
  | put xs =>
    intro x hx
    rcases List.mem_append.1 hx with h | h
    · exact hb x h
    · exact hs x (List.mem_of_mem_take h)
  | cut n =>
    intro x hx
    unfold StV.act at hx
    dsimp only at hx
    split at hx
    · exact hb x hx
    · exact hb x (List.mem_of_mem_take hx)
theorem allL_by : ∀ (S : List StV) (K : List Int), (∀ x ∈ K, isByte x) → (∀ s ∈ S, s.By) → ∀ x ∈ allL K S, isByte x
  | [], _, hK, _ => hK
  | s :: r, K, hK, hS => allL_by r _ (act_by s (hS s (List.mem_cons_self ..)) K hK _) (fun t ht => hS t (List.mem_cons_of_mem _ ht))
theorem doneL_by : ∀ (S : List StV) (K : List Int) (u : Nat), (∀ x ∈ K, isByte x) → (∀ s ∈ S, s.By) → ∀ x ∈ doneL K S u, isByte x
  | [], _, _, hK, _ => hK
  | s :: r, K, _, hK, hS => doneL_by r _ _ (act_by s (hS s (List.mem_cons_self ..)) K hK _) (fun t ht => hS t (List.mem_cons_of_mem _ ht))
theorem FlV.By.held {v : FlV} (h : v.By) : ∀ x ∈ v.held, isByte x := allL_by v.S v.K h.k h.s
theorem FlV.By.step {v : FlV} (h : v.By) (s : StV) (hs : s.By) : (v.step s).By := ⟨h.k, fun t ht => by
  rcases List.mem_append.1 ht with h1 | h1
  · exact h.s t h1
  · rw [List.mem_singleton.1 h1]; exact hs⟩
theorem FlV.By.settle {v : FlV} (h : v.By) (u : Nat) : (v.settle u).By := ⟨doneL_by v.S v.K u h.k h.s, fun _ h => absurd h (List.not_mem_nil)⟩
theorem DkV.By.set {D : DkV} (h : D.By) (i : Nat) {v : FlV} (hv : v.By) : (D.set i v).By := by
  unfold DkV.set
  split
  · exact ⟨hv, h.b1, h.b2⟩
  · split
    · exact ⟨h.b0, hv, h.b2⟩
    · exact ⟨h.b0, h.b1, hv⟩
theorem DkV.By.burn {D : DkV} (h : D.By) : D.burn.By := by
  unfold DkV.burn
  split
  · exact h
  · exact ⟨h.b0, h.b1, h.b2⟩
theorem apD_by {D : DkV} (h : D.By) (z : Int) (b : List Int) (hb : ∀ x ∈ b, isByte x) : (apD D z b).1.By := by
  unfold apD
  split
  · exact h
  split
  · exact h
  split
  · exact h
  exact (h.set _ ((h.f _).step (.put b) hb)).burn
theorem ctD_by {D : DkV} (h : D.By) (z n : Int) : (ctD D z n).1.By := by
  unfold ctD
  split
  · exact h
  split
  · exact h
  exact (h.set _ ((h.f _).step (.cut n.toNat) trivial)).burn
theorem syD_by {D : DkV} (h : D.By) (z : Int) : (syD D z).1.By := by
  unfold syD
  split
  · exact h
  split
  · exact h
  split
  · exact h.burn
  exact h.burn.set _ ⟨(h.f _).held, fun _ h => absurd h (List.not_mem_nil)⟩
theorem armD_by {D : DkV} (h : D.By) (n : Int) : (armD D n).By := ⟨h.b0, h.b1, h.b2⟩
theorem crD_by {D : DkV} (h : D.By) (us : List Int) : (crD D us).By := ⟨h.b0.settle _, h.b1.settle _, h.b2.settle _⟩
theorem keD_by {D : DkV} (h : D.By) (z n : Int) : (keD D z n).1.By := by
  unfold keD
  split
  · exact syD_by (ctD_by h z n) z
  · exact ctD_by h z n
theorem mdD_by {D : DkV} (h : D.By) (z : Int) : (mdD D z).1.By := by
  unfold mdD
  split
  · exact keD_by h z _
  · split
    · exact syD_by h z
    · exact h
theorem prD_by {D : DkV} (h : D.By) (z : Int) (b : List Int) (hb : ∀ x ∈ b, isByte x) : (prD D z b).1.By := by
  unfold prD
  split
  · exact h
  · split
    · exact syD_by (apD_by h z _ (frB_range hb)) z
    · exact apD_by h z _ (frB_range hb)
theorem dk0_by (r : Int) : (dk0 r).By := ⟨⟨fun _ h => absurd h (List.not_mem_nil), fun _ h => absurd h (List.not_mem_nil)⟩, ⟨fun _ h => absurd h (List.not_mem_nil), fun _ h => absurd h (List.not_mem_nil)⟩, ⟨fun _ h => absurd h (List.not_mem_nil), fun _ h => absurd h (List.not_mem_nil)⟩⟩
end Go.Proofs.YtinmmhbiomcdoaaGreatDoor

/-
  What the landed disk's Append, Cut and Sync come to. The disk's own blocks are written, and new memory. Conditions: a disk that New made; fewer than 2^42 steps.
-/
namespace Go.Proofs.YtinmmhbiomcdoaaGreatDoor
open Go.RowKit

theorem file_cases (file : Int) : noFile file ∨ ∃ i : Nat, i < 3 ∧ file = (i : Int) := by
  by_cases h : noFile file
  · exact .inl h
  · unfold noFile at h
    exact .inr ⟨file.toNat, by omega, by omega⟩
theorem noFile_nat {i : Nat} (hi : i < 3) : ¬ noFile (i : Int) := by unfold noFile; omega
theorem DkIs.cells {L : Nat → Nat} {P : Nat → Prop} {w : World} {g : Nat} {D : DkV} (h : DkIs L P w g D) :
    w.cell? ⟨g, 0, none⟩ = some (.int .i64 D.room) ∧ w.cell? ⟨g, 1, none⟩ = some (.int .i64 D.fuse) ∧ w.cell? ⟨g, 2, none⟩ = some (.bool D.down) := by
  obtain ⟨x0, x1, x2, h⟩ := h
  exact dcells h.b

set_option maxRecDepth 100000 in
set_option maxHeartbeats 1000000 in
theorem dAppend_any {L : Nat → Nat} {P : Nat → Prop} {w : World} {g : Nat} {D : DkV} {T : Nat} {file : Int} {a : Option Addr} {n c : Nat} {bs : List Int} (h : DkIs L P w g D) (hO : D.Ok T) (hT : T < 4398046511104) (hI : Ints .u8 w a n c bs) :
    Calls Tryz.prog 26 #[.pointer (some ⟨g, 0, none⟩), .int .i64 file, .slice a n c] w fun q w' => q = .returned (.int .i64 (apD D file bs).2) ∧ DkTo L P w g w' (apD D file bs).1 := by
  have hr := hO.room
  obtain ⟨c0, c1, c2⟩ := h.cells
  rcases file_cases file with hf | ⟨i, hi, rfl⟩
  · have hF := dFind_no c0 (by omega) file hf
    unfold apD
    rw [if_pos hf]
    have hst := DkTo.stay h (Below.refl _ _)
    clear hI h hO
    go_enter Tryz.func26, Tryz.ntmps26
    go_wp2_with fail
    refine hF.mono ?_
    rintro q w1 ⟨rfl, rfl⟩
    go_wp2
    go_ret
    exact ⟨rfl, hst⟩
  have hF := dFind_any c0 (by omega) i hi
  unfold apD
  rw [if_neg (noFile_nat hi), Int.toNat_natCast]
  cases hd : D.down with
  | true =>
    rw [if_pos rfl]
    have hst := DkTo.stay h (Below.refl _ _)
    rw [hd] at c2
    clear hI h hO hd
    go_enter Tryz.func26, Tryz.ntmps26
    go_wp2_with fail
    refine hF.mono ?_
    rintro q w1 ⟨rfl, rfl⟩
    go_wp2
    go_ret
    exact ⟨rfl, hst⟩
  | false =>
    rw [if_neg (by decide)]
    rw [hd] at c2
    have hS := dSpareD h hO i hi
    have hfit := spare_fits hO i bs
    have hlen := hI.len
    rw [hlen] at hfit
    obtain ⟨Sp, hSp⟩ : ∃ Sp : Int, ((D.f i).need : Int) - (D.f i).held.length + D.room - (D.used : Nat) = Sp := ⟨_, rfl⟩
    rw [hSp] at hS hfit
    by_cases hlt : Sp < (n : Int)
    · rw [if_pos (hfit.1 hlt)]
      have hst := fun w' hb => DkTo.stay (w' := w') h hb
      clear hI h hO hd hfit hSp
      go_enter Tryz.func26, Tryz.ntmps26
      go_wp2_with fail
      refine hF.mono ?_
      rintro q w1 ⟨rfl, rfl⟩
      go_wp2_with fail
      refine hS.mono ?_
      rintro q w2 ⟨rfl, hB⟩
      go_wp2
      go_ret
      exact ⟨rfl, hst w2 hB⟩
    · rw [if_neg (fun e => hlt (hfit.2 e))]
      have hn5 : n ≤ 65536 := by
        have h5 := FlV.held_le (D.f i)
        have h6 := (hO.f i).need
        have h8 : (D.f i).need ≤ D.used := by
          unfold DkV.f DkV.used
          split
          · omega
          · split <;> omega
        omega
      have hh5 : (D.f i).held.length + bs.length ≤ 65536 := by
        have h5 := FlV.held_le (D.f i)
        have h8 : (D.f i).need ≤ D.used := by
          unfold DkV.f DkV.used
          split
          · omega
          · split <;> omega
        omega
      obtain ⟨D1, hD1⟩ : ∃ D1, D.set i ((D.f i).step (.put bs)) = D1 := ⟨_, rfl⟩
      have hO1 := FlV.step_ok (hO.f i) (.put bs) trivial (by rw [put_len]; exact hh5) (by simp only [StV.units]; omega)
      have hu1 : (D1.used : Int) ≤ D.room := by
        rw [← hD1]
        have := mt hfit.2 hlt
        omega
      have hOO : D1.Ok (T + 1) := by
        rw [← hD1] at hu1 ⊢
        exact DkV.set_ok (hO.more (Nat.le_succ T)) i _ hO1 hu1
      have hd1 : D1.down = false := by rw [← hD1, (DkV.set_head D i _).2.2]; exact hd
      rw [hD1]
      have hOH := Lib.hid hO
      have hOOH := Lib.hid hOO
      have hdH := Lib.hid hd1
      have hDH := Lib.hid hD1
      have hlH := Lib.hid hlen
      have hnH := Lib.hid hn5
      have hhH := Lib.hid hh5
      clear hO hOO hd1 hD1 hlen hn5 hh5 hfit hSp hd hO1 hu1
      go_enter Tryz.func26, Tryz.ntmps26
      go_wp2_with fail
      refine hF.mono ?_
      rintro q w1 ⟨rfl, rfl⟩
      go_wp2_with fail
      refine hS.mono ?_
      rintro q w2 ⟨rfl, hB2⟩
      have hC := pClone_any a n c bs w2 (hI.keep hB2) (by have := hnH.out; omega)
      go_wp2_with fail
      refine hC.mono ?_
      rintro q w3 ⟨a3, c3, rfl, ho3, hB3⟩
      have hB13 := hB2.trans (hB3.mono hB2.size)
      have h3 : DkIs L (fun b => P b ∨ ∃ z, a3 = some z ∧ z.block = b) w3 g D := by
        obtain ⟨x0, x1, x2, h9⟩ := h.keep hB13
        obtain ⟨_, _, _, h8⟩ := h
        refine ⟨x0, x1, x2, h9.more (fun b hb => .inl hb) ?_⟩
        rintro b (hb | ⟨z, hz, hb⟩)
        · exact .inl hb
        · have h7 := ho3.lt b (by rw [hz, ← hb]; rfl)
          refine .inr ⟨h7.2, ?_⟩
          by_cases h0 : L b = 0
          · exact h0
          · have h6 := h8.lab.l b h0
            have := hB2.size
            omega
      have hW3 : Went L P w L (fun b => P b ∨ ∃ z, a3 = some z ∧ z.block = b) w3 := by
        refine ⟨Moved.of_below hB13, fun _ _ => rfl, fun _ h => .inl h, ?_⟩
        rintro b (hb | ⟨z, hz, hb⟩)
        · exact .inl hb
        · have h7 := ho3.lt b (by rw [hz, ← hb]; rfl)
          have := hB2.size
          exact .inr (by omega)
      have hI3 : Ints .u8 w3 a3 bs.length c3 bs := by rw [hlH.out]; exact own_ints' ho3
      have hTk := dTakePut h3 hOH.out hT i hi hI3 (fun z hz => .inr ⟨z, hz, rfl⟩) hhH.out
      rw [hDH.out, hlH.out] at hTk
      clear hI3 ho3 h3 hC hB13 hB3 hB2 hI h hS hF
      go_wp2_with fail
      refine hTk.mono ?_
      rintro q w4 ⟨rfl, L4, P4, h4, hW4⟩
      have hCt := dCountD h4 hOOH.out hdH.out
      go_wp2_with fail
      refine hCt.mono ?_
      rintro q w5 ⟨rfl, L5, P5, h5, hW5⟩
      go_wp2
      go_ret
      exact ⟨rfl, L5, P5, h5, hW3.trans (hW4.trans hW5)⟩

set_option maxRecDepth 100000 in
set_option maxHeartbeats 1000000 in
theorem dCut_any {L : Nat → Nat} {P : Nat → Prop} {w : World} {g : Nat} {D : DkV} {T : Nat} {file k : Int} (h : DkIs L P w g D) (hO : D.Ok T) (hT : T < 4398046511104) :
    Calls Tryz.prog 127 #[.pointer (some ⟨g, 0, none⟩), .int .i64 file, .int .i64 k] w fun q w' => q = .returned (.int .i64 (ctD D file k).2) ∧ DkTo L P w g w' (ctD D file k).1 := by
  have hr := hO.room
  obtain ⟨c0, c1, c2⟩ := h.cells
  rcases file_cases file with hf | ⟨i, hi, rfl⟩
  · have hF := dFind_no c0 (by omega) file hf
    unfold ctD
    rw [if_pos (.inl hf)]
    have hst := DkTo.stay h (Below.refl _ _)
    clear h hO
    go_enter Tryz.func127, Tryz.ntmps127
    go_wp2_with fail
    refine hF.mono ?_
    rintro q w1 ⟨rfl, rfl⟩
    go_wp2
    go_ret
    exact ⟨rfl, hst⟩
  have hF := dFind_any c0 (by omega) i hi
  obtain ⟨d2, hd2⟩ : ∃ x : FaV, w.cell? ⟨g, 3 + 5 * i + 2, none⟩ = some (.slice x.ha (D.f i).held.length x.hc) := by
    obtain ⟨x0, x1, x2, h9⟩ := h
    obtain ⟨x, hx, hc⟩ := h9.fl i hi
    exact ⟨x, (fcells h9.b hc).2.2.1⟩
  unfold ctD
  rw [Int.toNat_natCast]
  by_cases hbad : k < 0 ∨ ((D.f i).held.length : Int) < k
  · rw [if_pos (.inr hbad)]
    have hst := DkTo.stay h (Below.refl _ _)
    clear h hO
    by_cases hk0 : k < 0
    · go_enter Tryz.func127, Tryz.ntmps127
      go_wp2_with fail
      refine hF.mono ?_
      rintro q w1 ⟨rfl, rfl⟩
      go_wp2
      go_ret
      exact ⟨rfl, hst⟩
    · have hk1 : ((D.f i).held.length : Int) < k := by omega
      clear hbad
      go_enter Tryz.func127, Tryz.ntmps127
      go_wp2_with fail
      refine hF.mono ?_
      rintro q w1 ⟨rfl, rfl⟩
      go_wp2
      go_ret
      exact ⟨rfl, hst⟩
  obtain ⟨j, rfl⟩ : ∃ j : Nat, k = (j : Int) := ⟨k.toNat, by omega⟩
  have hj0 : ¬ (j : Int) < 0 := by omega
  have hj1 : ¬ ((D.f i).held.length : Int) < (j : Int) := by omega
  rw [if_neg (fun e => e.elim (noFile_nat hi) hbad), Int.toNat_natCast]
  clear hbad
  cases hd : D.down with
  | true =>
    rw [if_pos rfl]
    have hst := DkTo.stay h (Below.refl _ _)
    rw [hd] at c2
    clear h hO hd
    go_enter Tryz.func127, Tryz.ntmps127
    go_wp2_with fail
    refine hF.mono ?_
    rintro q w1 ⟨rfl, rfl⟩
    go_wp2
    go_ret
    exact ⟨rfl, hst⟩
  | false =>
    rw [if_neg (by decide)]
    rw [hd] at c2
    obtain ⟨D1, hD1⟩ : ∃ D1, D.set i ((D.f i).step (.cut j)) = D1 := ⟨_, rfl⟩
    have hjl : j ≤ (D.f i).held.length := by omega
    have hcl := cut_len j (D.f i).held
    have hh := FlV.held_le (D.f i)
    have hnd := (hO.f i).need
    have hO1 := FlV.step_ok (hO.f i) (.cut j) hjl (by omega) (by simp [StV.units])
    have hu1 : (D1.used : Int) ≤ D.room := by
      rw [← hD1]
      have h1 := DkV.set_used D i ((D.f i).step (.cut j))
      have h2 := FlV.step_need (D.f i) (.cut j)
      have h4 := hO.used
      omega
    have hOO : D1.Ok (T + 1) := by
      rw [← hD1] at hu1 ⊢
      exact DkV.set_ok (hO.more (Nat.le_succ T)) i _ hO1 hu1
    have hd1 : D1.down = false := by rw [← hD1, (DkV.set_head D i _).2.2]; exact hd
    have hTk := dTakeCut h hO hT i hi hjl
    rw [hD1] at hTk ⊢
    have hOOH := Lib.hid hOO
    have hdH := Lib.hid hd1
    clear hO hOO hd1 hD1 hd hO1 hu1 hjl hcl hh hnd h
    go_enter Tryz.func127, Tryz.ntmps127
    go_wp2_with fail
    refine hF.mono ?_
    rintro q w1 ⟨rfl, rfl⟩
    go_wp2_with fail
    refine hTk.mono ?_
    rintro q w4 ⟨rfl, L4, P4, h4, hW4⟩
    have hCt := dCountD h4 hOOH.out hdH.out
    go_wp2_with fail
    refine hCt.mono ?_
    rintro q w5 ⟨rfl, L5, P5, h5, hW5⟩
    go_wp2
    go_ret
    exact ⟨rfl, L5, P5, h5, hW4.trans hW5⟩

set_option maxRecDepth 100000 in
set_option maxHeartbeats 1000000 in
theorem dSync_any {L : Nat → Nat} {P : Nat → Prop} {w : World} {g : Nat} {D : DkV} {T : Nat} {file : Int} (h : DkIs L P w g D) (hO : D.Ok T) (hT : T ≤ 4398046511104) :
    Calls Tryz.prog 85 #[.pointer (some ⟨g, 0, none⟩), .int .i64 file] w fun q w' => q = .returned (.int .i64 (syD D file).2) ∧ DkTo L P w g w' (syD D file).1 := by
  have hr := hO.room
  obtain ⟨c0, c1, c2⟩ := h.cells
  rcases file_cases file with hf | ⟨i, hi, rfl⟩
  · have hF := dFind_no c0 (by omega) file hf
    unfold syD
    rw [if_pos hf]
    have hst := DkTo.stay h (Below.refl _ _)
    clear h hO
    go_enter Tryz.func85, Tryz.ntmps85
    go_wp2_with fail
    refine hF.mono ?_
    rintro q w1 ⟨rfl, rfl⟩
    go_wp2
    go_ret
    exact ⟨rfl, hst⟩
  have hF := dFind_any c0 (by omega) i hi
  unfold syD
  rw [if_neg (noFile_nat hi), Int.toNat_natCast]
  cases hd : D.down with
  | true =>
    rw [if_pos rfl]
    have hst := DkTo.stay h (Below.refl _ _)
    rw [hd] at c2
    clear h hO hd
    go_enter Tryz.func85, Tryz.ntmps85
    go_wp2_with fail
    refine hF.mono ?_
    rintro q w1 ⟨rfl, rfl⟩
    go_wp2
    go_ret
    exact ⟨rfl, hst⟩
  | false =>
    rw [if_neg (by decide)]
    rw [hd] at c2
    have hCt := dCountD h hO hd
    cases hb : D.burn.down with
    | true =>
      have ha : D.burn.ans = 18 := by unfold DkV.ans; rw [hb]; rfl
      rw [ha] at hCt
      rw [if_pos rfl]
      clear h hO hd hb ha
      go_enter Tryz.func85, Tryz.ntmps85
      go_wp2_with fail
      refine hF.mono ?_
      rintro q w1 ⟨rfl, rfl⟩
      go_wp2_with fail
      refine hCt.mono ?_
      rintro q w2 ⟨rfl, hTo⟩
      go_wp2
      go_ret
      exact ⟨rfl, hTo⟩
    | false =>
      have ha : D.burn.ans = 0 := by unfold DkV.ans; rw [hb]; rfl
      rw [ha] at hCt
      rw [if_neg (by decide)]
      have hOb := DkV.burn_ok hO
      have hfi : D.burn.f i = D.f i := by unfold DkV.burn; split <;> rfl
      have hset : (D.burn.f i).settle (D.burn.f i).units = ⟨(D.f i).held, []⟩ := by
        rw [hfi]
        unfold FlV.settle FlV.units FlV.held
        rw [doneL_all _ _ _ (Nat.le_refl _)]
      have hSt := fun (L2 : Nat → Nat) (P2 : Nat → Prop) (w2 : World) (h2 : DkIs L2 P2 w2 g D.burn) => dSettleD h2 hOb hT i hi (D.burn.f i).units (Nat.le_refl _)
      rw [hset] at hSt
      have hce := fun (L2 : Nat → Nat) (P2 : Nat → Prop) (w2 : World) (h2 : DkIs L2 P2 w2 g D.burn) => (show w2.cell? ⟨g, 3 + 5 * i + 4, none⟩ = some (.int .i64 ((D.burn.f i).units : Nat)) by
        obtain ⟨x0, x1, x2, h9⟩ := h2
        obtain ⟨x, hx, hc⟩ := h9.fl i hi
        exact (fcells h9.b hc).2.2.2.2)
      obtain ⟨U, hU⟩ : ∃ U, (D.burn.f i).units = U := ⟨_, rfl⟩
      rw [hU] at hSt hce
      have hSH := Lib.hid hSt
      have hcH := Lib.hid hce
      clear h hO hd hb ha hOb hfi hset hU hSt hce
      go_enter Tryz.func85, Tryz.ntmps85
      go_wp2_with fail
      refine hF.mono ?_
      rintro q w1 ⟨rfl, rfl⟩
      go_wp2_with fail
      refine hCt.mono ?_
      rintro q w2 ⟨rfl, L2, P2, h2, hW2⟩
      have e4 := hcH.out L2 P2 w2 h2
      have hS2 := hSH.out L2 P2 w2 h2
      clear hSH hcH
      go_wp2_with fail
      refine hS2.mono ?_
      rintro q w3 ⟨rfl, L3, P3, h3, hW3⟩
      go_wp2
      go_ret
      exact ⟨rfl, L3, P3, h3, hW2.trans hW3⟩
end Go.Proofs.YtinmmhbiomcdoaaGreatDoor

/-
  What the landed disk's Arm and Crash come to. The disk's own blocks are written, and new memory. Conditions: a disk that New made; at most 2^42 steps; the numbers that are handed in lie in none of the disk's own blocks.
-/
namespace Go.Proofs.YtinmmhbiomcdoaaGreatDoor
open Go.RowKit

theorem dArmD {L : Nat → Nat} {P : Nat → Prop} {w : World} {g : Nat} {D : DkV} {T : Nat} (h : DkIs L P w g D) (hO : D.Ok T) (n : Int) :
    Calls Tryz.prog 16 #[.pointer (some ⟨g, 0, none⟩), .int .i64 n] w fun q w' => q = .returned (.tuple #[]) ∧ DkTo L P w g w' (armD D n) := by
  obtain ⟨x0, x1, x2, h⟩ := h
  have hr := hO.room
  refine (dArm_any (n := n) h.b (r := D.room) rfl ⟨D.fuse, rfl⟩ (by omega)).mono ?_
  rintro q w' ⟨rfl, hb, hg⟩
  obtain ⟨k1, k2⟩ := h.head (D' := armD D n) hg hb rfl rfl rfl
  exact ⟨rfl, L, P, ⟨x0, x1, x2, k1⟩, k2⟩

/-- A disk of which the first j files have crashed. -/
def crP (D : DkV) (us : List Int) (j : Nat) : DkV := { D with f0 := if 0 < j then D.f0.settle (leftU D.f0 us 0) else D.f0, f1 := if 1 < j then D.f1.settle (leftU D.f1 us 1) else D.f1, f2 := if 2 < j then D.f2.settle (leftU D.f2 us 2) else D.f2 }
theorem crP_zero (D : DkV) (us : List Int) : crP D us 0 = D := rfl
theorem crP_three (D : DkV) (us : List Int) : { crP D us 3 with fuse := 0, down := false } = crD D us := rfl
theorem crP_f (D : DkV) (us : List Int) (j : Nat) (hj : j < 3) : (crP D us j).f j = D.f j := by
  match j, hj with
  | 0, _ => rfl
  | 1, _ => rfl
  | 2, _ => rfl
theorem crP_succ (D : DkV) (us : List Int) (j : Nat) (hj : j < 3) : (crP D us j).set j ((D.f j).settle (leftU (D.f j) us j)) = crP D us (j + 1) := by
  match j, hj with
  | 0, _ => rfl
  | 1, _ => rfl
  | 2, _ => rfl
theorem crP_ok {D : DkV} {T : Nat} (h : D.Ok T) (us : List Int) (j : Nat) : (crP D us j).Ok T := by
  have h0 := h.used
  have h1 := FlV.settle_need (v := D.f0) (leftU D.f0 us 0)
  have h2 := FlV.settle_need (v := D.f1) (leftU D.f1 us 1)
  have h3 := FlV.settle_need (v := D.f2) (leftU D.f2 us 2)
  have k0 : (if 0 < j then D.f0.settle (leftU D.f0 us 0) else D.f0).Ok T ∧ (if 0 < j then D.f0.settle (leftU D.f0 us 0) else D.f0).need ≤ D.f0.need := by
    split
    · exact ⟨FlV.settle_ok h.o0 _, h1⟩
    · exact ⟨h.o0, Nat.le_refl _⟩
  have k1 : (if 1 < j then D.f1.settle (leftU D.f1 us 1) else D.f1).Ok T ∧ (if 1 < j then D.f1.settle (leftU D.f1 us 1) else D.f1).need ≤ D.f1.need := by
    split
    · exact ⟨FlV.settle_ok h.o1 _, h2⟩
    · exact ⟨h.o1, Nat.le_refl _⟩
  have k2 : (if 2 < j then D.f2.settle (leftU D.f2 us 2) else D.f2).Ok T ∧ (if 2 < j then D.f2.settle (leftU D.f2 us 2) else D.f2).need ≤ D.f2.need := by
    split
    · exact ⟨FlV.settle_ok h.o2 _, h3⟩
    · exact ⟨h.o2, Nat.le_refl _⟩
  refine ⟨h.room, h.fuse, ?_, k0.1, k1.1, k2.1⟩
  unfold DkV.used at h0 ⊢
  show (((if 0 < j then D.f0.settle (leftU D.f0 us 0) else D.f0).need + (if 1 < j then D.f1.settle (leftU D.f1 us 1) else D.f1).need + (if 2 < j then D.f2.settle (leftU D.f2 us 2) else D.f2).need : Nat) : Int) ≤ D.room
  have := k0.2
  have := k1.2
  have := k2.2
  omega
theorem DkIs.units {L : Nat → Nat} {P : Nat → Prop} {w : World} {g : Nat} {D : DkV} (h : DkIs L P w g D) (i : Nat) (hi : i < 3) : w.cell? ⟨g, 3 + 5 * i + 4, none⟩ = some (.int .i64 ((D.f i).units : Nat)) := by
  obtain ⟨x0, x1, x2, h9⟩ := h
  obtain ⟨x, hx, hc⟩ := h9.fl i hi
  exact (fcells h9.b hc).2.2.2.2
/-- Numbers in none of the disk's own blocks. -/
def OutOf (L : Nat → Nat) (a : Option Addr) (n : Nat) : Prop := ∀ x, a = some x → 0 < n → L x.block = 0
theorem Went.ints {L L' : Nat → Nat} {P P' : Nat → Prop} {w w' : World} (h : Went L P w L' P' w') {k : IntKind} {a : Option Addr} {n c : Nat} {xs : List Int} (hI : Ints k w a n c xs) (ho : OutOf L a n) : Ints k w' a n c xs := by
  refine ⟨hI.1, hI.2.1, ?_⟩
  rcases hI.2.2 with h0 | ⟨b, off, ha, hc⟩
  · exact .inl h0
  · by_cases hn : n = 0
    · exact .inl hn
    · refine .inr ⟨b, off, ha, fun i hi => ?_⟩
      have h1 := hc i hi
      have h2 := h.m.2 b (World.block_lt_of_cell? w _ h1) (fun e => e (ho _ ha (by omega)))
      unfold World.cell? at h1 ⊢
      rw [h2]
      exact h1

set_option maxRecDepth 100000 in
set_option maxHeartbeats 1000000 in
theorem dCrash_any {L : Nat → Nat} {P : Nat → Prop} {w : World} {g : Nat} {D : DkV} {T : Nat} {a : Option Addr} {n c : Nat} {us : List Int} (h : DkIs L P w g D) (hO : D.Ok T) (hT : T ≤ 4398046511104) (hI : Ints .i64 w a n c us) (ho : OutOf L a n) :
    Calls Tryz.prog 18 #[.pointer (some ⟨g, 0, none⟩), .slice a n c] w fun q w' => q = .returned (.tuple #[]) ∧ DkTo L P w g w' (crD D us) := by
  have hr := hO.room
  obtain ⟨c0, c1, c2⟩ := h.cells
  have hM := dMade_any c0 (by omega)
  have hlen := hI.len
  go_enter Tryz.func18, Tryz.ntmps18
  go_wp2_with fail
  refine hM.mono ?_
  rintro q w1 ⟨rfl, rfl⟩
  go_wp2_with fail
  go_loopw [10] (fun i wr => ∃ j : Nat, j ≤ 3 ∧ i = .int .i64 j ∧ DkTo L P w g wr (crP D us j)) (fun i _ => 3 - (intOf i).toNat)
  case atStart => exact ⟨0, Nat.zero_le _, rfl, DkTo.stay h (Below.refl _ _)⟩
  case round =>
    clear c0 c1 c2
    obtain ⟨j, hj, rfl, L2, P2, h2, hW⟩ := hrel
    by_cases hlt : j < 3
    · have hji : (j : Int) < 3 := by omega
      have hfj := crP_f D us j hlt
      have hsu := crP_succ D us j hlt
      have hSt := fun (w2 : World) (h3 : DkIs L2 P2 w2 g (crP D us j)) => dSettleD h3 (crP_ok hO us j) hT j hlt (leftU (D.f j) us j) (by rw [hfj]; exact leftU_le _ _ _)
      rw [hfj, hsu] at hSt
      have hun := h2.units j hlt
      rw [hfj] at hun
      have huB := (hO.f j).un
      rw [Nat.mul_comm] at hun
      rw [Nat.mul_comm 5 j] at hSt
      have hIr := hW.ints hI ho
      obtain ⟨U, hU⟩ : ∃ U, (D.f j).units = U := ⟨_, rfl⟩
      rw [hU] at hun huB
      have hlv : leftU (D.f j) us j = if j < us.length then (us.getD j 0 % ((U : Int) + 1)).toNat else 0 := by unfold leftU; rw [hU]
      have h2H := Lib.hid h2
      have hWH := Lib.hid hW
      have hltH := Lib.hid hlt
      have hOH := Lib.hid hO
      by_cases hjn : j < n
      · have hjn2 : (j : Int) < (n : Int) := by omega
        obtain ⟨b, off, rfl, hc⟩ := hIr.at (by omega)
        have hcj := hc j hjn
        rw [if_pos (by omega)] at hlv
        obtain ⟨z, hz⟩ : ∃ z, us.getD j 0 = z := ⟨_, rfl⟩
        rw [hz] at hcj hlv
        have hMd := fun k => dModulo_any (w := wr.drewN k) z (U + 1) (by omega) (by omega)
        have hnn := Int.emod_nonneg z (show ((U : Int) + 1) ≠ 0 by omega)
        rw [show ((U + 1 : Nat) : Int) = (U : Int) + 1 by omega] at hMd
        obtain ⟨M, hMM⟩ : ∃ M : Nat, leftU (D.f j) us j = M := ⟨_, rfl⟩
        rw [hMM] at hlv hSt
        have hME : z % ((U : Int) + 1) = (M : Int) := by omega
        rw [hME] at hMd
        have hwU : IntKind.i64.wrap ((U : Int) + 1) = (U : Int) + 1 := by rw [IntKind.wrap_i64]; omega
        clear hj hlt hIr hc hlv hnn hMM hME hfj hsu hU h2 hW hI ho hO h huB hT hlen hz
        go_wp2
        go_quiet (refine Calls.quiet_of_same (hMd _))
        have h3 : DkIs L2 P2 (wr.drewN nq) g (crP D us j) := h2H.out.keep (below_drewN (Below.refl _ _) nq)
        have hS3 := hSt _ h3
        have hB3 : Below wr.heap.size wr (wr.drewN nq) := below_drewN (Below.refl _ _) nq
        obtain ⟨W3, hW3⟩ : ∃ W3, wr.drewN nq = W3 := ⟨_, rfl⟩
        rw [hW3] at hS3 hB3 ⊢
        clear hW3 h3 hSt hun hcj
        go_wp2_with fail
        refine hS3.mono ?_
        rintro q w4 ⟨rfl, L4, P4, h4, hW4⟩
        go_wp2
        exact ⟨⟨j + 1, by have := hltH.out; omega, by congr 1, L4, P4, h4, (hWH.out.trans (Went.of_below hB3)).trans hW4⟩, by simp only [intOf]; have := hltH.out; omega⟩
      · have hjn2 : ¬ (j : Int) < (n : Int) := by omega
        rw [if_neg (by omega)] at hlv
        rw [hlv] at hSt
        have hS3 := hSt wr h2
        clear hj hlt hIr hlv hfj hsu hU h2 hW hI ho hO h huB hT hlen hSt hun hjn
        go_wp2_with fail
        refine hS3.mono ?_
        rintro q w4 ⟨rfl, L4, P4, h4, hW4⟩
        go_wp2
        exact ⟨⟨j + 1, by have := hltH.out; omega, by congr 1, L4, P4, h4, hWH.out.trans hW4⟩, by simp only [intOf]; have := hltH.out; omega⟩
    · obtain rfl : j = 3 := by omega
      have hji : ¬ ((3 : Nat) : Int) < 3 := by omega
      obtain ⟨x0, x1, x2, h9⟩ := h2
      have e1 := h9.b.cell 1
      have f1 := h9.b.frozen 1
      have B1 := h9.b.set 1 (.int .i64 0)
      have e2 := B1.cell 2
      have f2 := B1.frozen 2
      have B2 := B1.set 2 (.bool false)
      have g12 := grown_trans (grown_setCell wr g 1 (.int .i64 0)) (grown_setCell _ g 2 (.bool false))
      obtain ⟨k1, k2⟩ := h9.head (D' := crD D us) g12 B2 rfl rfl rfl
      have hk : DkTo L P w g ((wr.setCell ⟨g, 1, none⟩ (.int .i64 0)).setCell ⟨g, 2, none⟩ (.bool false)) (crD D us) := ⟨L2, P2, ⟨x0, x1, x2, k1⟩, hW.trans k2⟩
      clear B1 B2 g12 k1 k2 h9 hW hO h hlt hj
      go_wp2
      (try simp only [Exit.inBlock, Exit.then])
      first
        | go_end0
        | refine bodyPost_ret (results_none rfl _ _ _) rfl ?_
      exact ⟨rfl, hk⟩
end Go.Proofs.YtinmmhbiomcdoaaGreatDoor

/-
  slices.Clone of steps; what becomes of a disk's clone, file by file: a lemma on memory behind the walk. New memory alone is written. Conditions: at most 2^42 steps.
-/
namespace Go.Proofs.YtinmmhbiomcdoaaGreatDoor
open Go.RowKit

theorem pNoneS (cap : Nat) (w : World) : Sem.run Tryz.prog (binOp BinOp.eql 87 (.slice none 0 cap) (.slice none 0 0)) w = .ok (.bool true) w := by kernel_rfl
theorem pSomeS (x : Addr) (n cap : Nat) (w : World) : Sem.run Tryz.prog (binOp BinOp.eql 87 (.slice (some x) n cap) (.slice none 0 0)) w = .ok (.bool false) w := by kernel_rfl
theorem StsAt.one {P : Nat → Prop} {w : World} {vs : List Value} {S : List StV} (h : StsAt P w vs S) : ∀ v ∈ vs, v.oneCell' = true := by
  intro v hv
  obtain ⟨i, hi, rfl⟩ := List.getElem_of_mem hv
  obtain ⟨u, h1, h2⟩ := h.2 i _ (List.getElem?_eq_getElem (by rw [← h.1]; exact hi))
  rw [List.getElem?_eq_getElem hi] at h1
  injection h1 with h1
  rw [h1]
  exact h2.one

/-- A clone of which the first j files are its own. -/
structure ClSt (P : Nat → Prop) (w : World) (D : DkV) (x : Nat → FaV) (gc j : Nat) (wr : World) (y : Nat → FaV) (Lr : Nat → Nat) (Pr : Nat → Prop) : Prop where
  b : Blk wr gc 92 (dC D (y 0) (y 1) (y 2))
  g : Lr gc = 1
  lab : LabAt Lr Pr wr
  own : ∀ i, i < j → FlAt Lr Pr wr i (y i) (D.f i)
  rest : ∀ i, j ≤ i → y i = x i
  bel : Below w.heap.size w wr
  lo : ∀ b, Lr b ≠ 0 → w.heap.size ≤ b
  p : ∀ b, P b → Pr b
  q : ∀ b, Pr b → P b ∨ w.heap.size ≤ b
def yset (y : Nat → FaV) (j : Nat) (z : FaV) : Nat → FaV := fun i => if i = j then z else y i
theorem cl_cells (D : DkV) (y : Nat → FaV) (j : Nat) (hj : j < 3) (z : FaV) :
    (((dC D (y 0) (y 1) (y 2)).set (3 + 5 * j) (.slice z.ka (D.f j).K.length z.kc)).set (3 + 5 * j + 1) (.slice z.sa (D.f j).S.length z.sc)).set (3 + 5 * j + 2) (.slice z.ha (D.f j).held.length z.hc) = dC D (yset y j z 0) (yset y j z 1) (yset y j z 2) := by
  match j, hj with
  | 0, _ => rfl
  | 1, _ => rfl
  | 2, _ => rfl
theorem clone_fin {P : Nat → Prop} {w wr w1 w2 w3 w4 w5 w6 : World} {D : DkV} {x : Nat → FaV} {gc j : Nat} {y : Nat → FaV} {Lr : Nat → Nat} {Pr : Nat → Prop} {b1 b2 b3 : Option Addr} {d1 d2 d3 : Nat} {vs : List Value} (hj : j < 3) (h : ClSt P w D x gc j wr y Lr Pr) (hP : ∀ b, P b → b < w.heap.size)
    (B1 : Below wr.heap.size wr w1) (o1 : w1.ownsRow wr.heap.size 5 1 (.slice b1 (D.f j).K.length d1) (D.f j).K.length ((D.f j).K.map (Value.int .u8))) (g2 : w1.grownBy w2 (some gc))
    (B3 : Below w2.heap.size w2 w3) (o3 : w3.ownsRow w2.heap.size 169 1 (.slice b2 (D.f j).S.length d2) (D.f j).S.length vs) (hvs : StsAt P w vs (D.f j).S) (g4 : w3.grownBy w4 (some gc))
    (B5 : Below w4.heap.size w4 w5) (o5 : w5.ownsRow w4.heap.size 5 1 (.slice b3 (D.f j).held.length d3) (D.f j).held.length ((D.f j).held.map (Value.int .u8))) (g6 : w5.grownBy w6 (some gc))
    (hb : Blk w6 gc 92 (dC D (yset y j ⟨b1, d1, b2, d2, b3, d3⟩ 0) (yset y j ⟨b1, d1, b2, d2, b3, d3⟩ 1) (yset y j ⟨b1, d1, b2, d2, b3, d3⟩ 2))) :
    ∃ y' L' P', ClSt P w D x gc (j + 1) w6 y' L' P' := by
  have s0 := h.bel.size
  have s1 := B1.size
  have s2 := g2.size
  have s3 := B3.size
  have s4 := g4.size
  have s5 := B5.size
  have s6 := g6.size
  have hgc := h.b.lt
  have hgl : w.heap.size ≤ gc := h.lo gc (by rw [h.g]; decide)
  have K : ∀ {v v' : World} {r : Nat}, v.grownBy v' (some r) → ∀ b, b < v.heap.size → b ≠ r → v'.heap[b]? = v.heap[b]? := fun hg b hb hn => hg.block b hb (fun e => by injection e with e; exact hn e)
  have k1 : ∀ b, b < w1.heap.size → b ≠ gc → w6.heap[b]? = w1.heap[b]? := fun b hb hn => by
    rw [K g6 b (by omega) hn, B5.block b (by omega), K g4 b (by omega) hn, B3.block b (by omega), K g2 b (by omega) hn]
  have kr : ∀ b, b < wr.heap.size → b ≠ gc → w6.heap[b]? = wr.heap[b]? := fun b hb hn => by
    rw [k1 b (by omega) hn, B1.block b hb]
  have k3 : ∀ b, b < w3.heap.size → b ≠ gc → w6.heap[b]? = w3.heap[b]? := fun b hb hn => by
    rw [K g6 b (by omega) hn, B5.block b (by omega), K g4 b (by omega) hn]
  have k5 : ∀ b, b < w5.heap.size → b ≠ gc → w6.heap[b]? = w5.heap[b]? := fun b hb hn => K g6 b hb hn
  have h1 : ∀ z, b1 = some z → wr.heap.size ≤ z.block ∧ z.block < w1.heap.size := fun z hz => o1.lt z.block (by rw [hz]; rfl)
  have h2 : ∀ z, b2 = some z → w2.heap.size ≤ z.block ∧ z.block < w3.heap.size := fun z hz => o3.lt z.block (by rw [hz]; rfl)
  have h3 : ∀ z, b3 = some z → w4.heap.size ≤ z.block ∧ z.block < w5.heap.size := fun z hz => o5.lt z.block (by rw [hz]; rfl)
  have hL0 : ∀ b, wr.heap.size ≤ b → Lr b = 0 := fun b hb => by
    by_cases h0 : Lr b = 0
    · exact h0
    · have := h.lab.l b h0; omega
  have hLL : ∀ b, b < w1.heap.size → lab1 (lab1 Lr b2 (3 + 2 * j)) b3 (2 + 2 * j) b = Lr b := fun b hb => by
    rw [lab1_ne _ _ _ (fun z hz => by have := h3 z hz; omega), lab1_ne _ _ _ (fun z hz => by have := h2 z hz; omega)]
  have hgP : ∀ b, Pr b → b ≠ gc := fun b hb e => by
    have := (h.lab.p b hb).2
    rw [e, h.g] at this
    omega
  refine ⟨yset y j ⟨b1, d1, b2, d2, b3, d3⟩, lab1 (lab1 Lr b2 (3 + 2 * j)) b3 (2 + 2 * j), fun b => Pr b ∨ ∃ z, b1 = some z ∧ z.block = b, hb, ?_, ⟨?_, ?_⟩, ?_, ?_, ?_, ?_, fun b hb => .inl (h.p b hb), ?_⟩
  · rw [hLL gc (by omega)]; exact h.g
  · intro b hb
    rcases lab1_or (lab1 Lr b2 (3 + 2 * j)) (a := b3) (2 + 2 * j) b with ⟨z, hz, hzb⟩ | he
    · have := h3 z hz; omega
    · rw [he] at hb
      rcases lab1_or Lr (a := b2) (3 + 2 * j) b with ⟨z, hz, hzb⟩ | he
      · have := h2 z hz; omega
      · rw [he] at hb
        have := h.lab.l b hb; omega
  · rintro b (hb | ⟨z, hz, hzb⟩)
    · have := h.lab.p b hb
      exact ⟨by omega, by rw [hLL b (by omega)]; exact this.2⟩
    · have := h1 z hz
      exact ⟨by omega, by rw [hLL b (by omega)]; exact hL0 b (by omega)⟩
  · intro i hi
    by_cases hij : i = j
    · subst hij
      have hy : yset y i ⟨b1, d1, b2, d2, b3, d3⟩ i = ⟨b1, d1, b2, d2, b3, d3⟩ := if_pos rfl
      rw [hy]
      refine ⟨⟨ints_same (own_ints' o1) (fun z hz => ?_), fun z hz => .inr ⟨z, hz, rfl⟩⟩, ⟨⟨vs, own_same (own_weak o3 (Nat.zero_le _)) (fun b hb => ?_), hvs.same (fun b hb => ?_) (fun b hb => .inl (h.p b hb))⟩, fun z hz => ?_⟩, ⟨own_same (own_weak o5 (Nat.zero_le _)) (fun b hb => ?_), fun z hz => lab1_at _ _ hz⟩⟩
      · have := h1 z hz
        exact k1 _ this.2 (by omega)
      · obtain ⟨z, hz, hzb⟩ := slice_block hb
        have := h2 z hz
        exact k3 b (by omega) (by omega)
      · have := hP b hb
        rw [kr b (by omega) (hgP b (h.p b hb)), h.bel.block b this]
      · rw [lab1_ne _ _ _ (fun u hu e => by have := h3 u hu; have := h2 z hz; omega), lab1_at _ _ hz]
      · obtain ⟨z, hz, hzb⟩ := slice_block hb
        have := h3 z hz
        exact k5 b (by omega) (by omega)
    · have hy : yset y j ⟨b1, d1, b2, d2, b3, d3⟩ i = y i := if_neg hij
      rw [hy]
      refine (h.own i (by omega)).same (fun b hb => ?_) (fun b hb => .inl hb) (fun b hb => hLL b (by have := h.lab.l b (by unfold isF at hb; omega); omega))
      rcases hb with hb | hb
      · exact kr b (h.lab.p b hb).1 (hgP b hb)
      · exact kr b (h.lab.l b (by unfold isF at hb; omega)) (fun e => by rw [e, h.g] at hb; unfold isF at hb; omega)
  · intro i hi
    have hy : yset y j ⟨b1, d1, b2, d2, b3, d3⟩ i = y i := if_neg (by omega)
    rw [hy]
    exact h.rest i (by omega)
  · refine ⟨?_, ?_, ?_, by omega, fun b hb => ?_⟩
    · exact g6.os.trans (B5.os.trans (g4.os.trans (B3.os.trans (g2.os.trans (B1.os.trans h.bel.os)))))
    · exact g6.tape.trans (B5.tape.trans (g4.tape.trans (B3.tape.trans (g2.tape.trans (B1.tape.trans h.bel.tape)))))
    · exact g6.output.trans (B5.output.trans (g4.output.trans (B3.output.trans (g2.output.trans (B1.output.trans h.bel.output)))))
    · rw [kr b (by omega) (by omega), h.bel.block b hb]
  · intro b hb
    rcases lab1_or (lab1 Lr b2 (3 + 2 * j)) (a := b3) (2 + 2 * j) b with ⟨z, hz, hzb⟩ | he
    · have := h3 z hz; omega
    · rw [he] at hb
      rcases lab1_or Lr (a := b2) (3 + 2 * j) b with ⟨z, hz, hzb⟩ | he
      · have := h2 z hz; omega
      · rw [he] at hb
        exact h.lo b hb
  · rintro b (hb | ⟨z, hz, hzb⟩)
    · exact h.q b hb
    · have := h1 z hz
      exact .inr (by omega)
end Go.Proofs.YtinmmhbiomcdoaaGreatDoor

/-
  What the landed disk's Clone comes to: another disk that is the same, in new memory, but for what nobody writes to any more. Conditions: a disk that New made; at most 2^42 steps.
-/
namespace Go.Proofs.YtinmmhbiomcdoaaGreatDoor
open Go.RowKit

theorem rowDk : IsRow Tryz.prog 92 18 := by
  refine ⟨?_, by kernel_rfl⟩
  have h : (Tryz.prog.underlying 92).map (·.isRow) = some true := by kernel_rfl
  cases hq : Tryz.prog.underlying 92 with
  | none => simp [hq] at h
  | some d => rw [hq] at h; simp at h; exact ⟨d, rfl, h⟩
theorem zeroDk : Zero Tryz.prog 92 (dC (dk0 0) fa0 fa0 fa0) := by unfold Zero; kernel_rfl
theorem dC_len (D : DkV) (x0 x1 x2 : FaV) : (dC D x0 x1 x2).length = 18 := rfl
theorem dC_one (D : DkV) (x0 x1 x2 : FaV) : ∀ u ∈ dC D x0 x1 x2, u.oneCell' = true := by
  intro u hu
  unfold dC at hu
  simp only [List.mem_append, List.mem_cons, List.not_mem_nil, or_false] at hu
  rcases hu with (rfl | rfl | rfl) | hu | hu | hu
  · rfl
  · rfl
  · rfl
  · exact fC_one _ _ u hu
  · exact fC_one _ _ u hu
  · exact fC_one _ _ u hu
theorem dC_at (D : DkV) (y : Nat → FaV) (j : Nat) (hj : j < 3) :
    (dC D (y 0) (y 1) (y 2))[3 + j * 5]? = some (.slice (y j).ka (D.f j).K.length (y j).kc) ∧ (dC D (y 0) (y 1) (y 2))[3 + j * 5 + 1]? = some (.slice (y j).sa (D.f j).S.length (y j).sc) ∧ (dC D (y 0) (y 1) (y 2))[3 + j * 5 + 2]? = some (.slice (y j).ha (D.f j).held.length (y j).hc) := by
  match j, hj with
  | 0, _ => exact ⟨rfl, rfl, rfl⟩
  | 1, _ => exact ⟨rfl, rfl, rfl⟩
  | 2, _ => exact ⟨rfl, rfl, rfl⟩
end Go.Proofs.YtinmmhbiomcdoaaGreatDoor

/-
  The document's example (layer 18): what alive comes to. New memory alone is written. No conditions.
-/
namespace Go.Proofs.YtinmmhbiomcdoaaGreatDoor
open Go.RowKit

theorem DkTo.is {L : Nat → Nat} {P : Nat → Prop} {w w' : World} {g : Nat} {D : DkV} (h : DkTo L P w g w' D) : ∃ L' P', DkIs L' P' w' g D ∧ Went L P w L' P' w' := h

theorem row_ints (w : World) (t : TypeId) (k : IntKind) (xs : List Int) : Ints k (w.alloc (.cells (xs.map (Value.int k)).toArray t)) (some ⟨w.heap.size, 0, none⟩) xs.length xs.length xs :=
  Ints.of_blk (Blk.new w t (xs.map (Value.int k))) rfl (Nat.le_refl _) (fun i hi => by rw [Nat.zero_add]; exact getElem?_mapInt k xs i hi)

/-- New memory, and a new disk's own. -/
theorem below_new {B : Nat} {L L' : Nat → Nat} {P P' : Nat → Prop} {w0 w w' : World} (h : Went L P w L' P' w') (hb : Below B w0 w) (hB : B ≤ w.heap.size) (hl : ∀ b, L b ≠ 0 → B ≤ b) : Below B w0 w' :=
  hb.trans ⟨h.m.1.os, h.m.1.tape, h.m.1.output, h.m.1.size, fun i hi => h.m.2 i (Nat.lt_of_lt_of_le hi hB) (fun hn => absurd (hl i hn) (Nat.not_le.2 hi))⟩

theorem Went.low {B : Nat} {L L' : Nat → Nat} {P P' : Nat → Prop} {w w' : World} (h : Went L P w L' P' w') (hl : ∀ b, L b ≠ 0 → B ≤ b) (hB : B ≤ w.heap.size) : ∀ b, L' b ≠ 0 → B ≤ b := fun b hb => by
  by_cases hlt : b < w.heap.size
  · rw [h.l b hlt] at hb
    exact hl b hb
  · omega

/-- A disk of the call's own: its blocks are no lower than B. -/
structure DkOwn (B : Nat) (w0 w : World) (g : Nat) (D : DkV) : Prop where
  is : ∃ L P, DkIs L P w g D ∧ ∀ b, L b ≠ 0 → B ≤ b
  b : Below B w0 w
  s : B ≤ w.heap.size

theorem DkOwn.to {B : Nat} {w0 w w' : World} {g : Nat} {D' : DkV} {L : Nat → Nat} {P : Nat → Prop} (hb : Below B w0 w) (hs : B ≤ w.heap.size) (hl : ∀ b, L b ≠ 0 → B ≤ b) (h : DkTo L P w g w' D') : DkOwn B w0 w' g D' := by
  obtain ⟨L', P', h1, h2⟩ := h
  exact ⟨⟨L', P', h1, h2.low hl hs⟩, below_new h2 hb hs hl, Nat.le_trans hs h2.m.size⟩

theorem DkOwn.keep {B : Nat} {w0 w w' : World} {g : Nat} {D : DkV} (h : DkOwn B w0 w g D) (hb : Below w.heap.size w w') : DkOwn B w0 w' g D := by
  obtain ⟨L, P, h1, h2⟩ := h.is
  exact ⟨⟨L, P, h1.keep hb, h2⟩, h.b.trans (hb.mono h.s), Nat.le_trans h.s hb.size⟩

theorem own_append {B : Nat} {w0 w : World} {g : Nat} {D : DkV} {T : Nat} {file : Int} {a : Option Addr} {n c : Nat} {bs : List Int} (h : DkOwn B w0 w g D) (hO : D.Ok T) (hT : T < 4398046511104) (hI : Ints .u8 w a n c bs) :
    Calls Tryz.prog 26 #[.pointer (some ⟨g, 0, none⟩), .int .i64 file, .slice a n c] w fun q w' => q = .returned (.int .i64 (apD D file bs).2) ∧ DkOwn B w0 w' g (apD D file bs).1 := by
  obtain ⟨L, P, h1, h2⟩ := h.is
  exact (dAppend_any h1 hO hT hI).mono fun q w' ⟨e, k⟩ => ⟨e, DkOwn.to h.b h.s h2 k⟩

theorem own_cut {B : Nat} {w0 w : World} {g : Nat} {D : DkV} {T : Nat} {file n : Int} (h : DkOwn B w0 w g D) (hO : D.Ok T) (hT : T < 4398046511104) :
    Calls Tryz.prog 127 #[.pointer (some ⟨g, 0, none⟩), .int .i64 file, .int .i64 n] w fun q w' => q = .returned (.int .i64 (ctD D file n).2) ∧ DkOwn B w0 w' g (ctD D file n).1 := by
  obtain ⟨L, P, h1, h2⟩ := h.is
  exact (dCut_any h1 hO hT).mono fun q w' ⟨e, k⟩ => ⟨e, DkOwn.to h.b h.s h2 k⟩

theorem own_sync {B : Nat} {w0 w : World} {g : Nat} {D : DkV} {T : Nat} {file : Int} (h : DkOwn B w0 w g D) (hO : D.Ok T) (hT : T < 4398046511104) :
    Calls Tryz.prog 85 #[.pointer (some ⟨g, 0, none⟩), .int .i64 file] w fun q w' => q = .returned (.int .i64 (syD D file).2) ∧ DkOwn B w0 w' g (syD D file).1 := by
  obtain ⟨L, P, h1, h2⟩ := h.is
  exact (dSync_any h1 hO (by omega)).mono fun q w' ⟨e, k⟩ => ⟨e, DkOwn.to h.b h.s h2 k⟩

theorem own_arm {B : Nat} {w0 w : World} {g : Nat} {D : DkV} {T : Nat} {n : Int} (h : DkOwn B w0 w g D) (hO : D.Ok T) :
    Calls Tryz.prog 16 #[.pointer (some ⟨g, 0, none⟩), .int .i64 n] w fun q w' => q = .returned (.tuple #[]) ∧ DkOwn B w0 w' g (armD D n) := by
  obtain ⟨L, P, h1, h2⟩ := h.is
  exact (dArmD h1 hO n).mono fun q w' ⟨e, k⟩ => ⟨e, DkOwn.to h.b h.s h2 k⟩

/-- The numbers lie in new memory, or below the disk's own. -/
theorem own_crash {B : Nat} {w0 w1 w : World} {g : Nat} {D : DkV} {T : Nat} {a : Option Addr} {n c : Nat} {us : List Int} (h : DkOwn B w0 w1 g D) (hk : Below w1.heap.size w1 w) (hO : D.Ok T) (hT : T < 4398046511104) (hI : Ints .i64 w a n c us) (ho : ∀ x, a = some x → 0 < n → w1.heap.size ≤ x.block ∨ x.block < B) :
    Calls Tryz.prog 18 #[.pointer (some ⟨g, 0, none⟩), .slice a n c] w fun q w' => q = .returned (.tuple #[]) ∧ DkOwn B w0 w' g (crD D us) := by
  obtain ⟨L, P, h1, h2⟩ := h.is
  have hO2 : OutOf L a n := fun x hx hn => by
    by_cases h0 : L x.block = 0
    · exact h0
    · have k1 := h2 _ h0
      obtain ⟨x0, x1, x2, hd⟩ := h1
      have k2 := hd.lab.l _ h0
      rcases ho x hx hn with h | h <;> omega
  exact (dCrash_any (h1.keep hk) hO (by omega) hI hO2).mono fun q w' ⟨e, k⟩ => ⟨e, DkOwn.to (h.b.trans (hk.mono h.s)) (Nat.le_trans h.s hk.size) h2 k⟩

theorem own_read {B : Nat} {w0 w : World} {g : Nat} {D : DkV} {T : Nat} (h : DkOwn B w0 w g D) (hO : D.Ok T) (i : Nat) (hi : i < 3) :
    Calls Tryz.prog 54 #[.pointer (some ⟨g, 0, none⟩), .int .i64 (i : Int)] w fun q w' => Tells w q w' (D.f i).held := by
  obtain ⟨L, P, ⟨x0, x1, x2, h1⟩, h2⟩ := h.is
  exact dRead_any h1 hO i hi

theorem new_own {w : World} (r : Int) (h : 1 ≤ r ∧ r ≤ 65536) :
    Calls Tryz.prog 7 #[.int .i64 r] w fun q w' => ∃ g, q = .returned (.tuple #[.pointer (some ⟨g, 0, none⟩), .int .i64 0]) ∧ DkOwn w.heap.size w w' g (dk0 r) := by
  refine (dNew_any r h).mono ?_
  rintro q w' ⟨g, L, e, k, hl, hb⟩
  exact ⟨g, e, ⟨⟨L, _, ⟨_, _, _, k⟩, hl⟩, hb, hb.size⟩⟩

def exB : DkV := ⟨10, 0, false, ⟨[1, 2, 3], []⟩, ⟨[], []⟩, ⟨[], []⟩⟩

theorem ex1 : apD (dk0 10) 0 [1, 2, 3] = (⟨10, 0, false, ⟨[], [.put [1, 2, 3]]⟩, ⟨[], []⟩, ⟨[], []⟩⟩, 0) := by rfl

theorem ex2 : syD ⟨10, 0, false, ⟨[], [.put [1, 2, 3]]⟩, ⟨[], []⟩, ⟨[], []⟩⟩ 0 = (exB, 0) := by rfl

theorem ex3 : apD exB 0 [4, 5] = (⟨10, 0, false, ⟨[1, 2, 3], [.put [4, 5]]⟩, ⟨[], []⟩, ⟨[], []⟩⟩, 0) := by rfl

theorem ex4 : crD ⟨10, 0, false, ⟨[1, 2, 3], [.put [4, 5]]⟩, ⟨[], []⟩, ⟨[], []⟩⟩ [1] = ⟨10, 0, false, ⟨[1, 2, 3, 4], []⟩, ⟨[], []⟩, ⟨[], []⟩⟩ := by rfl
end Go.Proofs.YtinmmhbiomcdoaaGreatDoor

/-
  A disk on lists of which one file alone holds anything: what its calls, and a roll's, come to; what a crash leaves of frames (P20.4). No Go function is spoken of.
-/
namespace Go.Proofs.YtinmmhbiomcdoaaGreatDoor
open Go.RowKit

/-- Room r, a fuse f, file z holds v, the others nothing. -/
def kpD (r f : Int) (d : Bool) (z : Nat) (v : FlV) : DkV := (⟨r, f, d, ⟨[], []⟩, ⟨[], []⟩, ⟨[], []⟩⟩ : DkV).set z v
theorem kp0 (r : Int) (z : Nat) : dk0 r = kpD r 0 false z ⟨[], []⟩ := by
  unfold kpD DkV.set
  split
  · rfl
  · split <;> rfl
section
variable {r f : Int} {d : Bool} {z : Nat} {v : FlV}
theorem kp_f (hz : z < 3) : (kpD r f d z v).f z = v := DkV.set_f _ z hz v
theorem kp_held (hz : z < 3) : heldR (kpD r f d z v) (z : Int) = v.held := by
  unfold heldR
  rw [Int.toNat_natCast, kp_f hz]
theorem kp_head : (kpD r f d z v).room = r ∧ (kpD r f d z v).fuse = f ∧ (kpD r f d z v).down = d := DkV.set_head _ z v
theorem kp_set (u : FlV) : (kpD r f d z v).set z u = kpD r f d z u := set_set _ z v u
theorem kp_used (hz : z < 3) : (kpD r f d z v).used = v.need := by
  have h0 : (⟨[], []⟩ : FlV).need = 0 := rfl
  unfold kpD DkV.set DkV.used
  match z, hz with
  | 0, _ => simp only [if_true, h0]; omega
  | 1, _ => simp only [if_true, h0, Nat.one_ne_zero, if_false]; omega
  | 2, _ => simp only [h0, show ¬ (2 : Nat) = 0 by decide, show ¬ (2 : Nat) = 1 by decide, if_false]; omega
theorem kp_burn : (kpD r f d z v).burn = if f = 0 then kpD r f d z v else kpD r (f - 1) (decide (f - 1 = 0)) z v := by
  unfold DkV.burn
  rw [kp_head.2.1]
  split
  · rfl
  · unfold kpD DkV.set
    split
    · rfl
    · split <;> rfl
theorem kp_ans : (kpD r f d z v).ans = if d = true then 18 else 0 := by
  unfold DkV.ans
  rw [kp_head.2.2]
theorem noFile_z (hz : z < 3) : ¬ noFile (z : Int) := by unfold noFile; omega
theorem kp_ap (hz : z < 3) (b : List Int) (hr : ((v.step (.put b)).need : Int) ≤ r) :
    apD (kpD r f false z v) (z : Int) b = if f = 0 then (kpD r 0 false z (v.step (.put b)), 0) else if f = 1 then (kpD r 0 true z (v.step (.put b)), 18) else (kpD r (f - 1) false z (v.step (.put b)), 0) := by
  unfold apD
  rw [if_neg (noFile_z hz), if_neg (by rw [kp_head.2.2]; decide), Int.toNat_natCast, kp_f hz, kp_set, kp_used hz, kp_head.1, if_neg (by omega), kp_burn]
  by_cases h0 : f = 0
  · subst h0
    rw [if_pos rfl, if_pos rfl, kp_ans, if_neg (by decide)]
  · rw [if_neg h0, if_neg h0, kp_ans]
    by_cases h1 : f = 1
    · subst h1
      rw [if_pos rfl, if_pos (by decide)]
      rfl
    · have hd : decide (f - 1 = 0) = false := decide_eq_false (by omega)
      rw [if_neg h1, hd, if_neg (by decide)]
theorem kp_ct (hz : z < 3) (n : Nat) (hn : n ≤ v.held.length) :
    ctD (kpD r f false z v) (z : Int) (n : Int) = if f = 0 then (kpD r 0 false z (v.step (.cut n)), 0) else if f = 1 then (kpD r 0 true z (v.step (.cut n)), 18) else (kpD r (f - 1) false z (v.step (.cut n)), 0) := by
  unfold ctD
  rw [Int.toNat_natCast, kp_f hz, if_neg (by unfold noFile; omega), if_neg (by rw [kp_head.2.2]; decide), Int.toNat_natCast, kp_set, kp_burn]
  by_cases h0 : f = 0
  · subst h0
    rw [if_pos rfl, if_pos rfl, kp_ans, if_neg (by decide)]
  · rw [if_neg h0, if_neg h0, kp_ans]
    by_cases h1 : f = 1
    · subst h1
      rw [if_pos rfl, if_pos (by decide)]
      rfl
    · have hd : decide (f - 1 = 0) = false := decide_eq_false (by omega)
      rw [if_neg h1, hd, if_neg (by decide)]
theorem kp_sy (hz : z < 3) :
    syD (kpD r f false z v) (z : Int) = if f = 0 then (kpD r 0 false z ⟨v.held, []⟩, 0) else if f = 1 then (kpD r 0 true z v, 18) else (kpD r (f - 1) false z ⟨v.held, []⟩, 0) := by
  unfold syD
  rw [if_neg (noFile_z hz), if_neg (by rw [kp_head.2.2]; decide), Int.toNat_natCast, kp_f hz, kp_burn]
  by_cases h0 : f = 0
  · subst h0
    rw [if_pos rfl, if_pos rfl, if_neg (by rw [kp_head.2.2]; decide), kp_set]
  · rw [if_neg h0, if_neg h0]
    by_cases h1 : f = 1
    · subst h1
      rw [if_pos (by rw [kp_head.2.2]; decide), if_pos rfl]
      rfl
    · have hd : decide (f - 1 = 0) = false := decide_eq_false (by omega)
      rw [hd, if_neg (by rw [kp_head.2.2]; decide), if_neg h1, kp_set]
theorem kp_ap_down (hz : z < 3) (b : List Int) : apD (kpD r f true z v) (z : Int) b = (kpD r f true z v, 18) := by
  unfold apD
  rw [if_neg (noFile_z hz), if_pos (by rw [kp_head.2.2])]
theorem kp_arm (n : Int) : armD (kpD r f d z v) n = kpD r (max n 0) d z v := by
  unfold armD kpD DkV.set
  split
  · rfl
  · split <;> rfl
theorem settle_none (u : Nat) : (⟨[], []⟩ : FlV).settle u = ⟨[], []⟩ := rfl
theorem kp_cr (hz : z < 3) (us : List Int) : crD (kpD r f d z v) us = kpD r 0 false z (v.settle (leftU v us z)) := by
  unfold crD kpD DkV.set
  match z, hz with
  | 0, _ => rfl
  | 1, _ => rfl
  | 2, _ => rfl
theorem kp_ok {T : Nat} (hz : z < 3) (hr : 1 ≤ r ∧ r ≤ 65536) (hf : 0 ≤ f ∧ f < 9223372036854775808) (hv : v.Ok T) (hn : (v.need : Int) ≤ r) : (kpD r f d z v).Ok T := by
  have h0 : (⟨r, f, d, ⟨[], []⟩, ⟨[], []⟩, ⟨[], []⟩⟩ : DkV).Ok T :=
    have he : (⟨[], []⟩ : FlV).Ok T := ⟨trivial, Nat.zero_le _, Nat.zero_le _, Nat.zero_le _⟩
    ⟨hr, hf, by show ((0 + 0 + 0 : Nat) : Int) ≤ r; omega, he, he, he⟩
  refine DkV.set_ok h0 z v hv ?_
  have := kp_used (r := r) (f := f) (d := d) (v := v) hz
  unfold kpD at this
  rw [this]
  exact hn
theorem kp_by (hv : v.By) : (kpD r f d z v).By := by
  have he : (⟨[], []⟩ : FlV).By := ⟨fun _ h => absurd h (List.not_mem_nil), fun _ h => absurd h (List.not_mem_nil)⟩
  exact DkV.By.set ⟨he, he, he⟩ z hv
end

/-! ### Whole frames, and one in flight -/
/-- The frames of bodies. -/
def flat (L : List (List Int)) : List Int := (L.map frB).flatten
theorem flat_snoc (L : List (List Int)) (b : List Int) : flat (L ++ [b]) = flat L ++ frB b := by simp [flat]
def Bodied (L : List (List Int)) : Prop := ∀ b ∈ L, 1 ≤ b.length ∧ b.length ≤ 65536
theorem Bodied.snoc {L : List (List Int)} (h : Bodied L) {b : List Int} (h1 : 1 ≤ b.length) (h2 : b.length ≤ 65536) : Bodied (L ++ [b]) := by
  intro x hx
  rcases List.mem_append.1 hx with hx | hx
  · exact h x hx
  · rw [List.mem_singleton.1 hx]; exact ⟨h1, h2⟩
def whole (L : List (List Int)) : FlV := ⟨flat L, []⟩
theorem whole_held (L : List (List Int)) : (whole L).held = flat L := rfl
theorem whole_step (L : List (List Int)) (b : List Int) : (whole L).step (.put (frB b)) = ⟨flat L, [.put (frB b)]⟩ := rfl
theorem flight_held (K X : List Int) : (⟨K, [.put X]⟩ : FlV).held = K ++ X := by
  show (StV.put X).all K = _
  rw [StV.all_put]
theorem flight_need (K X : List Int) : (⟨K, [.put X]⟩ : FlV).need = K.length + X.length := by
  show max K.length ((StV.put X).all K).length = _
  rw [put_len]
  omega
theorem flight_units (K X : List Int) : (⟨K, [.put X]⟩ : FlV).units = X.length := by
  show X.length + 0 = _
  omega
/-- A body is appended, and synced. -/
theorem pr_kp {r f : Int} {z : Nat} (hz : z < 3) (L : List (List Int)) (b : List Int) (h1 : 1 ≤ b.length) (h2 : b.length ≤ 65536) (hr : ((flat L).length + (frB b).length : Nat) ≤ r) (hf : 0 ≤ f) :
    prD (kpD r f false z (whole L)) (z : Int) b = if f = 1 ∨ f = 2 then (kpD r 0 true z ⟨flat L, [.put (frB b)]⟩, 18) else (kpD r (max (f - 2) 0) false z (whole (L ++ [b])), 0) := by
  have hA := kp_ap (r := r) (f := f) hz (frB b) (v := whole L) (by rw [whole_step, flight_need]; exact hr)
  have hW : (⟨(⟨flat L, [.put (frB b)]⟩ : FlV).held, []⟩ : FlV) = whole (L ++ [b]) := by rw [flight_held]; unfold whole; rw [flat_snoc]
  rw [whole_step] at hA
  unfold prD
  rw [if_neg (by omega), hA]
  by_cases h0 : f = 0
  · subst h0
    rw [if_pos rfl, if_pos rfl, kp_sy hz, if_pos rfl, hW, if_neg (by omega)]
    rfl
  · rw [if_neg h0]
    by_cases h3 : f = 1
    · rw [if_pos h3, if_neg (show ¬ (18 : Int) = 0 by decide), if_pos (.inl h3)]
    · rw [if_neg h3, if_pos rfl, kp_sy hz, if_neg (by omega)]
      by_cases h4 : f = 2
      · rw [if_pos (by omega), if_pos (.inr h4)]
      · rw [if_neg (by omega), if_neg (by omega), hW, show f - 1 - 1 = max (f - 2) 0 by omega]
theorem pr_kp_down {r f : Int} {z : Nat} (hz : z < 3) (v : FlV) (b : List Int) (h1 : 1 ≤ b.length) (h2 : b.length ≤ 65536) :
    prD (kpD r f true z v) (z : Int) b = (kpD r f true z v, 18) := by
  unfold prD
  rw [if_neg (by omega), kp_ap_down hz, if_neg (show ¬ (18 : Int) = 0 by decide)]
theorem pr_none {D : DkV} {z : Int} {b : List Int} (h : b.length < 1 ∨ 65536 < b.length) : prD D z b = (D, 1) := by
  unfold prD
  rw [if_pos h]
/-- Open where all frames are whole. -/
theorem md_whole {r f : Int} {z : Nat} (hz : z < 3) (L : List (List Int)) (hL : Bodied L) : mdD (kpD r f false z (whole L)) (z : Int) = (kpD r f false z (whole L), 0) := by
  have hg := (good_whole L hL).1
  unfold mdD
  rw [kp_held hz, whole_held, Int.toNat_natCast, kp_f hz]
  have h1 : ¬ goodF (flat L) < (flat L).length := by
    have : goodF (flat L) = (flat L).length := hg
    omega
  rw [if_neg h1, if_neg (by show ¬ 0 < 0; omega)]
/-- Open behind a crash in an append: the frame in flight is there, or not. -/
theorem md_torn {r : Int} {z : Nat} (hz : z < 3) (L : List (List Int)) (hL : Bodied L) (b : List Int) (h1 : 1 ≤ b.length) (h2 : b.length ≤ 65536) (u : Nat) :
    ∃ L', (L' = L ∨ L' = L ++ [b]) ∧ mdD (kpD r 0 false z ⟨flat L ++ (frB b).take u, []⟩) (z : Int) = (kpD r 0 false z (whole L'), 0) := by
  by_cases hu : 8 + b.length ≤ u
  · refine ⟨L ++ [b], .inr rfl, ?_⟩
    rw [List.take_of_length_le (by rw [frB_len]; exact hu), ← flat_snoc]
    exact md_whole hz _ (hL.snoc h1 h2)
  refine ⟨L, .inl rfl, ?_⟩
  have ht := one_torn b u h1 h2 (by omega)
  have hg : goodF (flat L ++ (frB b).take u) = (flat L).length := (good_torn L ((frB b).take u) hL (by rw [ht]; decide)).1
  obtain ⟨X, hX⟩ : ∃ X, flat L ++ (frB b).take u = X := ⟨_, rfl⟩
  have hXl : (flat L).length ≤ X.length := by rw [← hX, List.length_append]; omega
  have hXt : X.take (flat L).length = flat L := by rw [← hX, List.take_append_of_le_length (Nat.le_refl _), List.take_of_length_le (Nat.le_refl _)]
  rw [hX] at hg ⊢
  unfold mdD
  rw [kp_held hz, Int.toNat_natCast, kp_f hz, show (⟨X, []⟩ : FlV).held = X from rfl, hg]
  by_cases hlt : (flat L).length < X.length
  · rw [if_pos hlt]
    have hc := kp_ct (r := r) (f := 0) hz (v := ⟨X, []⟩) (flat L).length hXl
    rw [if_pos rfl] at hc
    unfold keD
    rw [hc, if_pos rfl, kp_sy hz, if_pos rfl]
    have : ((⟨X, []⟩ : FlV).step (.cut (flat L).length)).held = flat L := by
      rw [FlV.step_held, StV.all_cut]
      exact hXt
    rw [this]
    rfl
  · have : X = flat L := by rw [← hXt, List.take_of_length_le (by omega)]
    rw [if_neg hlt, if_neg (by show ¬ 0 < 0; omega), this]
    rfl
theorem body_of {r f : Int} {d : Bool} {z : Nat} (hz : z < 3) (L : List (List Int)) (hL : Bodied L) : allF (heldR (kpD r f d z (whole L)) (z : Int)) = L ∧ numF (heldR (kpD r f d z (whole L)) (z : Int)) = L.length := by
  rw [kp_held hz, whole_held]
  exact ⟨(good_whole L hL).2.1, (good_whole L hL).2.2⟩
theorem whole_cr {r f : Int} {d : Bool} {z : Nat} (hz : z < 3) (L : List (List Int)) (us : List Int) : crD (kpD r f d z (whole L)) us = kpD r 0 false z (whole L) := by
  rw [kp_cr hz]
  rfl
theorem flight_cr {r f : Int} {d : Bool} {z : Nat} (hz : z < 3) (K X : List Int) (us : List Int) : ∃ u, crD (kpD r f d z ⟨K, [.put X]⟩) us = kpD r 0 false z ⟨K ++ X.take u, []⟩ := by
  rw [kp_cr hz]
  refine ⟨min (leftU ⟨K, [.put X]⟩ us z) X.length, ?_⟩
  rfl
end Go.Proofs.YtinmmhbiomcdoaaGreatDoor

/-
  Slots on lists (layer 21): what a file has, Open, Put over a disk of lists. No Go function is spoken of. No conditions.
-/
namespace Go.Proofs.YtinmmhbiomcdoaaGreatDoor
open Go.RowKit

/-- A file's turn and snapshot; the turn 0: it has none. -/
def ldF (b : List Int) : Int × List Int :=
  if (oneF b).2.2 ≠ 0 ∨ (oneF b).1.length < 8 then (0, []) else (be ((oneF b).1.take 8), (oneF b).1.drop 8)
/-- Slots: two files, the current one (-1: none), its turn and snapshot. -/
structure SlV where
  a : Int
  b : Int
  now : Int
  turn : Int
  body : List Int
/-- What Open makes. -/
def opS (D : DkV) (a b : Int) : SlV :=
  if (ldF (heldR D a)).1 < (ldF (heldR D b)).1 then ⟨a, b, b, (ldF (heldR D b)).1, (ldF (heldR D b)).2⟩
  else if 0 < (ldF (heldR D a)).1 then ⟨a, b, a, (ldF (heldR D a)).1, (ldF (heldR D a)).2⟩
  else ⟨a, b, -1, 0, []⟩
/-- The file that Put goes to. -/
def SlV.to (s : SlV) : Int := if s.now = s.a then s.b else s.a
/-- The body of the next frame. -/
def SlV.next (s : SlV) (x : List Int) : List Int := beL (s.turn + 1) 8 ++ x
/-- Put's first part: the other file is cleared. -/
def clS (D : DkV) (z : Int) : DkV × Int := if 0 < (heldR D z).length ∨ 0 < (D.f z.toNat).units then keD D z 0 else (D, 0)
/-- What Put does: the disk, the slots, the error. -/
def ptS (D : DkV) (s : SlV) (x : List Int) : DkV × SlV × Int :=
  if 65528 < x.length ∨ s.turn + 1 = 18446744073709551616 then (D, s, 1)
  else if (clS D s.to).2 ≠ 0 then ((clS D s.to).1, s, (clS D s.to).2)
  else if (prD (clS D s.to).1 s.to (s.next x)).2 ≠ 0 then ((prD (clS D s.to).1 s.to (s.next x)).1, s, (prD (clS D s.to).1 s.to (s.next x)).2)
  else ((prD (clS D s.to).1 s.to (s.next x)).1, { s with now := s.to, turn := s.turn + 1, body := x }, 0)
theorem next_len (s : SlV) (x : List Int) : (s.next x).length = 8 + x.length := by
  unfold SlV.next
  rw [List.length_append, beL_len]
theorem clS_ok {D : DkV} {T : Nat} (h : D.Ok T) (z : Int) : (clS D z).1.Ok (T + 1) := by
  unfold clS
  split
  · exact keD_ok h z 0
  · exact h.more (Nat.le_succ T)
theorem clS_by {D : DkV} (h : D.By) (z : Int) : (clS D z).1.By := by
  unfold clS
  split
  · exact keD_by h z 0
  · exact h
theorem next_by (s : SlV) {x : List Int} (h : ∀ y ∈ x, isByte y) : ∀ y ∈ s.next x, isByte y := by
  intro y hy
  rcases List.mem_append.1 hy with h1 | h1
  · exact beL_range _ _ y h1
  · exact h y h1
theorem ptS_ok {D : DkV} {T : Nat} (h : D.Ok T) (s : SlV) (x : List Int) : (ptS D s x).1.Ok (T + 2) := by
  have h1 := clS_ok h s.to
  have h2 := prD_ok h1 s.to (s.next x)
  unfold ptS
  split
  · exact h.more (by omega)
  split
  · exact h1.more (by omega)
  split
  · exact h2
  · exact h2
theorem ptS_by {D : DkV} (h : D.By) (s : SlV) {x : List Int} (hx : ∀ y ∈ x, isByte y) : (ptS D s x).1.By := by
  have h1 := clS_by h s.to
  have h2 := prD_by h1 s.to (s.next x) (next_by s hx)
  unfold ptS
  split
  · exact h
  split
  · exact h1
  split
  · exact h2
  · exact h2
/-- Slots that stand well: two files, and what goes with a turn. -/
structure SlV.Ok (s : SlV) : Prop where
  a : 0 ≤ s.a ∧ s.a < 3
  b : 0 ≤ s.b ∧ s.b < 3
  ab : s.a ≠ s.b
  t : 0 ≤ s.turn ∧ s.turn < 18446744073709551616
  n : (s.turn = 0 ∧ s.now = -1 ∧ s.body = []) ∨ (0 < s.turn ∧ (s.now = s.a ∨ s.now = s.b))
  bl : s.body.length ≤ 65528
  bb : ∀ y ∈ s.body, isByte y
theorem SlV.Ok.to {s : SlV} (h : s.Ok) : 0 ≤ s.to ∧ s.to < 3 := by
  unfold SlV.to
  split
  · exact h.b
  · exact h.a
theorem oneF_by {b : List Int} (h : ∀ y ∈ b, isByte y) : ∀ y ∈ (oneF b).1, isByte y := by
  by_cases h0 : (oneF b).2.2 = 0
  · rw [(oneF_ok h0).2.2.2.2]
    exact fun y hy => h y (List.mem_of_mem_drop (List.mem_of_mem_take hy))
  · rw [(oneF_bad h0).1]
    exact fun y hy => absurd hy (List.not_mem_nil)
theorem ldF_ok {b : List Int} (h : ∀ y ∈ b, isByte y) : 0 ≤ (ldF b).1 ∧ (ldF b).1 < 18446744073709551616 ∧ (ldF b).2.length ≤ 65528 ∧ ∀ y ∈ (ldF b).2, isByte y := by
  unfold ldF
  split
  · exact ⟨by decide, by decide, Nat.zero_le _, fun _ h => absurd h (List.not_mem_nil)⟩
  · rename_i h0
    have h1 : (oneF b).2.2 = 0 := by omega
    have hl := (oneF_ok h1).2.2.1
    have hb := oneF_by h
    have h8 : ((oneF b).1.take 8).length = 8 := by rw [List.length_take]; omega
    have hr := be_range ((oneF b).1.take 8) 8 h8 (fun y hy => hb y (List.mem_of_mem_take hy))
    rw [show (256 : Int) ^ 8 = 18446744073709551616 by decide] at hr
    exact ⟨hr.1, hr.2, by show ((oneF b).1.drop 8).length ≤ _; rw [List.length_drop]; omega, fun y hy => hb y (List.mem_of_mem_drop hy)⟩
theorem opS_ok {D : DkV} (hD : D.By) {a b : Int} (ha : 0 ≤ a ∧ a < 3) (hb : 0 ≤ b ∧ b < 3) (hab : a ≠ b) : (opS D a b).Ok := by
  obtain ⟨a1, a2, a3, a4⟩ := ldF_ok (b := heldR D a) (hD.f _).held
  obtain ⟨b1, b2, b3, b4⟩ := ldF_ok (b := heldR D b) (hD.f _).held
  unfold opS
  split
  · exact ⟨ha, hb, hab, ⟨b1, b2⟩, .inr ⟨by show 0 < (ldF (heldR D b)).1; omega, .inr rfl⟩, b3, b4⟩
  · split
    · exact ⟨ha, hb, hab, ⟨a1, a2⟩, .inr ⟨by assumption, .inl rfl⟩, a3, a4⟩
    · exact ⟨ha, hb, hab, ⟨by show (0 : Int) ≤ 0; omega, by show (0 : Int) < _; omega⟩, .inl ⟨rfl, rfl, rfl⟩, Nat.zero_le _, fun _ h => absurd h (List.not_mem_nil)⟩
theorem ptS_sl {D : DkV} {s : SlV} (h : s.Ok) {x : List Int} (hx : ∀ y ∈ x, isByte y) : (ptS D s x).2.1.Ok := by
  unfold ptS
  split
  · exact h
  rename_i h0
  split
  · exact h
  split
  · exact h
  · have ht := h.t
    refine ⟨h.a, h.b, h.ab, ⟨by show 0 ≤ s.turn + 1; omega, by show s.turn + 1 < _; omega⟩, .inr ⟨by show 0 < s.turn + 1; omega, ?_⟩, by show x.length ≤ _; omega, hx⟩
    show s.to = s.a ∨ s.to = s.b
    unfold SlV.to
    split
    · exact .inr rfl
    · exact .inl rfl
/-- What was put is what the file has. -/
theorem ldF_put {t : Int} (ht : 0 ≤ t ∧ t < 18446744073709551616) {x r : List Int} (hx : x.length ≤ 65528) : ldF (frB (beL t 8 ++ x) ++ r) = (t, x) := by
  have hl : (beL t 8 ++ x).length = 8 + x.length := by rw [List.length_append, beL_len]
  have h1 := one_fr (beL t 8 ++ x) r (by omega) (by omega)
  unfold ldF
  rw [h1]
  dsimp only
  rw [if_neg (by omega), List.take_append_of_le_length (by rw [beL_len]; exact Nat.le_refl _), List.take_of_length_le (by rw [beL_len]; exact Nat.le_refl _), List.drop_append_of_le_length (by rw [beL_len]; exact Nat.le_refl _), List.drop_of_length_le (by rw [beL_len]; exact Nat.le_refl _), List.nil_append,
    be_beL 8 t ht.1 (by rw [show (256 : Int) ^ 8 = 18446744073709551616 by decide]; exact ht.2)]
theorem ldF_torn {t : Int} {x : List Int} (hx : x.length ≤ 65528) (u : Nat) (hu : u < 16 + x.length) : ldF ((frB (beL t 8 ++ x)).take u) = (0, []) := by
  have hl : (beL t 8 ++ x).length = 8 + x.length := by rw [List.length_append, beL_len]
  unfold ldF
  rw [one_torn (beL t 8 ++ x) u (by omega) (by omega) (by omega), if_pos (.inl (by decide))]
theorem ldF_nil : ldF [] = (0, []) := by
  unfold ldF
  rw [oneF_nil, if_pos (.inl (by decide))]
end Go.Proofs.YtinmmhbiomcdoaaGreatDoor

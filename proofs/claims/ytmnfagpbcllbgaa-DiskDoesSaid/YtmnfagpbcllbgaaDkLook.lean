/-
  What the landed disk's look, New come to, and what it tells: Read, Kept, Size, Units, Room, Fuse, Down, Used. New memory alone is written. Conditions: a disk that New made; at most 65536 bytes a file.
-/
import Derived.Test.YtmnfagpbcllbgaaDkFind
namespace Go.Proofs.Ytmnfagpbcllbgaa
open Go.RowKit

theorem rowFl : IsRow Try.prog 57 5 := by
  refine ⟨?_, by kernel_rfl⟩
  have h : (Try.prog.underlying 57).map (·.isRow) = some true := by kernel_rfl
  cases hq : Try.prog.underlying 57 with
  | none => simp [hq] at h
  | some d => rw [hq] at h; simp at h; exact ⟨d, rfl, h⟩
def flZ : List Value := [.slice none 0 0, .slice none 0 0, .slice none 0 0, .int .i64 0, .int .i64 0]
theorem zeroFl : Zero Try.prog 57 flZ := by unfold Zero; kernel_rfl
theorem built_fl0 : Try.prog.built 57 [] = some flZ.toArray := by kernel_rfl
theorem fC_one (x : FaV) (v : FlV) : ∀ u ∈ fC x v, u.oneCell' = true := by
  intro u hu
  simp only [fC, List.mem_cons, List.not_mem_nil, or_false] at hu
  rcases hu with rfl | rfl | rfl | rfl | rfl <;> rfl
theorem flZ_one : ∀ u ∈ flZ, u.oneCell' = true := by
  intro u hu
  simp only [flZ, List.mem_cons, List.not_mem_nil, or_false] at hu
  rcases hu with rfl | rfl | rfl | rfl | rfl <;> rfl

set_option maxRecDepth 100000 in
set_option maxHeartbeats 800000 in
theorem dLook_any {w : World} {g : Nat} {r : Int} (c0 : w.cell? ⟨g, 0, none⟩ = some (.int .i64 r)) (hr : 0 < r) (i : Nat) (h : i < 3) (cs : List Value) (hc : w.rangeAt g (3 + 5 * i) cs) (hl : cs.length = 5) (h1 : ∀ u ∈ cs, u.oneCell' = true) :
    Calls Try.prog 38 #[.pointer (some ⟨g, 0, none⟩), .int .i64 (i : Int)] w fun q w' => q = .returned (.agg cs.toArray) ∧ Below w.heap.size w w' := by
  go_enter Try.func38, Try.ntmps38
  go_wp2_with (with_reducible refine wpList_alloc_blk rfl 57 rfl zeroFl ?_
               refine RowKit.Hid.out ?_)
  refine Lib.hid ?_
  obtain ⟨W, hW⟩ : ∃ W, w.alloc (.cells flZ.toArray 57) = W := ⟨_, rfl⟩
  have hB : Below w.heap.size w W := by rw [← hW]; exact below1 _ _
  have hZ : Blk W w.heap.size 57 flZ := by rw [← hW]; exact Blk.new w _ flZ
  have hg : g < w.heap.size := World.block_lt_of_cell? w _ c0
  have c0' : W.cell? ⟨g, 0, none⟩ = some (.int .i64 r) := by rw [hB.cell (p := ⟨g, 0, none⟩) hg]; exact c0
  have hc' : W.rangeAt g (3 + 5 * i) cs := fun j v hj => by rw [hB.cell (p := ⟨g, 3 + 5 * i + j, none⟩) hg]; exact hc j v hj
  have hF := Lib.hid (dFind_any c0' hr i h)
  have hBH := Lib.hid hB
  rw [hW]
  have hfz : 0 + cs.length ≤ flZ.length := by rw [hl]; decide
  have hrow : IsRow Try.prog 57 cs.length := by rw [hl]; exact rowFl
  clear hW hB c0 hc c0'
  go_wp2_with fail
  refine hF.out.mono ?_
  rintro q w1 ⟨rfl, rfl⟩
  go_wp2_with (with_reducible refine wpList_load_part (off := 3 + 5 * i) rfl 57 _ rfl rfl cs hc' hrow ?_
               refine RowKit.Hid.out ?_)
  refine Lib.hid ?_
  go_wp2_with (with_reducible refine wpList_store_part (off := 0) rfl 57 _ _ rfl rfl rfl hZ hrow hfz h1 ?_
               intro w2 hb2 hg2
               refine RowKit.Hid.out ?_)
  refine Lib.hid ?_
  rw [overV_all _ _ (by rw [hl]; rfl)] at hb2
  have hB2 := hBH.out.grown hg2 hBH.out.size (fun q hq => by injection hq with hq; rw [← hq]; exact Nat.le_refl _)
  go_wp2
  refine bodyPost_ret (results_blk rfl rfl hb2 hrow) rfl ?_
  exact ⟨rfl, hB2⟩

theorem own_weak {w : World} {B B' : Nat} {e : TypeId} {v : Value} {n : Nat} {vs : List Value} (h : w.ownsRow B e 1 v n vs) (hb : B' ≤ B) : w.ownsRow B' e 1 v n vs := by
  refine ⟨h.1, h.2.imp id ?_⟩
  rintro ⟨g, cap, cur, hv, hg, hr⟩
  exact ⟨g, cap, cur, hv, Nat.le_trans hb hg, hr⟩
/-- A slice of bytes, told anew. -/
def Tells (w : World) (q : Ending) (w' : World) (xs : List Int) : Prop := ∃ b c, q = .returned (.slice b xs.length c) ∧ w'.ownsRow w.heap.size 5 1 (.slice b xs.length c) xs.length (xs.map (Value.int .u8)) ∧ Below w.heap.size w w'
theorem DkAt.look {L : Nat → Nat} {P : Nat → Prop} {w : World} {g : Nat} {D : DkV} {x0 x1 x2 : FaV} {T : Nat} (h : DkAt L P w g D x0 x1 x2) (hO : D.Ok T) (i : Nat) (hi : i < 3) :
    ∃ x, FlAt L P w i x (D.f i) ∧ Calls Try.prog 38 #[.pointer (some ⟨g, 0, none⟩), .int .i64 (i : Int)] w fun q w' => q = .returned (.agg (fC x (D.f i)).toArray) ∧ Below w.heap.size w w' := by
  obtain ⟨x, hx, hc⟩ := h.fl i hi
  have hr := hO.room
  exact ⟨x, hx, dLook_any (dcells h.b).1 (by omega) i hi (fC x (D.f i)) (h.b.range _ _ hc) rfl (fC_one _ _)⟩

set_option maxRecDepth 100000 in
set_option maxHeartbeats 800000 in
theorem dRead_any {L : Nat → Nat} {P : Nat → Prop} {w : World} {g : Nat} {D : DkV} {x0 x1 x2 : FaV} {T : Nat} (h : DkAt L P w g D x0 x1 x2) (hO : D.Ok T) (i : Nat) (hi : i < 3) :
    Calls Try.prog 17 #[.pointer (some ⟨g, 0, none⟩), .int .i64 (i : Int)] w fun q w' => Tells w q w' (D.f i).held := by
  obtain ⟨x, hx, hL⟩ := h.look hO i hi
  have hI := own_ints' hx.h.o
  have hn : (D.f i).held.length ≤ 65536 := Nat.le_trans (FlV.held_le _) (hO.f i).need
  have hC := fun (w' : World) (q : Below w.heap.size w w') => pClone_any x.ha (D.f i).held.length x.hc (D.f i).held w' (hI.keep q) (by omega)
  have hf : ∀ wx, (Instr.field 57 (.agg (fC x (D.f i)).toArray) 2).run Try.prog wx = .ok (.slice x.ha (D.f i).held.length x.hc) wx := fun wx => by kernel_rfl
  have hCH := Lib.hid hC
  obtain ⟨Cs, hCs⟩ : ∃ Cs, (fC x (D.f i)).toArray = Cs := ⟨_, rfl⟩
  rw [hCs] at hf hL
  clear hC hI hx h hO hCs hn
  go_enter Try.func17, Try.ntmps17
  go_wp2_with fail
  refine hL.mono ?_
  rintro q w1 ⟨rfl, hB⟩
  go_wp2_with fail
  refine (hCH.out w1 hB).mono ?_
  rintro q w2 ⟨b, c, rfl, ho, hB2⟩
  go_wp2
  go_ret
  exact ⟨b, c, rfl, own_weak ho hB.size, hB.trans (hB2.mono hB.size)⟩
end Go.Proofs.Ytmnfagpbcllbgaa

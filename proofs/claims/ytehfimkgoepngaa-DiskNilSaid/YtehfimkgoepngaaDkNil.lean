/-
  The law DiskNil: what a nil disk, and one that no call made, answers. New memory alone is written. No conditions.
-/
import Derived.Test.YtehfimkgoepngaaDkAlive
namespace Go.Proofs.Ytehfimkgoepngaa
open Go.RowKit

/-- A disk that no call made. -/
def Dead (w : World) (p : Option Addr) : Prop := p = none ∨ ∃ g, p = some ⟨g, 0, none⟩ ∧ w.cell? ⟨g, 0, none⟩ = some (.int .i64 0)
theorem Dead.keep {w w' : World} {p : Option Addr} (h : Dead w p) (hb : Below w.heap.size w w') : Dead w' p := by
  rcases h with h | ⟨g, h, hc⟩
  · exact .inl h
  · exact .inr ⟨g, h, by rw [hb.cell (World.block_lt_of_cell? w _ hc)]; exact hc⟩

set_option maxRecDepth 100000 in
set_option maxHeartbeats 1000000 in
theorem nMade {w : World} {p : Option Addr} (h : Dead w p) :
    Calls Try.prog 43 #[.pointer p] w fun q w' => q = .returned (.bool false) ∧ w = w' := by
  rcases h with rfl | ⟨g, rfl, hc⟩
  · go_enter Try.func43, Try.ntmps43
    go_wp2
    go_ret
    exact ⟨rfl, rfl⟩
  · go_enter Try.func43, Try.ntmps43
    go_wp2
    go_ret
    exact ⟨rfl, rfl⟩

set_option maxRecDepth 100000 in
set_option maxHeartbeats 1000000 in
theorem nFind {w : World} {p : Option Addr} (h : Dead w p) (i : Int) :
    Calls Try.prog 36 #[.pointer p, .int .i64 i] w fun q w' => q = .returned (.tuple #[.pointer none, .int .i64 7]) ∧ w = w' := by
  have hM := nMade h
  clear h
  go_enter Try.func36, Try.ntmps36
  go_wp2_with fail
  refine hM.mono ?_
  rintro q w1 ⟨rfl, rfl⟩
  go_wp2
  go_ret2
  exact ⟨rfl, rfl⟩

set_option maxRecDepth 100000 in
set_option maxHeartbeats 1000000 in
theorem nAppend {w : World} {p : Option Addr} (h : Dead w p) (i : Int) (a : Option Addr) (n c : Nat) :
    Calls Try.prog 16 #[.pointer p, .int .i64 i, .slice a n c] w fun q w' => q = .returned (.int .i64 7) ∧ w = w' := by
  have hM := nFind h i
  clear h
  go_enter Try.func16, Try.ntmps16
  go_wp2_with fail
  refine hM.mono ?_
  rintro q w1 ⟨rfl, rfl⟩
  go_wp2
  go_ret
  exact ⟨rfl, rfl⟩

set_option maxRecDepth 100000 in
set_option maxHeartbeats 1000000 in
theorem nCut {w : World} {p : Option Addr} (h : Dead w p) (i k : Int) :
    Calls Try.prog 25 #[.pointer p, .int .i64 i, .int .i64 k] w fun q w' => q = .returned (.int .i64 7) ∧ w = w' := by
  have hM := nFind h i
  clear h
  go_enter Try.func25, Try.ntmps25
  go_wp2_with fail
  refine hM.mono ?_
  rintro q w1 ⟨rfl, rfl⟩
  go_wp2
  go_ret
  exact ⟨rfl, rfl⟩

set_option maxRecDepth 100000 in
set_option maxHeartbeats 1000000 in
theorem nSync {w : World} {p : Option Addr} (h : Dead w p) (i : Int) :
    Calls Try.prog 14 #[.pointer p, .int .i64 i] w fun q w' => q = .returned (.int .i64 7) ∧ w = w' := by
  have hM := nFind h i
  clear h
  go_enter Try.func14, Try.ntmps14
  go_wp2_with fail
  refine hM.mono ?_
  rintro q w1 ⟨rfl, rfl⟩
  go_wp2
  go_ret
  exact ⟨rfl, rfl⟩

set_option maxRecDepth 100000 in
set_option maxHeartbeats 1000000 in
theorem nUsed {w : World} {p : Option Addr} (h : Dead w p) :
    Calls Try.prog 22 #[.pointer p] w fun q w' => q = .returned (.int .i64 0) ∧ w = w' := by
  have hM := nMade h
  clear h
  go_enter Try.func22, Try.ntmps22
  go_wp2_with fail
  refine hM.mono ?_
  rintro q w1 ⟨rfl, rfl⟩
  go_wp2
  go_ret
  exact ⟨rfl, rfl⟩

set_option maxRecDepth 100000 in
set_option maxHeartbeats 1000000 in
theorem nRoom {w : World} {p : Option Addr} (h : Dead w p) :
    Calls Try.prog 27 #[.pointer p] w fun q w' => q = .returned (.int .i64 0) ∧ w = w' := by
  have hM := nMade h
  clear h
  go_enter Try.func27, Try.ntmps27
  go_wp2_with fail
  refine hM.mono ?_
  rintro q w1 ⟨rfl, rfl⟩
  go_wp2
  go_ret
  exact ⟨rfl, rfl⟩

set_option maxRecDepth 100000 in
set_option maxHeartbeats 1000000 in
theorem nFuse {w : World} {p : Option Addr} (h : Dead w p) :
    Calls Try.prog 19 #[.pointer p] w fun q w' => q = .returned (.int .i64 0) ∧ w = w' := by
  have hM := nMade h
  clear h
  go_enter Try.func19, Try.ntmps19
  go_wp2_with fail
  refine hM.mono ?_
  rintro q w1 ⟨rfl, rfl⟩
  go_wp2
  go_ret
  exact ⟨rfl, rfl⟩

set_option maxRecDepth 100000 in
set_option maxHeartbeats 1000000 in
theorem nDown {w : World} {p : Option Addr} (h : Dead w p) :
    Calls Try.prog 18 #[.pointer p] w fun q w' => q = .returned (.bool true) ∧ w = w' := by
  have hM := nMade h
  clear h
  go_enter Try.func18, Try.ntmps18
  go_wp2_with fail
  refine hM.mono ?_
  rintro q w1 ⟨rfl, rfl⟩
  go_wp2
  go_ret
  exact ⟨rfl, rfl⟩

set_option maxRecDepth 100000 in
set_option maxHeartbeats 1000000 in
theorem nClone {w : World} {p : Option Addr} (h : Dead w p) :
    Calls Try.prog 21 #[.pointer p] w fun q w' => q = .returned (.pointer none) ∧ w = w' := by
  have hM := nMade h
  clear h
  go_enter Try.func21, Try.ntmps21
  go_wp2_with fail
  refine hM.mono ?_
  rintro q w1 ⟨rfl, rfl⟩
  go_wp2
  go_ret
  exact ⟨rfl, rfl⟩

set_option maxRecDepth 100000 in
set_option maxHeartbeats 1000000 in
theorem nArm {w : World} {p : Option Addr} (h : Dead w p) (n : Int) :
    Calls Try.prog 24 #[.pointer p, .int .i64 n] w fun q w' => q = .returned (.tuple #[]) ∧ w = w' := by
  have hM := nMade h
  clear h
  go_enter Try.func24, Try.ntmps24
  go_wp2_with fail
  refine hM.mono ?_
  rintro q w1 ⟨rfl, rfl⟩
  go_wp2
  (try simp only [Exit.inBlock, Exit.then])
  first
    | go_end0
    | refine bodyPost_ret (results_none rfl _ _ _) rfl ?_
  first
    | exact ⟨rfl, rfl⟩
    | rfl

set_option maxRecDepth 100000 in
set_option maxHeartbeats 1000000 in
theorem nCrash {w : World} {p : Option Addr} (h : Dead w p) (a : Option Addr) (n c : Nat) :
    Calls Try.prog 17 #[.pointer p, .slice a n c] w fun q w' => q = .returned (.tuple #[]) ∧ w = w' := by
  have hM := nMade h
  clear h
  go_enter Try.func17, Try.ntmps17
  go_wp2_with fail
  refine hM.mono ?_
  rintro q w1 ⟨rfl, rfl⟩
  go_wp2
  (try simp only [Exit.inBlock, Exit.then])
  first
    | go_end0
    | refine bodyPost_ret (results_none rfl _ _ _) rfl ?_
  first
    | exact ⟨rfl, rfl⟩
    | rfl

set_option maxRecDepth 100000 in
set_option maxHeartbeats 1000000 in
theorem nLook {w : World} {p : Option Addr} (h : Dead w p) (i : Int) :
    Calls Try.prog 40 #[.pointer p, .int .i64 i] w fun q w' => q = .returned (.agg flZ.toArray) ∧ Below w.heap.size w w' := by
  obtain ⟨zs, hzs⟩ : ∃ zs, flZ = zs := ⟨_, rfl⟩
  have hz := zeroFl
  have hbt := built_fl0
  have h1 := flZ_one
  have hl : flZ.length = 5 := rfl
  rw [hzs] at hz hbt h1 hl ⊢
  have hZ := Blk.new w 61 zs
  have hB := below1 w (.cells zs.toArray 61)
  have hF := nFind (h.keep hB) i
  obtain ⟨W, hW⟩ : ∃ W, w.alloc (.cells zs.toArray 61) = W := ⟨_, rfl⟩
  rw [hW] at hZ hB hF
  have hWH := Lib.hid hW
  have hrow : IsRow Try.prog 61 zs.length := by rw [hl]; exact rowFl
  clear hzs h hW
  go_enter Try.func40, Try.ntmps40
  go_wp2_with (with_reducible refine wpList_alloc_blk rfl 61 rfl hz ?_
               refine RowKit.Hid.out ?_)
  refine Lib.hid ?_
  rw [hWH.out]
  go_wp2_with fail
  refine hF.mono ?_
  rintro q w1 ⟨rfl, rfl⟩
  go_wp2_with (with_reducible refine build_row rfl 61 #[] rfl (cells := zs.toArray) ?_ ?_
               (refine Eq.trans (congrArg _ ?_) hbt; kernel_rfl)
               refine RowKit.Hid.out ?_)
  refine Lib.hid ?_
  refine store_row rfl 61 (.tmp 4) _ rfl rfl rfl hZ rowFl hl hl h1 ?_
  intro w2 hb2 hg2
  have hB2 := hB.grown hg2 hB.size (fun q hq => by injection hq with hq; rw [← hq]; exact Nat.le_refl _)
  clear hZ hg2
  go_wp2
  refine bodyPost_ret (results_blk rfl rfl hb2 hrow) rfl ?_
  exact ⟨rfl, hB2⟩

set_option maxRecDepth 100000 in
set_option maxHeartbeats 1000000 in
theorem pClone_none (w : World) : Calls Try.prog 39 #[.slice none 0 0] w fun q w' => q = .returned (.slice none 0 0) ∧ w = w' := by
  have heq := pNone 0
  go_enter Try.func39, Try.ntmps39
  go_wp2
  go_ret
  exact ⟨rfl, rfl⟩

set_option maxRecDepth 100000 in
set_option maxHeartbeats 1000000 in
theorem nRead {w : World} {p : Option Addr} (h : Dead w p) (i : Int) :
    Calls Try.prog 15 #[.pointer p, .int .i64 i] w fun q w' => q = .returned (.slice none 0 0) ∧ Below w.heap.size w w' := by
  have hL := nLook h i
  have hf : ∀ wx, (Instr.field 61 (.agg flZ.toArray) 2).run Try.prog wx = .ok (.slice none 0 0) wx := fun wx => by kernel_rfl
  obtain ⟨Cs, hCs⟩ : ∃ Cs, flZ.toArray = Cs := ⟨_, rfl⟩
  rw [hCs] at hf hL
  clear h hCs
  have hC := fun w' => pClone_none w'
  go_enter Try.func15, Try.ntmps15
  go_wp2_with fail
  refine hL.mono ?_
  rintro q w1 ⟨rfl, hB⟩
  go_wp2_with fail
  refine (hC w1).mono ?_
  rintro q w2 ⟨rfl, rfl⟩
  go_wp2
  go_ret
  exact ⟨rfl, hB⟩

set_option maxRecDepth 100000 in
set_option maxHeartbeats 1000000 in
theorem nKept {w : World} {p : Option Addr} (h : Dead w p) (i : Int) :
    Calls Try.prog 20 #[.pointer p, .int .i64 i] w fun q w' => q = .returned (.slice none 0 0) ∧ Below w.heap.size w w' := by
  have hL := nLook h i
  have hf : ∀ wx, (Instr.field 61 (.agg flZ.toArray) 0).run Try.prog wx = .ok (.slice none 0 0) wx := fun wx => by kernel_rfl
  obtain ⟨Cs, hCs⟩ : ∃ Cs, flZ.toArray = Cs := ⟨_, rfl⟩
  rw [hCs] at hf hL
  clear h hCs
  have hC := fun w' => pClone_none w'
  go_enter Try.func20, Try.ntmps20
  go_wp2_with fail
  refine hL.mono ?_
  rintro q w1 ⟨rfl, hB⟩
  go_wp2_with fail
  refine (hC w1).mono ?_
  rintro q w2 ⟨rfl, rfl⟩
  go_wp2
  go_ret
  exact ⟨rfl, hB⟩

set_option maxRecDepth 100000 in
set_option maxHeartbeats 1000000 in
theorem nSize {w : World} {p : Option Addr} (h : Dead w p) (i : Int) :
    Calls Try.prog 23 #[.pointer p, .int .i64 i] w fun q w' => q = .returned (.int .i64 0) ∧ Below w.heap.size w w' := by
  have hL := nLook h i
  have hf : ∀ wx, (Instr.field 61 (.agg flZ.toArray) 2).run Try.prog wx = .ok (.slice none 0 0) wx := fun wx => by kernel_rfl
  obtain ⟨Cs, hCs⟩ : ∃ Cs, flZ.toArray = Cs := ⟨_, rfl⟩
  rw [hCs] at hf hL
  clear h hCs
  go_enter Try.func23, Try.ntmps23
  go_wp2_with fail
  refine hL.mono ?_
  rintro q w1 ⟨rfl, hB⟩
  go_wp2
  go_ret
  exact ⟨rfl, hB⟩

set_option maxRecDepth 100000 in
set_option maxHeartbeats 1000000 in
theorem nUnits {w : World} {p : Option Addr} (h : Dead w p) (i : Int) :
    Calls Try.prog 26 #[.pointer p, .int .i64 i] w fun q w' => q = .returned (.int .i64 0) ∧ Below w.heap.size w w' := by
  have hL := nLook h i
  have hf : ∀ wx, (Instr.field 61 (.agg flZ.toArray) 4).run Try.prog wx = .ok (.int .i64 0) wx := fun wx => by kernel_rfl
  obtain ⟨Cs, hCs⟩ : ∃ Cs, flZ.toArray = Cs := ⟨_, rfl⟩
  rw [hCs] at hf hL
  clear h hCs
  go_enter Try.func26, Try.ntmps26
  go_wp2_with fail
  refine hL.mono ?_
  rintro q w1 ⟨rfl, hB⟩
  go_wp2
  go_ret
  exact ⟨rfl, hB⟩

end Go.Proofs.Ytehfimkgoepngaa

/-
  Texts of stages that were proved on their own, joined: RlMem, RlRight, RlNums, RfName. Each begins with its own words.
-/
import Derived.Test.YtbiabjehdmddbaaGreatDoorJRlAll3
import Derived.Test.YtbiabjehdmddbaaGreatDoorJRlAll4

/-
  Replies in memory (layer 15): their cells, their numbers as an array, values built of parts, replies compared. No conditions but those that each row names.
-/
namespace Go.Proofs.YtbiabjehdmddbaaGreatDoor
open Go.RowKit

def rpC (K E S Q O U X : Int) : List Value := [.int .i64 K, .int .i64 E, .int .u32 S, .int .u32 Q, .int .u32 O, .int .u32 U, .int .u32 X]
def arC (S Q O U X : Int) : List Value := [.int .u32 S, .int .u32 Q, .int .u32 O, .int .u32 U, .int .u32 X]
theorem rpC_len {K E S Q O U X : Int} : (rpC K E S Q O U X).length = 7 := rfl
theorem arC_len {S Q O U X : Int} : (arC S Q O U X).length = 5 := rfl
theorem rpC_one (K E S Q O U X : Int) : ∀ v ∈ rpC K E S Q O U X, v.oneCell' = true := by
  intro v hv
  simp only [rpC, List.mem_cons, List.mem_nil_iff, or_false] at hv
  rcases hv with rfl | rfl | rfl | rfl | rfl | rfl | rfl <;> rfl
theorem arC_one (S Q O U X : Int) : ∀ v ∈ arC S Q O U X, v.oneCell' = true := by
  intro v hv
  simp only [arC, List.mem_cons, List.mem_nil_iff, or_false] at hv
  rcases hv with rfl | rfl | rfl | rfl | rfl <;> rfl
section
variable {w : World} {g : Nat} {T : TypeId} {K E S Q O U X : Int}
theorem rp0 (h : Blk w g T (rpC K E S Q O U X)) : w.cell? ⟨g, 0, none⟩ = some (.int .i64 K) := h.cell 0
theorem rp1 (h : Blk w g T (rpC K E S Q O U X)) : w.cell? ⟨g, 1, none⟩ = some (.int .i64 E) := h.cell 1
theorem rp2 (h : Blk w g T (rpC K E S Q O U X)) : w.cell? ⟨g, 2, none⟩ = some (.int .u32 S) := h.cell 2
theorem rp3 (h : Blk w g T (rpC K E S Q O U X)) : w.cell? ⟨g, 3, none⟩ = some (.int .u32 Q) := h.cell 3
theorem rp4 (h : Blk w g T (rpC K E S Q O U X)) : w.cell? ⟨g, 4, none⟩ = some (.int .u32 O) := h.cell 4
theorem rp5 (h : Blk w g T (rpC K E S Q O U X)) : w.cell? ⟨g, 5, none⟩ = some (.int .u32 U) := h.cell 5
theorem rp6 (h : Blk w g T (rpC K E S Q O U X)) : w.cell? ⟨g, 6, none⟩ = some (.int .u32 X) := h.cell 6
theorem ar0 (h : Blk w g T (arC S Q O U X)) : w.cell? ⟨g, 0, none⟩ = some (.int .u32 S) := h.cell 0
theorem ar1 (h : Blk w g T (arC S Q O U X)) : w.cell? ⟨g, 1, none⟩ = some (.int .u32 Q) := h.cell 1
theorem ar2 (h : Blk w g T (arC S Q O U X)) : w.cell? ⟨g, 2, none⟩ = some (.int .u32 O) := h.cell 2
theorem ar3 (h : Blk w g T (arC S Q O U X)) : w.cell? ⟨g, 3, none⟩ = some (.int .u32 U) := h.cell 3
theorem ar4 (h : Blk w g T (arC S Q O U X)) : w.cell? ⟨g, 4, none⟩ = some (.int .u32 X) := h.cell 4
end

theorem sizeRp : (Tryz.prog.info? 26).map (·.size) = some 7 := by kernel_rfl
theorem rowRp : IsRow Tryz.prog 26 7 := IsRow.struct Tryz.underlying26 sizeRp
theorem zeroRp : Zero Tryz.prog 26 (rpC 0 0 0 0 0 0 0) := by unfold Zero; kernel_rfl
theorem built_rp0 : Tryz.prog.built 26 [] = some (rpC 0 0 0 0 0 0 0).toArray := by kernel_rfl
theorem built_rp2 (K E : Int) : Tryz.prog.built 26 [(0, .int .i64 K), (1, .int .i64 E)] = some (rpC K E 0 0 0 0 0).toArray := by kernel_rfl
theorem built_rp7 (K E S Q O U X : Int) : Tryz.prog.built 26 [(0, .int .i64 K), (1, .int .i64 E), (2, .int .u32 S), (3, .int .u32 Q), (4, .int .u32 O), (5, .int .u32 U), (6, .int .u32 X)] = some (rpC K E S Q O U X).toArray := by kernel_rfl
theorem noGuardRp : Tryz.prog.eqGuardType Tryz.prog.depth 26 = false := by kernel_rfl

theorem sizeAr : (Tryz.prog.info? 42).map (·.size) = some 5 := by kernel_rfl
theorem rowAr : IsRow Tryz.prog 42 5 := IsRow.array Tryz.underlying42 sizeAr
theorem zeroAr : Zero Tryz.prog 42 (arC 0 0 0 0 0) := by unfold Zero; kernel_rfl
theorem built_ar5 (S Q O U X : Int) : Tryz.prog.built 42 [(0, .int .u32 S), (1, .int .u32 Q), (2, .int .u32 O), (3, .int .u32 U), (4, .int .u32 X)] = some (arC S Q O U X).toArray := by kernel_rfl

/-- Whether two replies are the same. -/
def rpSame (r s : RplV) : Bool := r.kind == s.kind && (r.err == s.err && (r.ses == s.ses && (r.seq == s.seq && (r.quo == s.quo && (r.usd == s.usd && r.exp == s.exp)))))
theorem rpSame_iff (r s : RplV) : rpSame r s = true ↔ r = s := by
  obtain ⟨a, b, c, d, e, f, g⟩ := r
  obtain ⟨a', b', c', d', e', f', g'⟩ := s
  simp [rpSame]
theorem rpSame_self (r : RplV) : rpSame r r = true := (rpSame_iff r r).2 rfl
def rpV (r : RplV) : List Value := rpC r.kind r.err r.ses r.seq r.quo r.usd r.exp
theorem rpV_len (r : RplV) : (rpV r).length = 7 := rfl
theorem rpV_one (r : RplV) : ∀ v ∈ rpV r, v.oneCell' = true := rpC_one _ _ _ _ _ _ _

set_option maxRecDepth 100000 in
theorem eq_rp (r s : RplV) (w : World) : (Op.equalIn 10000 26 (.agg (rpV r).toArray) (.agg (rpV s).toArray)).run Tryz.prog w = .ok (rpSame r s) w := by
  obtain ⟨K, E, S, Q, O, U, X⟩ := r
  obtain ⟨K', E', S', Q', O', U', X'⟩ := s
  unfold rpV rpSame
  dsimp only
  rw [run_equalIn_agg w 9999 26 _ _ (by kernel_rfl) (by kernel_rfl)]
  have hu := Tryz.underlying26
  unfold Program.fieldsOf
  rw [hu]
  dsimp only
  rw [eqF_step 9999 _ _ _ _ (.int .i64 K) (.int .i64 K') (K == K') w (by decide) (run_part_plain w (by kernel_rfl) rfl) (run_part_plain w (by kernel_rfl) rfl) (run_equalIn_int w 9998 22 .i64 .i64 K K' Tryz.underlying22)]
  rw [eqF_step 9999 _ _ _ _ (.int .i64 E) (.int .i64 E') (E == E') w (by decide) (run_part_plain w (by kernel_rfl) rfl) (run_part_plain w (by kernel_rfl) rfl) (run_equalIn_int w 9998 23 .i64 .i64 E E' Tryz.underlying23)]
  rw [eqF_step 9999 _ _ _ _ (.int .u32 S) (.int .u32 S') (S == S') w (by decide) (run_part_plain w (by kernel_rfl) rfl) (run_part_plain w (by kernel_rfl) rfl) (run_equalIn_int w 9998 24 .u32 .u32 S S' Tryz.underlying24)]
  rw [eqF_step 9999 _ _ _ _ (.int .u32 Q) (.int .u32 Q') (Q == Q') w (by decide) (run_part_plain w (by kernel_rfl) rfl) (run_part_plain w (by kernel_rfl) rfl) (run_equalIn_int w 9998 24 .u32 .u32 Q Q' Tryz.underlying24)]
  rw [eqF_step 9999 _ _ _ _ (.int .u32 O) (.int .u32 O') (O == O') w (by decide) (run_part_plain w (by kernel_rfl) rfl) (run_part_plain w (by kernel_rfl) rfl) (run_equalIn_int w 9998 24 .u32 .u32 O O' Tryz.underlying24)]
  rw [eqF_step 9999 _ _ _ _ (.int .u32 U) (.int .u32 U') (U == U') w (by decide) (run_part_plain w (by kernel_rfl) rfl) (run_part_plain w (by kernel_rfl) rfl) (run_equalIn_int w 9998 24 .u32 .u32 U U' Tryz.underlying24)]
  rw [eqF_step 9999 _ _ _ _ (.int .u32 X) (.int .u32 X') (X == X') w (by decide) (run_part_plain w (by kernel_rfl) rfl) (run_part_plain w (by kernel_rfl) rfl) (run_equalIn_int w 9998 24 .u32 .u32 X X' Tryz.underlying24)]
  rw [Op.eqFields, Sem.run_pure, bool_if, bool_if, bool_if, bool_if, bool_if, bool_if, bool_if, Bool.and_true]
/-- A string's bytes are those of a text. -/
theorem str_lit {x y : List Int} (hx : okB x) (hy : okB y) : (strOfNums x).toList = (strOfNums y).toList ↔ x = y := by
  have h := str_eq hx hy
  constructor
  · intro e
    rw [e, beq_self_eq_true] at h
    exact of_decide_eq_true h.symm
  · rintro rfl
    rfl
theorem q_list : (strOfNums [63]).toList = [63] := by decide +kernel
theorem okq : okB [63] := by unfold okB; decide
theorem kindQ (K : Int) : (strOfNums (nameL kindsL K)).toList = [63] ↔ ¬ (0 ≤ K ∧ K < 7) := by
  rw [← q_list, str_lit (nameL_ok _ kinds_b K) okq]
  exact kind_q K
theorem errQ (K : Int) : (strOfNums (nameL errsL K)).toList = [63] ↔ ¬ (0 ≤ K ∧ K < 21) := by
  rw [← q_list, str_lit (nameL_ok _ errs_b K) okq]
  exact err_q K
end Go.Proofs.YtbiabjehdmddbaaGreatDoor

/-
  What reply's Right, numbersOf and replyOf (layer 15) come to. New memory alone is written. No conditions.
-/
namespace Go.Proofs.YtbiabjehdmddbaaGreatDoor
open Go.RowKit

theorem right_kind {r : RplV} (h : ¬ (0 ≤ r.kind ∧ r.kind < 7)) : rightR r = false := decide_eq_false fun k => h k.1
theorem right_err {r : RplV} (h : ¬ (0 ≤ r.err ∧ r.err < 21)) : rightR r = false := decide_eq_false fun k => h k.2.1
theorem right_ok {r : RplV} (h1 : 0 ≤ r.kind ∧ r.kind < 7) (h2 : 0 ≤ r.err ∧ r.err < 21) (h : r.err = 0) : rightR r = true := decide_eq_true ⟨h1, h2, .inl h⟩
theorem right_bare {r : RplV} (h1 : 0 ≤ r.kind ∧ r.kind < 7) (h2 : 0 ≤ r.err ∧ r.err < 21) (h : r.err ≠ 0) : rightR r = rpSame r ⟨r.kind, r.err, 0, 0, 0, 0, 0⟩ := by
  rw [Bool.eq_iff_iff, rightR_iff, rpSame_iff]
  obtain ⟨K, E, S, Q, O, U, X⟩ := r
  dsimp only at h h1 h2 ⊢
  constructor
  · rintro ⟨_, _, k⟩
    obtain ⟨k1, k2, k3, k4, k5⟩ := k.resolve_left h
    dsimp only at k1 k2 k3 k4 k5
    rw [k1, k2, k3, k4, k5]
  · intro e
    injection e with _ _ k1 k2 k3 k4 k5
    exact ⟨h1, h2, .inr ⟨k1, k2, k3, k4, k5⟩⟩

set_option maxRecDepth 100000 in
set_option maxHeartbeats 2000000 in
theorem rlRight_any (r : RplV) (w : World) : Calls Tryz.prog 7 #[.agg (rpV r).toArray] w fun q w' => q = .returned (.bool (rightR r)) ∧ Below w.heap.size w w' := by
  have hkn := fun w' => rlKindName_any r.kind w'
  have hen := fun w' => rlErrName_any r.err w'
  have hkq := kindQ r.kind
  have heq := errQ r.err
  have hsm := eq_rp r ⟨r.kind, r.err, 0, 0, 0, 0, 0⟩
  have hbt := built_rp2 r.kind r.err
  have hng := noGuardRp
  have r1 := right_kind (r := r)
  have r2 := right_err (r := r)
  have r3 := right_ok (r := r)
  have r4 := right_bare (r := r)
  obtain ⟨D, hD⟩ : ∃ D, rpV ⟨r.kind, r.err, 0, 0, 0, 0, 0⟩ = D := ⟨_, rfl⟩
  rw [hD] at hsm
  rw [show rpC r.kind r.err 0 0 0 0 0 = D from hD] at hbt
  obtain ⟨B, hB⟩ : ∃ B, rpSame r ⟨r.kind, r.err, 0, 0, 0, 0, 0⟩ = B := ⟨_, rfl⟩
  rw [hB] at hsm r4
  obtain ⟨R, hR⟩ : ∃ R, rightR r = R := ⟨_, rfl⟩
  rw [hR] at r1 r2 r3 r4 ⊢
  obtain ⟨K, E, S, Q, O, U, X⟩ := r
  unfold rpV at hsm ⊢
  dsimp only at *
  obtain ⟨C, hC⟩ : ∃ C, rpC K E S Q O U X = C := ⟨_, rfl⟩
  rw [hC] at hsm ⊢
  have hCl : C.length = 7 := by rw [← hC]; rfl
  have hCH := Lib.hid hC
  have hb := below1 w (.cells C.toArray 26)
  have hk : Blk (w.alloc (.cells C.toArray 26)) w.heap.size 26 C := Blk.new w _ C
  obtain ⟨W, hW⟩ : ∃ V, w.alloc (.cells C.toArray 26) = V := ⟨_, rfl⟩
  rw [hW] at hb hk
  obtain ⟨G, g9⟩ : ∃ G, w.heap.size = G := ⟨_, rfl⟩
  rw [g9] at hk
  have gH := Lib.hid g9
  obtain ⟨S1, hS1⟩ : ∃ S, strOfNums (nameL kindsL K) = S := ⟨_, rfl⟩
  obtain ⟨S2, hS2⟩ : ∃ S, strOfNums (nameL errsL E) = S := ⟨_, rfl⟩
  rw [hS1] at hkn hkq
  rw [hS2] at hen heq
  have hkn := Lib.hid hkn
  have hen := Lib.hid hen
  clear hC hD hB hR hS1 hS2
  by_cases k1 : 0 ≤ K ∧ K < 7
  · have hk' : ¬ S1.toList = [63] := fun e => hkq.1 e k1
    have hkb : (S1.toList == [63]) = false := beq_false_of_ne hk'
    clear hkq
    by_cases k2 : 0 ≤ E ∧ E < 21
    · have he' : ¬ S2.toList = [63] := fun e => heq.1 e k2
      have heb : (S2.toList == [63]) = false := beq_false_of_ne he'
      clear heq
      by_cases k3 : E = 0
      · obtain rfl := r3 k1 k2 k3
        subst k3
        clear r1 r2 r3 r4 k1 k2 hsm hbt
        go_enter Tryz.func7, Tryz.ntmps7
        go_wp2_with ((with_reducible refine box_row rfl 26 (.tmp 0) rfl C ?_ ?_); rfl; refine RowKit.Hid.out ?_)
        refine Lib.hid ?_
        clear hW
        have c0 := rp0 (hCH.out ▸ hk)
        go_wp2_with fail
        refine (hkn.out W).mono ?_
        rintro q w1 ⟨rfl, b1⟩
        have hk1 := hk.keep b1 hk.lt
        have hS1 := hb.trans (b1.mono hb.size)
        have c1 := rp1 (hCH.out ▸ hk1)
        clear hk hb b1 c0
        go_wp2_with fail
        refine (hen.out w1).mono ?_
        rintro q w2 ⟨rfl, b2⟩
        have hk2 := hk1.keep b2 hk1.lt
        have hS2 := hS1.trans (b2.mono hS1.size)
        have c0 := rp0 (hCH.out ▸ hk2)
        have c1' := rp1 (hCH.out ▸ hk2)
        clear hk1 hS1 b2 c1
        go_wp2
        go_ret
        exact ⟨rfl, hS2⟩
      · obtain rfl := r4 k1 k2 k3
        have k3b : (E == 0) = false := beq_false_of_ne k3
        clear r1 r2 r3 r4 k1 k2 k3
        go_enter Tryz.func7, Tryz.ntmps7
        go_wp2_with ((with_reducible refine box_row rfl 26 (.tmp 0) rfl C ?_ ?_); rfl; refine RowKit.Hid.out ?_)
        refine Lib.hid ?_
        clear hW
        have c0 := rp0 (hCH.out ▸ hk)
        go_wp2_with fail
        refine (hkn.out W).mono ?_
        rintro q w1 ⟨rfl, b1⟩
        have hk1 := hk.keep b1 hk.lt
        have hS1 := hb.trans (b1.mono hb.size)
        have c1 := rp1 (hCH.out ▸ hk1)
        clear hk hb b1 c0
        go_wp2_with fail
        refine (hen.out w1).mono ?_
        rintro q w2 ⟨rfl, b2⟩
        have hk2 := hk1.keep b2 hk1.lt
        have hS2 := hS1.trans (b2.mono hS1.size)
        have c0 := rp0 (hCH.out ▸ hk2)
        have c1' := rp1 (hCH.out ▸ hk2)
        clear hk1 hS1 b2 c1
        go_wp2_with (first
          | ((with_reducible refine load_if rfl 26 (.tmp 1) rfl ?_ hk2 rowRp hCl ?_); rfl)
          | ((with_reducible refine build_if rfl 26 #[(0, .tmp 19), (1, .tmp 21)] rfl (cells := D.toArray) ?_ ?_); (refine Eq.trans (congrArg _ ?_) hbt; kernel_rfl)))
        go_ret
        exact ⟨by first | rfl | simp, hS2⟩
    · have he' : S2.toList = [63] := heq.2 k2
      have heb : (S2.toList == [63]) = true := beq_iff_eq.2 he'
      clear heq
      obtain rfl := r2 k2
      clear r1 r2 r3 r4 k1 k2 hsm hbt
      go_enter Tryz.func7, Tryz.ntmps7
      go_wp2_with ((with_reducible refine box_row rfl 26 (.tmp 0) rfl C ?_ ?_); rfl; refine RowKit.Hid.out ?_)
      refine Lib.hid ?_
      clear hW
      have c0 := rp0 (hCH.out ▸ hk)
      go_wp2_with fail
      refine (hkn.out W).mono ?_
      rintro q w1 ⟨rfl, b1⟩
      have hk1 := hk.keep b1 hk.lt
      have hS1 := hb.trans (b1.mono hb.size)
      have c1 := rp1 (hCH.out ▸ hk1)
      clear hk hb b1 c0
      go_wp2_with fail
      refine (hen.out w1).mono ?_
      rintro q w2 ⟨rfl, b2⟩
      have hk2 := hk1.keep b2 hk1.lt
      have hS2 := hS1.trans (b2.mono hS1.size)
      have c0 := rp0 (hCH.out ▸ hk2)
      have c1' := rp1 (hCH.out ▸ hk2)
      clear hk1 hS1 b2 c1
      go_wp2
      go_ret
      exact ⟨rfl, hS2⟩
  · have hk' : S1.toList = [63] := hkq.2 k1
    have hkb : (S1.toList == [63]) = true := beq_iff_eq.2 hk'
    clear hkq heq
    obtain rfl := r1 k1
    clear r1 r2 r3 r4 k1 hsm hbt
    go_enter Tryz.func7, Tryz.ntmps7
    go_wp2_with ((with_reducible refine box_row rfl 26 (.tmp 0) rfl C ?_ ?_); rfl; refine RowKit.Hid.out ?_)
    refine Lib.hid ?_
    clear hW
    have c0 := rp0 (hCH.out ▸ hk)
    go_wp2_with fail
    refine (hkn.out W).mono ?_
    rintro q w1 ⟨rfl, b1⟩
    have hk1 := hk.keep b1 hk.lt
    have hS1 := hb.trans (b1.mono hb.size)
    have c1 := rp1 (hCH.out ▸ hk1)
    clear hk hb b1 c0
    go_wp2
    go_ret
    exact ⟨rfl, hS1⟩
end Go.Proofs.YtbiabjehdmddbaaGreatDoor

/-
  What reply's numbersOf and replyOf (layer 15) come to. New memory alone is written. No conditions.
-/
namespace Go.Proofs.YtbiabjehdmddbaaGreatDoor
open Go.RowKit

def arV (r : RplV) : List Value := arC r.ses r.seq r.quo r.usd r.exp

set_option maxRecDepth 100000 in
set_option maxHeartbeats 1000000 in
theorem rlNums_any (r : RplV) (w : World) : Calls Tryz.prog 17 #[.agg (rpV r).toArray] w fun q w' => q = .returned (.agg (arV r).toArray) ∧ Below w.heap.size w w' := by
  obtain ⟨K, E, S, Q, O, U, X⟩ := r
  unfold rpV arV
  dsimp only
  have hbt := built_ar5 S Q O U X
  have hD1 := arC_one S Q O U X
  have hDl : (arC S Q O U X).length = 5 := rfl
  have hb := below2 w (.cells (rpC K E S Q O U X).toArray 26) (.cells (arC 0 0 0 0 0).toArray 42)
  have hk : Blk ((w.alloc (.cells (rpC K E S Q O U X).toArray 26)).alloc (.cells (arC 0 0 0 0 0).toArray 42)) w.heap.size 26 (rpC K E S Q O U X) := (Blk.new w _ _).alloc _
  have hz : Blk ((w.alloc (.cells (rpC K E S Q O U X).toArray 26)).alloc (.cells (arC 0 0 0 0 0).toArray 42)) (w.heap.size + 1) 42 (arC 0 0 0 0 0) := Blk.new1 w _ _ _
  obtain ⟨V, hV⟩ : ∃ V, (w.alloc (.cells (rpC K E S Q O U X).toArray 26)).alloc (.cells (arC 0 0 0 0 0).toArray 42) = V := ⟨_, rfl⟩
  rw [hV] at hb hk hz
  have c2 := rp2 hk
  have c3 := rp3 hk
  have c4 := rp4 hk
  have c5 := rp5 hk
  have c6 := rp6 hk
  obtain ⟨G, hG⟩ : ∃ G, w.heap.size = G := ⟨_, rfl⟩
  rw [hG] at hb c2 c3 c4 c5 c6 hz
  obtain ⟨C, hC⟩ : ∃ C, rpC K E S Q O U X = C := ⟨_, rfl⟩
  obtain ⟨D, hD⟩ : ∃ D, arC S Q O U X = D := ⟨_, rfl⟩
  rw [hC] at hV ⊢
  rw [hD] at hbt hD1 hDl
  rw [hD, hG]
  clear hk hC hD
  go_enter Tryz.func17, Tryz.ntmps17
  go_wp2_with (first
    | ((with_reducible refine box_row rfl 26 (.tmp 0) rfl C ?_ ?_); rfl)
    | ((with_reducible refine wpList_alloc_blk rfl 42 rfl zeroAr ?_); refine RowKit.Hid.out ?_))
  refine Lib.hid ?_
  try simp only [size1]
  try rw [hV, hG]
  clear hV hG
  go_wp2_with ((with_reducible refine build_row rfl 42 #[(0, .tmp 4), (1, .tmp 6), (2, .tmp 8), (3, .tmp 10), (4, .tmp 12)] rfl (cells := D.toArray) ?_ ?_); (refine Eq.trans (congrArg _ ?_) hbt; kernel_rfl); refine RowKit.Hid.out ?_)
  refine Lib.hid ?_
  try simp only [Act.put, List.setIfInBounds_toArray, List.set_cons_zero, List.set_cons_succ]
  refine store_row rfl 42 (.tmp 2) (.tmp 13) rfl rfl rfl hz rowAr hDl rfl hD1 ?_
  intro w2 hb2 hg2
  have hr : IsRow Tryz.prog 42 D.length := by rw [hDl]; exact rowAr
  go_wp2_with fail
  refine bodyPost_ret (results_blk rfl rfl hb2 hr) rfl ?_
  exact ⟨rfl, hb.grown hg2 (Nat.le_of_lt (by have := hz.lt; omega)) (fun q hq => by injection hq with hq; omega)⟩

set_option maxRecDepth 100000 in
set_option maxHeartbeats 1000000 in
theorem rlOf_any (r : RplV) (w : World) : Calls Tryz.prog 31 #[.int .i64 r.kind, .int .i64 r.err, .agg (arV r).toArray] w fun q w' => q = .returned (.agg (rpV r).toArray) ∧ Below w.heap.size w w' := by
  obtain ⟨K, E, S, Q, O, U, X⟩ := r
  unfold rpV arV
  dsimp only
  have hbt := built_rp7 K E S Q O U X
  have hD1 := rpC_one K E S Q O U X
  have hDl : (rpC K E S Q O U X).length = 7 := rfl
  have hb := below2 w (.cells (arC S Q O U X).toArray 42) (.cells (rpC 0 0 0 0 0 0 0).toArray 26)
  have hk : Blk ((w.alloc (.cells (arC S Q O U X).toArray 42)).alloc (.cells (rpC 0 0 0 0 0 0 0).toArray 26)) w.heap.size 42 (arC S Q O U X) := (Blk.new w _ _).alloc _
  have hz : Blk ((w.alloc (.cells (arC S Q O U X).toArray 42)).alloc (.cells (rpC 0 0 0 0 0 0 0).toArray 26)) (w.heap.size + 1) 26 (rpC 0 0 0 0 0 0 0) := Blk.new1 w _ _ _
  obtain ⟨V, hV⟩ : ∃ V, (w.alloc (.cells (arC S Q O U X).toArray 42)).alloc (.cells (rpC 0 0 0 0 0 0 0).toArray 26) = V := ⟨_, rfl⟩
  rw [hV] at hb hk hz
  have c0 := ar0 hk
  have c1 := ar1 hk
  have c2 := ar2 hk
  have c3 := ar3 hk
  have c4 := ar4 hk
  obtain ⟨G, hG⟩ : ∃ G, w.heap.size = G := ⟨_, rfl⟩
  rw [hG] at hb c0 c1 c2 c3 c4 hz
  obtain ⟨C, hC⟩ : ∃ C, arC S Q O U X = C := ⟨_, rfl⟩
  obtain ⟨D, hD⟩ : ∃ D, rpC K E S Q O U X = D := ⟨_, rfl⟩
  rw [hC] at hV ⊢
  rw [hD] at hbt hD1 hDl
  rw [hD, hG]
  clear hk hC hD
  go_enter Tryz.func31, Tryz.ntmps31
  go_wp2_with (first
    | ((with_reducible refine box_row rfl 42 (.tmp 2) rfl C ?_ ?_); rfl)
    | ((with_reducible refine wpList_alloc_blk rfl 26 rfl zeroRp ?_); refine RowKit.Hid.out ?_))
  refine Lib.hid ?_
  try simp only [size1]
  try rw [hV, hG]
  clear hV hG
  go_wp2_with ((with_reducible refine build_row rfl 26 #[(0, .tmp 7), (1, .tmp 8), (2, .tmp 10), (3, .tmp 12), (4, .tmp 14), (5, .tmp 16), (6, .tmp 18)] rfl (cells := D.toArray) ?_ ?_); (refine Eq.trans (congrArg _ ?_) hbt; kernel_rfl); refine RowKit.Hid.out ?_)
  refine Lib.hid ?_
  try simp only [Act.put, List.setIfInBounds_toArray, List.set_cons_zero, List.set_cons_succ]
  refine store_row rfl 26 (.tmp 6) (.tmp 19) rfl rfl rfl hz rowRp hDl rfl hD1 ?_
  intro w2 hb2 hg2
  have hr : IsRow Tryz.prog 26 D.length := by rw [hDl]; exact rowRp
  go_wp2_with fail
  refine bodyPost_ret (results_blk rfl rfl hb2 hr) rfl ?_
  exact ⟨rfl, hb.grown hg2 (Nat.le_of_lt (by have := hz.lt; omega)) (fun q hq => by injection hq with hq; omega)⟩
end Go.Proofs.YtbiabjehdmddbaaGreatDoor

/-
  The document's own words of layer 15: Errs, Kinds, Name, Of, with. New memory alone is written. No conditions but those that each row names.
-/
namespace Go.Proofs.YtbiabjehdmddbaaGreatDoor
open Go.RowKit

set_option maxRecDepth 100000 in
theorem rfKinds_any (w : World) : Calls Tryz.prog 25 #[] w fun q w' => q = .returned (.slice (some ⟨w.heap.size, 0, none⟩) 7 7) ∧ w' = w.alloc (.cells (strsV kindsL).toArray 9) := by
  go_enter Tryz.func25, Tryz.ntmps25
  go_wp2
  go_ret
  exact ⟨rfl, congrArg (fun c => w.alloc (.cells c 9)) (by kernel_rfl)⟩

set_option maxRecDepth 100000 in
theorem rfErrs_any (w : World) : Calls Tryz.prog 26 #[] w fun q w' => q = .returned (.slice (some ⟨w.heap.size, 0, none⟩) 21 21) ∧ w' = w.alloc (.cells (strsV errsL).toArray 9) := by
  go_enter Tryz.func26, Tryz.ntmps26
  go_wp2
  go_ret
  exact ⟨rfl, congrArg (fun c => w.alloc (.cells c 9)) (by kernel_rfl)⟩

theorem rfKinds_at (w : World) : Calls Tryz.prog 25 #[] w fun q w' => q = .returned (.slice (some ⟨w.heap.size, 0, none⟩) 7 7) ∧ Below w.heap.size w w' ∧ Blk w' w.heap.size 9 (strsV kindsL) := by
  refine (rfKinds_any w).mono ?_
  rintro q w' ⟨rfl, rfl⟩
  exact ⟨rfl, below1 w _, Blk.new w _ _⟩

theorem rfErrs_at (w : World) : Calls Tryz.prog 26 #[] w fun q w' => q = .returned (.slice (some ⟨w.heap.size, 0, none⟩) 21 21) ∧ Below w.heap.size w w' ∧ Blk w' w.heap.size 9 (strsV errsL) := by
  refine (rfErrs_any w).mono ?_
  rintro q w' ⟨rfl, rfl⟩
  exact ⟨rfl, below1 w _, Blk.new w _ _⟩

set_option maxRecDepth 100000 in
set_option maxHeartbeats 1000000 in
theorem rfName_any (g N : Nat) (ns : List (List Int)) (n : Int) (w : World) (hN : ns.length = N) (hs : N ≤ 100) (hb : Blk w g 9 (strsV ns)) :
    Calls Tryz.prog 24 #[.int .i64 n, .slice (some ⟨g, 0, none⟩) N N] w fun q w' => q = .returned (.string (strOfNums (nameL ns n))) ∧ w' = w := by
  have hcell : ∀ j, j < N → w.cell? ⟨g, j, none⟩ = some (.string (strOfNums (ns.getD j []))) := fun j hj => strsV_cell hb j (by omega)
  have hNi : (N : Int) ≤ 100 := by omega
  unfold nameL
  by_cases h0 : n < 0
  · rw [if_neg (by omega), show strOfNums [63] = { data := #[63] } by rfl]
    clear hcell hb hs hN
    go_enter Tryz.func24, Tryz.ntmps24
    go_wp2
    go_ret
    exact ⟨rfl, rfl⟩
  · by_cases h1 : (N : Int) ≤ n
    · rw [if_neg (by omega), show strOfNums [63] = { data := #[63] } by rfl]
      clear hcell hb hs hN
      go_enter Tryz.func24, Tryz.ntmps24
      go_wp2
      go_ret
      exact ⟨rfl, rfl⟩
    · obtain ⟨k, rfl⟩ : ∃ k : Nat, n = (k : Int) := ⟨n.toNat, by omega⟩
      have hc := hcell k (by omega)
      rw [if_pos (by omega), Int.toNat_natCast]
      obtain ⟨S, hS⟩ : ∃ S, strOfNums (ns.getD k []) = S := ⟨_, rfl⟩
      rw [hS] at hc ⊢
      have hk : (k : Int) < (N : Int) := by omega
      clear hcell hb hs hN hS
      go_enter Tryz.func24, Tryz.ntmps24
      go_wp2
      go_ret
      exact ⟨rfl, rfl⟩

theorem rfName_at (g N : Nat) (ns : List (List Int)) (n : Int) (w : World) (hN : ns.length = N) (hs : N ≤ 100) (hb : Blk w g 9 (strsV ns)) :
    Calls Tryz.prog 24 #[.int .i64 n, .slice (some ⟨g, 0, none⟩) N N] w fun q w' => q = .returned (.string (strOfNums (nameL ns n))) ∧ Below w.heap.size w w' := by
  refine (rfName_any g N ns n w hN hs hb).mono ?_
  rintro q w' ⟨rfl, rfl⟩
  exact ⟨rfl, Below.refl _ _⟩

/-- Five numbers in a row of memory. -/
structure Five (w : World) (g : Nat) (S Q O U X : Int) : Prop where
  c0 : w.cell? ⟨g, 0, none⟩ = some (.int .u32 S)
  c1 : w.cell? ⟨g, 1, none⟩ = some (.int .u32 Q)
  c2 : w.cell? ⟨g, 2, none⟩ = some (.int .u32 O)
  c3 : w.cell? ⟨g, 3, none⟩ = some (.int .u32 U)
  c4 : w.cell? ⟨g, 4, none⟩ = some (.int .u32 X)
section
variable {w w' : World} {g : Nat} {S Q O U X : Int}
theorem Five.lt (h : Five w g S Q O U X) : g < w.heap.size := World.block_lt_of_cell? w _ h.c0
theorem Five.alloc (h : Five w g S Q O U X) (o : Obj) : Five (w.alloc o) g S Q O U X :=
  have hne : g ≠ w.heap.size := Nat.ne_of_lt h.lt
  ⟨(World.cell?_alloc_old w o _ hne).trans h.c0, (World.cell?_alloc_old w o _ hne).trans h.c1, (World.cell?_alloc_old w o _ hne).trans h.c2, (World.cell?_alloc_old w o _ hne).trans h.c3, (World.cell?_alloc_old w o _ hne).trans h.c4⟩
theorem Five.drew (h : Five w g S Q O U X) : Five w.drew g S Q O U X := ⟨h.c0, h.c1, h.c2, h.c3, h.c4⟩
theorem Five.keep {B : Nat} (h : Five w g S Q O U X) (hb : Below B w w') (hg : g < B) : Five w' g S Q O U X :=
  ⟨(hb.cell (p := ⟨g, 0, none⟩) hg).trans h.c0, (hb.cell (p := ⟨g, 1, none⟩) hg).trans h.c1, (hb.cell (p := ⟨g, 2, none⟩) hg).trans h.c2, (hb.cell (p := ⟨g, 3, none⟩) hg).trans h.c3, (hb.cell (p := ⟨g, 4, none⟩) hg).trans h.c4⟩
theorem Five.grown {row : Option Nat} (h : Five w g S Q O U X) (hb : w.grownBy w' row) (hne : some g ≠ row) : Five w' g S Q O U X :=
  ⟨hb.cell h.c0 hne, hb.cell h.c1 hne, hb.cell h.c2 hne, hb.cell h.c3 hne, hb.cell h.c4 hne⟩
theorem Five.of_blk {t : TypeId} (h : Blk w g t (arC S Q O U X)) : Five w g S Q O U X := ⟨ar0 h, ar1 h, ar2 h, ar3 h, ar4 h⟩
end

set_option maxRecDepth 100000 in
set_option maxHeartbeats 1000000 in
theorem rfWith_at (g c : Nat) (r : RplV) (w : World) (hk : Five w g r.ses r.seq r.quo r.usd r.exp) :
    Calls Tryz.prog 37 #[.int .i64 r.kind, .int .i64 r.err, .slice (some ⟨g, 0, none⟩) 5 c] w fun q w' => q = .returned (.agg (rpV r).toArray) ∧ Below w.heap.size w w' := by
  obtain ⟨K, E, S, Q, O, U, X⟩ := r
  unfold rpV
  dsimp only at hk ⊢
  have hb := below1 w (.cells (rpC 0 0 0 0 0 0 0).toArray 26)
  have hz := Blk.new w 26 (rpC 0 0 0 0 0 0 0)
  have hkV := hk.alloc (.cells (rpC 0 0 0 0 0 0 0).toArray 26)
  obtain ⟨V, hV⟩ : ∃ V, w.alloc (.cells (rpC 0 0 0 0 0 0 0).toArray 26) = V := ⟨_, rfl⟩
  rw [hV] at hb hz hkV
  have e0 := Lib.hid (fun w' (h : Five w' g S Q O U X) => h.c0)
  have e1 := Lib.hid (fun w' (h : Five w' g S Q O U X) => h.c1)
  have e2 := Lib.hid (fun w' (h : Five w' g S Q O U X) => h.c2)
  have e3 := Lib.hid (fun w' (h : Five w' g S Q O U X) => h.c3)
  have e4 := Lib.hid (fun w' (h : Five w' g S Q O U X) => h.c4)
  have hgG : g < w.heap.size := hk.lt
  obtain ⟨G, hG⟩ : ∃ G, w.heap.size = G := ⟨_, rfl⟩
  rw [hG] at hz hgG
  have gH := Lib.hid hG
  clear hk
  go_enter Tryz.func37, Tryz.ntmps37
  go_wp2_with ((with_reducible refine wpList_alloc_blk rfl 26 rfl zeroRp ?_); refine RowKit.Hid.out ?_)
  refine Lib.hid ?_
  try simp only [Act.put, List.setIfInBounds_toArray, List.set_cons_zero, List.set_cons_succ]
  try rw [hV]
  try rw [hG]
  clear hV hG
  go_wp2_with fail
  have SD : Five V.drew g S Q O U X := hkV.drew
  refine region_seqS (fun w' => Five w' g S Q O U X) (by kernel_rfl) SD ?_
  simp only [pairs, Nat.reduceAdd]
  repeat (first
    | (refine SeqS.take (v := ?_) (by first | assumption | trivial) (by kernel_rfl) (by decide +kernel) (by decide +kernel) (Or.inl ⟨by rfl, ?_⟩) ?_
       rotate_left
       focus
         intro w' hb'
         go_simp
         with_reducible rfl
       simp only [Act.put, List.setIfInBounds_toArray, List.set_cons_zero, List.set_cons_succ])
    | (refine SeqS.take (v := ?_) (by first | assumption | trivial) (by kernel_rfl) (by decide +kernel) (by decide +kernel) (Or.inl ⟨by rfl, ?_⟩) ?_
       rotate_left
       focus
         intro w' hb'
         have d0 := e0.out w' hb'
         go_simp
         with_reducible rfl
       simp only [Act.put, List.setIfInBounds_toArray, List.set_cons_zero, List.set_cons_succ])
    | (refine SeqS.take (v := ?_) (by first | assumption | trivial) (by kernel_rfl) (by decide +kernel) (by decide +kernel) (Or.inl ⟨by rfl, ?_⟩) ?_
       rotate_left
       focus
         intro w' hb'
         have d0 := e1.out w' hb'
         go_simp
         with_reducible rfl
       simp only [Act.put, List.setIfInBounds_toArray, List.set_cons_zero, List.set_cons_succ])
    | (refine SeqS.take (v := ?_) (by first | assumption | trivial) (by kernel_rfl) (by decide +kernel) (by decide +kernel) (Or.inl ⟨by rfl, ?_⟩) ?_
       rotate_left
       focus
         intro w' hb'
         have d0 := e2.out w' hb'
         go_simp
         with_reducible rfl
       simp only [Act.put, List.setIfInBounds_toArray, List.set_cons_zero, List.set_cons_succ])
    | (refine SeqS.take (v := ?_) (by first | assumption | trivial) (by kernel_rfl) (by decide +kernel) (by decide +kernel) (Or.inl ⟨by rfl, ?_⟩) ?_
       rotate_left
       focus
         intro w' hb'
         have d0 := e3.out w' hb'
         go_simp
         with_reducible rfl
       simp only [Act.put, List.setIfInBounds_toArray, List.set_cons_zero, List.set_cons_succ])
    | (refine SeqS.take (v := ?_) (by first | assumption | trivial) (by kernel_rfl) (by decide +kernel) (by decide +kernel) (Or.inl ⟨by rfl, ?_⟩) ?_
       rotate_left
       focus
         intro w' hb'
         have d0 := e4.out w' hb'
         go_simp
         with_reducible rfl
       simp only [Act.put, List.setIfInBounds_toArray, List.set_cons_zero, List.set_cons_succ])
    | (refine SeqS.take (v := undef) (by first | assumption | trivial) (by kernel_rfl) (by decide +kernel) (by decide +kernel) (Or.inr ⟨by rfl, rfl⟩) ?_
       simp only [Act.put, List.setIfInBounds_toArray, List.set_cons_zero, List.set_cons_succ])
    | (refine SeqS.take1 (v := ?_) (by first | assumption | trivial) (by kernel_rfl) (by decide +kernel) (by decide +kernel) (Or.inl ⟨by rfl, ?_⟩) ?_
       rotate_left
       focus
         intro w' hb'
         go_simp
         with_reducible rfl
       simp only [Act.put, List.setIfInBounds_toArray, List.set_cons_zero, List.set_cons_succ])
    | (refine SeqS.take1 (v := ?_) (by first | assumption | trivial) (by kernel_rfl) (by decide +kernel) (by decide +kernel) (Or.inl ⟨by rfl, ?_⟩) ?_
       rotate_left
       focus
         intro w' hb'
         have d0 := e0.out w' hb'
         go_simp
         with_reducible rfl
       simp only [Act.put, List.setIfInBounds_toArray, List.set_cons_zero, List.set_cons_succ])
    | (refine SeqS.take1 (v := ?_) (by first | assumption | trivial) (by kernel_rfl) (by decide +kernel) (by decide +kernel) (Or.inl ⟨by rfl, ?_⟩) ?_
       rotate_left
       focus
         intro w' hb'
         have d0 := e1.out w' hb'
         go_simp
         with_reducible rfl
       simp only [Act.put, List.setIfInBounds_toArray, List.set_cons_zero, List.set_cons_succ])
    | (refine SeqS.take1 (v := ?_) (by first | assumption | trivial) (by kernel_rfl) (by decide +kernel) (by decide +kernel) (Or.inl ⟨by rfl, ?_⟩) ?_
       rotate_left
       focus
         intro w' hb'
         have d0 := e2.out w' hb'
         go_simp
         with_reducible rfl
       simp only [Act.put, List.setIfInBounds_toArray, List.set_cons_zero, List.set_cons_succ])
    | (refine SeqS.take1 (v := ?_) (by first | assumption | trivial) (by kernel_rfl) (by decide +kernel) (by decide +kernel) (Or.inl ⟨by rfl, ?_⟩) ?_
       rotate_left
       focus
         intro w' hb'
         have d0 := e3.out w' hb'
         go_simp
         with_reducible rfl
       simp only [Act.put, List.setIfInBounds_toArray, List.set_cons_zero, List.set_cons_succ])
    | (refine SeqS.take1 (v := ?_) (by first | assumption | trivial) (by kernel_rfl) (by decide +kernel) (by decide +kernel) (Or.inl ⟨by rfl, ?_⟩) ?_
       rotate_left
       focus
         intro w' hb'
         have d0 := e4.out w' hb'
         go_simp
         with_reducible rfl
       simp only [Act.put, List.setIfInBounds_toArray, List.set_cons_zero, List.set_cons_succ])
    | (refine SeqS.take1 (v := undef) (by first | assumption | trivial) (by kernel_rfl) (by decide +kernel) (by decide +kernel) (Or.inr ⟨by rfl, rfl⟩) ?_
       simp only [Act.put, List.setIfInBounds_toArray, List.set_cons_zero, List.set_cons_succ])
    | (refine SeqS.take2 (v := ?_) (by first | assumption | trivial) (by kernel_rfl) (by decide +kernel) (by decide +kernel) (Or.inl ⟨by rfl, ?_⟩) ?_
       rotate_left
       focus
         intro w' hb'
         go_simp
         with_reducible rfl
       simp only [Act.put, List.setIfInBounds_toArray, List.set_cons_zero, List.set_cons_succ])
    | (refine SeqS.take2 (v := ?_) (by first | assumption | trivial) (by kernel_rfl) (by decide +kernel) (by decide +kernel) (Or.inl ⟨by rfl, ?_⟩) ?_
       rotate_left
       focus
         intro w' hb'
         have d0 := e0.out w' hb'
         go_simp
         with_reducible rfl
       simp only [Act.put, List.setIfInBounds_toArray, List.set_cons_zero, List.set_cons_succ])
    | (refine SeqS.take2 (v := ?_) (by first | assumption | trivial) (by kernel_rfl) (by decide +kernel) (by decide +kernel) (Or.inl ⟨by rfl, ?_⟩) ?_
       rotate_left
       focus
         intro w' hb'
         have d0 := e1.out w' hb'
         go_simp
         with_reducible rfl
       simp only [Act.put, List.setIfInBounds_toArray, List.set_cons_zero, List.set_cons_succ])
    | (refine SeqS.take2 (v := ?_) (by first | assumption | trivial) (by kernel_rfl) (by decide +kernel) (by decide +kernel) (Or.inl ⟨by rfl, ?_⟩) ?_
       rotate_left
       focus
         intro w' hb'
         have d0 := e2.out w' hb'
         go_simp
         with_reducible rfl
       simp only [Act.put, List.setIfInBounds_toArray, List.set_cons_zero, List.set_cons_succ])
    | (refine SeqS.take2 (v := ?_) (by first | assumption | trivial) (by kernel_rfl) (by decide +kernel) (by decide +kernel) (Or.inl ⟨by rfl, ?_⟩) ?_
       rotate_left
       focus
         intro w' hb'
         have d0 := e3.out w' hb'
         go_simp
         with_reducible rfl
       simp only [Act.put, List.setIfInBounds_toArray, List.set_cons_zero, List.set_cons_succ])
    | (refine SeqS.take2 (v := ?_) (by first | assumption | trivial) (by kernel_rfl) (by decide +kernel) (by decide +kernel) (Or.inl ⟨by rfl, ?_⟩) ?_
       rotate_left
       focus
         intro w' hb'
         have d0 := e4.out w' hb'
         go_simp
         with_reducible rfl
       simp only [Act.put, List.setIfInBounds_toArray, List.set_cons_zero, List.set_cons_succ])
    | (refine SeqS.take2 (v := undef) (by first | assumption | trivial) (by kernel_rfl) (by decide +kernel) (by decide +kernel) (Or.inr ⟨by rfl, rfl⟩) ?_
       simp only [Act.put, List.setIfInBounds_toArray, List.set_cons_zero, List.set_cons_succ]))
  refine SeqS.alone (by decide +kernel) (by rfl) (fun K1 hK => ?_)
  refine wp_store_part (cs := rpC _ _ _ _ _ _ _) 26 (.tmp 6) (.tmp 24) rfl rfl rfl hz.drew rowRp (Nat.le_refl 7) (rpC_one _ _ _ _ _ _ _) ?_
  intro w2 hb2 hg2
  rw [overV_all (rpC 0 0 0 0 0 0 0) (rpC K E S Q O U X) rfl] at hb2
  have hG' : G < V.heap.size := hz.lt
  have S2 : Below w.heap.size w w2 := hb.drew.grown hg2 hb.size (fun q hq => by injection hq with hq; have := gH.out; omega)
  refine hK _ _ (SD.grown hg2 (fun e => by injection e with e; omega)) ?_
  clear hK K1
  refine SeqS.done (by decide +kernel) ?_
  have hr2 : IsRow Tryz.prog 26 (rpC K E S Q O U X).length := rowRp
  go_wp2_with fail
  refine bodyPost_ret (results_blk rfl rfl hb2 hr2) rfl ?_
  exact ⟨rfl, S2⟩

theorem rfWith_any (g c : Nat) (t : TypeId) (r : RplV) (w : World) (hk : Blk w g t (arC r.ses r.seq r.quo r.usd r.exp)) :
    Calls Tryz.prog 37 #[.int .i64 r.kind, .int .i64 r.err, .slice (some ⟨g, 0, none⟩) 5 c] w fun q w' => q = .returned (.agg (rpV r).toArray) ∧ Below w.heap.size w w' := rfWith_at g c r w (Five.of_blk hk)
end Go.Proofs.YtbiabjehdmddbaaGreatDoor

/-
  Replies in memory (layer 15): their cells, their numbers as an array, values built of parts, replies compared. No conditions but those that each row names.
-/
import Derived.Test.YtbiabjehdmddbaaDoorRplLine
import Derived.Test.YtbiabjehdmddbaaDoorRowOps
import Derived.Test.YtbiabjehdmddbaaDoorRlName
namespace Go.Proofs.YtbiabjehdmddbaaDoor
open Go.RowKit

def rpC (K E S Q O U X : Int) : List Value := [.int .i64 K, .int .i64 E, .int .u32 S, .int .u32 Q, .int .u32 O, .int .u32 U, .int .u32 X]
def arC (S Q O U X : Int) : List Value := [.int .u32 S, .int .u32 Q, .int .u32 O, .int .u32 U, .int .u32 X]
theorem rpC_len {K E S Q O U X : Int} : (rpC K E S Q O U X).length = 7 := rfl
theorem arC_len {S Q O U X : Int} : (arC S Q O U X).length = 5 := rfl
theorem rpC_one (K E S Q O U X : Int) : ∀ v ∈ rpC K E S Q O U X, v.oneCell' = true := by
  intro v hv
  simp only [rpC, List.mem_cons, List.mem_nil_iff, or_false] at hv
  rcases hv with rfl | rfl | rfl | rfl | rfl | rfl | rfl <;> rfl
theorem arC_one (S Q O U X : Int) : ∀ v ∈ arC S Q O U X, v.oneCell' = true := by
  intro v hv
  simp only [arC, List.mem_cons, List.mem_nil_iff, or_false] at hv
  rcases hv with rfl | rfl | rfl | rfl | rfl <;> rfl
section
variable {w : World} {g : Nat} {T : TypeId} {K E S Q O U X : Int}
theorem rp0 (h : Blk w g T (rpC K E S Q O U X)) : w.cell? ⟨g, 0, none⟩ = some (.int .i64 K) := h.cell 0
theorem rp1 (h : Blk w g T (rpC K E S Q O U X)) : w.cell? ⟨g, 1, none⟩ = some (.int .i64 E) := h.cell 1
theorem rp2 (h : Blk w g T (rpC K E S Q O U X)) : w.cell? ⟨g, 2, none⟩ = some (.int .u32 S) := h.cell 2
theorem rp3 (h : Blk w g T (rpC K E S Q O U X)) : w.cell? ⟨g, 3, none⟩ = some (.int .u32 Q) := h.cell 3
theorem rp4 (h : Blk w g T (rpC K E S Q O U X)) : w.cell? ⟨g, 4, none⟩ = some (.int .u32 O) := h.cell 4
theorem rp5 (h : Blk w g T (rpC K E S Q O U X)) : w.cell? ⟨g, 5, none⟩ = some (.int .u32 U) := h.cell 5
theorem rp6 (h : Blk w g T (rpC K E S Q O U X)) : w.cell? ⟨g, 6, none⟩ = some (.int .u32 X) := h.cell 6
theorem ar0 (h : Blk w g T (arC S Q O U X)) : w.cell? ⟨g, 0, none⟩ = some (.int .u32 S) := h.cell 0
theorem ar1 (h : Blk w g T (arC S Q O U X)) : w.cell? ⟨g, 1, none⟩ = some (.int .u32 Q) := h.cell 1
theorem ar2 (h : Blk w g T (arC S Q O U X)) : w.cell? ⟨g, 2, none⟩ = some (.int .u32 O) := h.cell 2
theorem ar3 (h : Blk w g T (arC S Q O U X)) : w.cell? ⟨g, 3, none⟩ = some (.int .u32 U) := h.cell 3
theorem ar4 (h : Blk w g T (arC S Q O U X)) : w.cell? ⟨g, 4, none⟩ = some (.int .u32 X) := h.cell 4
end

theorem sizeRp : (Tryd.prog.info? 27).map (·.size) = some 7 := by kernel_rfl
theorem rowRp : IsRow Tryd.prog 27 7 := IsRow.struct Tryd.underlying27 sizeRp
theorem zeroRp : Zero Tryd.prog 27 (rpC 0 0 0 0 0 0 0) := by unfold Zero; kernel_rfl
theorem built_rp0 : Tryd.prog.built 27 [] = some (rpC 0 0 0 0 0 0 0).toArray := by kernel_rfl
theorem built_rp2 (K E : Int) : Tryd.prog.built 27 [(0, .int .i64 K), (1, .int .i64 E)] = some (rpC K E 0 0 0 0 0).toArray := by kernel_rfl
theorem built_rp7 (K E S Q O U X : Int) : Tryd.prog.built 27 [(0, .int .i64 K), (1, .int .i64 E), (2, .int .u32 S), (3, .int .u32 Q), (4, .int .u32 O), (5, .int .u32 U), (6, .int .u32 X)] = some (rpC K E S Q O U X).toArray := by kernel_rfl
theorem noGuardRp : Tryd.prog.eqGuardType Tryd.prog.depth 27 = false := by kernel_rfl

theorem sizeAr : (Tryd.prog.info? 45).map (·.size) = some 5 := by kernel_rfl
theorem rowAr : IsRow Tryd.prog 45 5 := IsRow.array Tryd.underlying45 sizeAr
theorem zeroAr : Zero Tryd.prog 45 (arC 0 0 0 0 0) := by unfold Zero; kernel_rfl
theorem built_ar5 (S Q O U X : Int) : Tryd.prog.built 45 [(0, .int .u32 S), (1, .int .u32 Q), (2, .int .u32 O), (3, .int .u32 U), (4, .int .u32 X)] = some (arC S Q O U X).toArray := by kernel_rfl

/-- Whether two replies are the same. -/
def rpSame (r s : RplV) : Bool := r.kind == s.kind && (r.err == s.err && (r.ses == s.ses && (r.seq == s.seq && (r.quo == s.quo && (r.usd == s.usd && r.exp == s.exp)))))
theorem rpSame_iff (r s : RplV) : rpSame r s = true ↔ r = s := by
  obtain ⟨a, b, c, d, e, f, g⟩ := r
  obtain ⟨a', b', c', d', e', f', g'⟩ := s
  simp [rpSame]
theorem rpSame_self (r : RplV) : rpSame r r = true := (rpSame_iff r r).2 rfl
def rpV (r : RplV) : List Value := rpC r.kind r.err r.ses r.seq r.quo r.usd r.exp
theorem rpV_len (r : RplV) : (rpV r).length = 7 := rfl
theorem rpV_one (r : RplV) : ∀ v ∈ rpV r, v.oneCell' = true := rpC_one _ _ _ _ _ _ _

set_option maxRecDepth 100000 in
theorem eq_rp (r s : RplV) (w : World) : (Op.equalIn 10000 27 (.agg (rpV r).toArray) (.agg (rpV s).toArray)).run Tryd.prog w = .ok (rpSame r s) w := by
  obtain ⟨K, E, S, Q, O, U, X⟩ := r
  obtain ⟨K', E', S', Q', O', U', X'⟩ := s
  unfold rpV rpSame
  dsimp only
  rw [run_equalIn_agg w 9999 27 _ _ (by kernel_rfl) (by kernel_rfl)]
  have hu := Tryd.underlying27
  unfold Program.fieldsOf
  rw [hu]
  dsimp only
  rw [eqF_step 9999 _ _ _ _ (.int .i64 K) (.int .i64 K') (K == K') w (by decide) (run_part_plain w (by kernel_rfl) rfl) (run_part_plain w (by kernel_rfl) rfl) (run_equalIn_int w 9998 23 .i64 .i64 K K' Tryd.underlying23)]
  rw [eqF_step 9999 _ _ _ _ (.int .i64 E) (.int .i64 E') (E == E') w (by decide) (run_part_plain w (by kernel_rfl) rfl) (run_part_plain w (by kernel_rfl) rfl) (run_equalIn_int w 9998 24 .i64 .i64 E E' Tryd.underlying24)]
  rw [eqF_step 9999 _ _ _ _ (.int .u32 S) (.int .u32 S') (S == S') w (by decide) (run_part_plain w (by kernel_rfl) rfl) (run_part_plain w (by kernel_rfl) rfl) (run_equalIn_int w 9998 25 .u32 .u32 S S' Tryd.underlying25)]
  rw [eqF_step 9999 _ _ _ _ (.int .u32 Q) (.int .u32 Q') (Q == Q') w (by decide) (run_part_plain w (by kernel_rfl) rfl) (run_part_plain w (by kernel_rfl) rfl) (run_equalIn_int w 9998 25 .u32 .u32 Q Q' Tryd.underlying25)]
  rw [eqF_step 9999 _ _ _ _ (.int .u32 O) (.int .u32 O') (O == O') w (by decide) (run_part_plain w (by kernel_rfl) rfl) (run_part_plain w (by kernel_rfl) rfl) (run_equalIn_int w 9998 25 .u32 .u32 O O' Tryd.underlying25)]
  rw [eqF_step 9999 _ _ _ _ (.int .u32 U) (.int .u32 U') (U == U') w (by decide) (run_part_plain w (by kernel_rfl) rfl) (run_part_plain w (by kernel_rfl) rfl) (run_equalIn_int w 9998 25 .u32 .u32 U U' Tryd.underlying25)]
  rw [eqF_step 9999 _ _ _ _ (.int .u32 X) (.int .u32 X') (X == X') w (by decide) (run_part_plain w (by kernel_rfl) rfl) (run_part_plain w (by kernel_rfl) rfl) (run_equalIn_int w 9998 25 .u32 .u32 X X' Tryd.underlying25)]
  rw [Op.eqFields, Sem.run_pure, bool_if, bool_if, bool_if, bool_if, bool_if, bool_if, bool_if, Bool.and_true]
/-- A string's bytes are those of a text. -/
theorem str_lit {x y : List Int} (hx : okB x) (hy : okB y) : (strOfNums x).toList = (strOfNums y).toList ↔ x = y := by
  have h := str_eq hx hy
  constructor
  · intro e
    rw [e, beq_self_eq_true] at h
    exact of_decide_eq_true h.symm
  · rintro rfl
    rfl
theorem q_list : (strOfNums [63]).toList = [63] := by decide +kernel
theorem okq : okB [63] := by unfold okB; decide
theorem kindQ (K : Int) : (strOfNums (nameL kindsL K)).toList = [63] ↔ ¬ (0 ≤ K ∧ K < 7) := by
  rw [← q_list, str_lit (nameL_ok _ kinds_b K) okq]
  exact kind_q K
theorem errQ (K : Int) : (strOfNums (nameL errsL K)).toList = [63] ↔ ¬ (0 ≤ K ∧ K < 21) := by
  rw [← q_list, str_lit (nameL_ok _ errs_b K) okq]
  exact err_q K
end Go.Proofs.YtbiabjehdmddbaaDoor

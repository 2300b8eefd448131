/-
  Texts of stages that were proved on their own, joined: RzTwo. Each begins with its own words.
-/
import Derived.Test.YtnblknhdchpboaaGreatDoorJRzAll15
import Derived.Test.YtnblknhdchpboaaGreatDoorJRzAll34
import Derived.Test.YtnblknhdchpboaaGreatDoorJRzAll35

/-
  The law RollDoes: the landed roll and the document's, over both disks side by side. New memory is written, and the landed disk's own. Conditions: the disks have at most 3518437208882 steps; the files hold bytes.
-/
namespace Go.Proofs.YtnblknhdchpboaaGreatDoor
open Go.RowKit

section
variable {E : Nat → Prop} {B : Nat} {w0 w : World} {g : Nat} {cs : List Value} {D D' D2 : DkV} {T : Nat} {e : Int}

/-! ### The landed roll -/
theorem t_open {z : Int} (h : Two E B w0 w g cs D D') (hO : D.Ok T) (hT : T < 4398046511103) (hD : D.By) (hz : 0 ≤ z ∧ z < 3) (hG : Glob11 w0) (hB : w0.heap.size ≤ B) (hd : D.down = false) (he : mdD D z = (D2, 0)) :
    Calls Tryz.prog 7 #[.pointer (some ⟨g, 0, none⟩), .int .i64 z] w fun q w' => ∃ ro, q = .returned (.tuple #[.pointer (some ⟨ro, 0, none⟩), .int .i64 0]) ∧ RollAt w' ro g z ∧ w.heap.size ≤ ro ∧ Two (fun b => E b ∨ b = ro) B w0 w' g cs D2 D' ∧ Same E w w' := by
  obtain ⟨L, P, R, h⟩ := h
  have hc := yOpen_any h.k hO hT hD hz (hG.keep h.b hB) hd
  rw [he] at hc
  refine hc.mono ?_
  rintro q w' ⟨p, eq, L', P', k1, k2, _, k4⟩
  obtain ⟨ro, rfl, hr, hl, m1, m2⟩ := k4 rfl
  have hs := k2.m.size
  have hmv : ∀ b, b < w.heap.size → L b = 0 → w'.heap[b]? = w.heap[b]? := fun b hb h0 => k2.at hb h0
  refine ⟨ro, eq, hr, hl, ⟨L', P', R, k1, h.r.same (fun b hb _ => hmv b (h.rl b hb).1 (h.rl b hb).2) (fun _ h => h), fun b hb => ⟨Nat.lt_of_lt_of_le (h.rl b hb).1 hs, (k2.l b (h.rl b hb).1).trans (h.rl b hb).2⟩, k2.low h.lb h.s, fun b hb => ?_, below_new k2 h.b h.s h.lb, Nat.le_trans h.s hs⟩, fun b he => hmv b (h.e b he).1 (h.e b he).2.1⟩
  rcases hb with hb | hb
  · obtain ⟨e1, e2, e3, e4⟩ := h.e b hb
    exact ⟨Nat.lt_of_lt_of_le e1 hs, (k2.l b e1).trans e2, e3, fun hp => (k2.q b hp).elim e4 (fun h => by omega)⟩
  · subst hb
    exact ⟨hr.lt, m1, fun hR => absurd (h.rl _ hR).1 (Nat.not_lt.2 hl), m2⟩

theorem t_put {z : Int} {ro : Nat} {a : Option Addr} {n c : Nat} {bs : List Int} (h : Two E B w0 w g cs D D') (hr : RollAt w ro g z) (hro : E ro) (hO : D.Ok T) (hT : T < 4398046511103) (hG : Glob11 w0) (hB : w0.heap.size ≤ B) (hI : Ints .u8 w a n c bs) (hb : ∀ x ∈ bs, isByte x) (hn : n ≤ 140737488355328) (he : prD D z bs = (D2, e)) :
    Calls Tryz.prog 9 #[.pointer (some ⟨ro, 0, none⟩), .slice a n c] w fun q w' => q = .returned (.int .i64 e) ∧ Two E B w0 w' g cs D2 D' ∧ Same E w w' := by
  obtain ⟨L, P, R, h⟩ := h
  have hc := yAppend_any hr (h.e ro hro).2.1 h.k hO hT (hG.keep h.b hB) hI hb hn
  rw [he] at hc
  exact hc.mono fun q w' ⟨eq, k⟩ => ⟨eq, h.prog k⟩

theorem t_clear {z : Int} {ro : Nat} (h : Two E B w0 w g cs D D') (hr : RollAt w ro g z) (hro : E ro) (hO : D.Ok T) (hT : T < 4398046511103) (he : keD D z 0 = (D2, e)) :
    Calls Tryz.prog 11 #[.pointer (some ⟨ro, 0, none⟩)] w fun q w' => q = .returned (.int .i64 e) ∧ Two E B w0 w' g cs D2 D' ∧ Same E w w' := by
  obtain ⟨L, P, R, h⟩ := h
  have hc := yClear_any hr (h.e ro hro).2.1 h.k hO hT
  rw [he] at hc
  exact hc.mono fun q w' ⟨eq, k⟩ => ⟨eq, h.prog k⟩

theorem t_bodies {z : Int} {ro : Nat} (h : Two E B w0 w g cs D D') (hr : RollAt w ro g z) (hO : D.Ok T) (hD : D.By) (hz : 0 ≤ z ∧ z < 3) (hG : Glob11 w0) (hB : w0.heap.size ≤ B) {ps : List (List Int)} (hp : allF (heldR D z) = ps) :
    Calls Tryz.prog 21 #[.pointer (some ⟨ro, 0, none⟩)] w fun q w' => ∃ v, q = .returned v ∧ RowsO w' w.heap.size 0 v ps ∧ Below w.heap.size w w' := by
  obtain ⟨L, P, R, h⟩ := h
  exact yBodies_any hr h.k hO hD hz (hG.keep h.b hB) hp

theorem t_len {z : Int} {ro : Nat} (h : Two E B w0 w g cs D D') (hr : RollAt w ro g z) (hO : D.Ok T) (hD : D.By) (hz : 0 ≤ z ∧ z < 3) (hG : Glob11 w0) (hB : w0.heap.size ≤ B) {n : Nat} (hn : numF (heldR D z) = n) :
    Calls Tryz.prog 23 #[.pointer (some ⟨ro, 0, none⟩)] w fun q w' => q = .returned (.int .i64 (n : Int)) ∧ Below w.heap.size w w' := by
  obtain ⟨L, P, R, h⟩ := h
  exact yLen_any hr h.k hO hD hz (hG.keep h.b hB) hn

theorem t_size {z : Int} {ro : Nat} (h : Two E B w0 w g cs D D') (hr : RollAt w ro g z) (hO : D.Ok T) (hz : 0 ≤ z ∧ z < 3) {n : Nat} (hn : (heldR D z).length = n) :
    Calls Tryz.prog 24 #[.pointer (some ⟨ro, 0, none⟩)] w fun q w' => q = .returned (.int .i64 (n : Int)) ∧ Below w.heap.size w w' := by
  obtain ⟨L, P, R, h⟩ := h
  exact ySize_any hr h.k hO hz hn

theorem t_dsize {z : Int} (h : Two E B w0 w g cs D D') (hO : D.Ok T) (hz : 0 ≤ z ∧ z < 3) {n : Nat} (hn : (heldR D z).length = n) :
    Calls Tryz.prog 25 #[.pointer (some ⟨g, 0, none⟩), .int .i64 z] w fun q w' => q = .returned (.int .i64 (n : Int)) ∧ Below w.heap.size w w' := by
  obtain ⟨L, P, R, h⟩ := h
  exact y_size h.k hO hz hn

/-! ### The document's roll, of file 0 -/
theorem q_open (h : Two E B w0 w g cs D D') (hO : D'.Ok T) (hT : T ≤ 3518437208882) (hD : D'.By) (hd : D'.down = false) (he : mdD D' 0 = (D2, e)) :
    Calls Tryz.prog 8 #[.agg cs.toArray, .int .i64 0] w fun q w' => ∃ cs', q = .returned (.tuple #[.agg cs'.toArray, .int .i64 e]) ∧ Two E B w0 w' g cs' D D2 ∧ Below w.heap.size w w' := by
  obtain ⟨L, P, R, h⟩ := h
  have hc := r20Open_0 h.r (fun b hb => (h.rl b hb).1) hO hT hD hd
  rw [he] at hc
  exact hc.mono fun q w' ⟨cs', eq, k, hb⟩ => ⟨cs', eq, h.doc k hb, hb⟩

theorem q_put {a : Option Addr} {n c : Nat} {bs : List Int} (h : Two E B w0 w g cs D D') (hO : D'.Ok T) (hT : T ≤ 3518437208882) (hI : Ints .u8 w a n c bs) (hb : ∀ x ∈ bs, isByte x) (hn : n ≤ 140737488355328) (he : prD D' 0 bs = (D2, e)) :
    Calls Tryz.prog 10 #[.agg cs.toArray, .int .i64 0, .slice a n c] w fun q w' => ∃ cs', q = .returned (.tuple #[.agg cs'.toArray, .int .i64 e]) ∧ Two E B w0 w' g cs' D D2 ∧ Below w.heap.size w w' := by
  obtain ⟨L, P, R, h⟩ := h
  have hc := r20Append_any 0 h.r (fun b hb => (h.rl b hb).1) hO hT hI hb hn
  rw [he] at hc
  exact hc.mono fun q w' ⟨cs', eq, k, hb⟩ => ⟨cs', eq, h.doc k hb, hb⟩

theorem q_clear (h : Two E B w0 w g cs D D') (hO : D'.Ok T) (hT : T ≤ 3518437208882) (he : keD D' 0 0 = (D2, e)) :
    Calls Tryz.prog 12 #[.agg cs.toArray, .int .i64 0] w fun q w' => ∃ cs', q = .returned (.tuple #[.agg cs'.toArray, .int .i64 e]) ∧ Two E B w0 w' g cs' D D2 ∧ Below w.heap.size w w' := by
  obtain ⟨L, P, R, h⟩ := h
  have hc := r20Clear_any 0 h.r (fun b hb => (h.rl b hb).1) hO hT
  rw [he] at hc
  exact hc.mono fun q w' ⟨cs', eq, k, hb⟩ => ⟨cs', eq, h.doc k hb, hb⟩

theorem q_bodies (h : Two E B w0 w g cs D D') (hO : D'.Ok T) (hT : T ≤ 4398046511104) (hD : D'.By) {ps : List (List Int)} (hp : allF (heldR D' 0) = ps) :
    Calls Tryz.prog 22 #[.agg cs.toArray, .int .i64 0] w fun q w' => ∃ v, q = .returned v ∧ RowsO w' w.heap.size 0 v ps ∧ Below w.heap.size w w' := by
  obtain ⟨L, P, R, h⟩ := h
  exact r20Bodies_0 h.r hO hT hD hp

end
end Go.Proofs.YtnblknhdchpboaaGreatDoor

/-
  The landed writer's calls where the writer is nil, or no call made it: they write nothing, and answer ErrNil. New memory alone is written. Conditions: at most 2^42 ids.
-/
import Derived.Test.YtlbhpicebefpnaaWpWith
import Derived.Test.YtlbhpicebefpnaaWrNil
namespace Go.Proofs.Ytlbhpicebefpnaa
open Go.RowKit

/-- The cells of a writer that no call made. -/
def wzC : List Value := [.bool false, .int .i64 0, .slice none 0 0, .int .i64 0]
/-- A pointer to no writer, or to one that no call made. -/
def Dead (w : World) (p : Option Addr) : Prop := p = none ∨ ∃ g, p = some ⟨g, 0, none⟩ ∧ Blk w g 58 wzC
theorem Dead.keep {w w' : World} {p : Option Addr} (h : Dead w p) (hb : Below w.heap.size w w') : Dead w' p := by
  rcases h with h | ⟨g, hq, hg⟩
  · exact .inl h
  · exact .inr ⟨g, hq, hg.keep hb hg.lt⟩
theorem wzCells {w : World} {g : Nat} (h : Blk w g 58 wzC) :
    w.cell? ⟨g, 0, none⟩ = some (.bool false) ∧ w.cell? ⟨g, 1, none⟩ = some (.int .i64 0) ∧ w.cell? ⟨g, 2, none⟩ = some (.slice none 0 0) ∧ w.cell? ⟨g, 3, none⟩ = some (.int .i64 0) := ⟨h.cell 0, h.cell 1, h.cell 2, h.cell 3⟩

set_option maxRecDepth 100000 in
set_option maxHeartbeats 1000000 in
theorem dErr_any {w : World} {p : Option Addr} (h : Dead w p) :
    Calls Try.prog 14 #[.pointer p] w fun q w' => q = .returned (.int .i64 7) ∧ w = w' := by
  rcases h with rfl | ⟨g, rfl, hb⟩
  · go_enter Try.func14, Try.ntmps14
    go_wp2
    go_ret
    exact ⟨rfl, rfl⟩
  · obtain ⟨c0, c1, c2, c3⟩ := wzCells hb
    go_enter Try.func14, Try.ntmps14
    go_wp2
    go_ret
    exact ⟨rfl, rfl⟩

set_option maxRecDepth 100000 in
set_option maxHeartbeats 1000000 in
theorem dLen_any {w : World} {p : Option Addr} (h : Dead w p) :
    Calls Try.prog 13 #[.pointer p] w fun q w' => q = .returned (.int .i64 0) ∧ w = w' := by
  rcases h with rfl | ⟨g, rfl, hb⟩
  · go_enter Try.func13, Try.ntmps13
    go_wp2
    go_ret
    exact ⟨rfl, rfl⟩
  · obtain ⟨c0, c1, c2, c3⟩ := wzCells hb
    go_enter Try.func13, Try.ntmps13
    go_wp2
    go_ret
    exact ⟨rfl, rfl⟩

set_option maxRecDepth 100000 in
set_option maxHeartbeats 1000000 in
theorem dDone_any {w : World} {p : Option Addr} (h : Dead w p) :
    Calls Try.prog 11 #[.pointer p] w fun q w' => q = .returned (.tuple #[.slice none 0 0, .int .i64 7]) ∧ w = w' := by
  have hE := dErr_any h
  go_enter Try.func11, Try.ntmps11
  go_wp2_with fail
  refine hE.mono ?_
  rintro q w1 ⟨rfl, rfl⟩
  go_wp2
  go_ret2
  exact ⟨rfl, rfl⟩

set_option maxRecDepth 100000 in
set_option maxHeartbeats 1000000 in
theorem dWrite_any {w : World} {p : Option Addr} (h : Dead w p) (v : Int) (a : Option Addr) (m k : Nat) :
    Calls Try.prog 34 #[.pointer p, .int .i64 v, .slice a m k] w fun q w' => q = .returned (.tuple #[]) ∧ w = w' := by
  have hE := dErr_any h
  go_enter Try.func34, Try.ntmps34
  go_wp2_with fail
  refine hE.mono ?_
  rintro q w1 ⟨rfl, rfl⟩
  go_wp2
  first
    | go_end0
    | refine bodyPost_ret (results_none rfl _ _ _) rfl ?_
  first
    | trivial
    | exact ⟨rfl, rfl⟩

theorem dWrite_in {w W : World} {p : Option Addr} (h : Dead w p) (hB : Below w.heap.size w W) (v : Int) (a : Option Addr) (m k : Nat) :
    Calls Try.prog 34 #[.pointer p, .int .i64 v, .slice a m k] W fun q w' => q = .returned (.tuple #[]) ∧ Below w.heap.size w w' :=
  (dWrite_any (h.keep hB) v a m k).mono fun _ _ k => ⟨k.1, k.2 ▸ hB⟩
theorem dNum_any {w : World} {p : Option Addr} (h : Dead w p) (N A : Int) (hN : 0 ≤ N) : Calls Try.prog 15 #[.pointer p, .int .u64 N, .int .i64 A] w fun q w' => q = .returned (.tuple #[]) ∧ Below w.heap.size w w' := by
  rcases num_cases N A hN with ⟨_, K, rfl, h1, h8, hz⟩ | ⟨_, hA⟩
  · exact num_fits_with N K h1 h8 hz fun W _ hB => dWrite_in h (hB.trans ((below1 W _).mono hB.size)) _ _ _ _
  · exact num_arg_with N A hA (dWrite_in h (Below.refl _ _) _ _ _ _)
theorem dBytes_any {w : World} {p : Option Addr} (h : Dead w p) (b : Option Addr) (m d : Nat) : Calls Try.prog 17 #[.pointer p, .slice b m d] w fun q w' => q = .returned (.tuple #[]) ∧ Below w.heap.size w w' :=
  bytes_with b m d (dWrite_in h (below1 w _) _ _ _ _)
theorem dId_any {w : World} {p : Option Addr} (h : Dead w p) (L : List Value) : Calls Try.prog 16 #[.pointer p, .agg L.toArray] w fun q w' => q = .returned (.tuple #[]) ∧ Below w.heap.size w w' :=
  id_with L (dWrite_in h (below2 w _ _) _ _ _ _)
theorem dFail_any {w : World} {p : Option Addr} (h : Dead w p) (x : Int) : Calls Try.prog 27 #[.pointer p, .int .i64 x] w fun q w' => q = .returned (.tuple #[]) ∧ Below w.heap.size w w' :=
  fail_with x (dWrite_in h (Below.refl _ _) _ _ _ _)
theorem dIds_any {w : World} {p : Option Addr} (h : Dead w p) (b : Option Addr) (m d : Nat) (ys : List Int) (hI : IdsAt w b m d ys) (hm : m ≤ 4398046511104) : Calls Try.prog 18 #[.pointer p, .slice b m d] w fun q w' => q = .returned (.tuple #[]) ∧ Below w.heap.size w w' :=
  ids_with b m d (hI.2.2.imp id fun ⟨lb, lo, h, _⟩ => ⟨lb, lo, h⟩) hI.2.1 hm fun _ _ hB => dWrite_in h hB _ _ _ _
end Go.Proofs.Ytlbhpicebefpnaa

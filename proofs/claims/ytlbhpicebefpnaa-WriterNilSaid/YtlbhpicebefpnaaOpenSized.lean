/-
  What the rows' own reach (each slice that came in takes at most 2^47 bytes) says of the calls of layer 10's laws. No Go function is spoken of.
-/
import Derived.Test.YtlbhpicebefpnaaCallsIn
import Derived.SizedLaws
namespace Go.Proofs.Ytlbhpicebefpnaa
open Go.RowKit Go.Deep Go.ChangeShapes Go.WideShapes

section
variable {H : Type} {enc : TypeId × Value → H} {P : Program} {w : World} {base : Nat} {spare : Nat → Bool} {held : Bool} {fuel : Nat} {t : TypeId} {x : DataW H × List MemPlace}

theorem slice_weight {e : TypeId} {a : Option Addr} {n c R : Nat} (ht : P.underlying t = some (.slice e)) (h : DataW.trod enc P w base spare held fuel t [.slice a n c] = some x) (hR : ∀ k ∈ x.1.weights P t, k ≤ R) : n * P.bytesOf e ≤ R := by
  rcases open_slice ht h with ⟨h0, _⟩ | ⟨a', len, cap, m, n', D, Pl, hcs, hb, hl, hm, hmm, hx0, hx⟩
  · cases h0
    omega
  · cases hcs
    have h1 := hR ((((List.range n).map D).length + _) * P.bytesOf e) (by rw [hx0]; simp only [DataW.weights, ht]; exact List.mem_cons_self ..)
    rw [List.length_map, List.length_range, Nat.add_mul] at h1
    omega
theorem op_weight {f0 f1 f2 f3 f4 f5 : Field} {o : OpV} {R : Nat} (T : OpType P t f0 f1 f2 f3 f4 f5) (hb : ∀ e, P.underlying f5.type = some (.slice e) → P.bytesOf e = 32) (ho : o.id.length = 32) (h : DataW.trod enc P w base spare held fuel t o.cells = some x) (hR : ∀ k ∈ x.1.weights P t, k ≤ R) : o.ln * 32 ≤ R := by
  obtain ⟨y0, y1, y2, y3, y4, y5, n, hx, _, _, _, _, _, _, h5⟩ := trod_struct6 T.ht h
  rw [T.o5, T.c5] at h5
  obtain ⟨e, _, he, _⟩ := T.e5
  have hc : (o.cells.drop 36).take 1 = [.slice o.la o.ln o.lc] := by
    have h1 := OpV.at36 (o := o) ho
    have hl := OpV.len ho
    rw [List.drop_eq_getElem_cons (by omega), List.take_succ_cons, List.take_zero]
    rw [List.getElem?_eq_getElem (by omega)] at h1
    injection h1 with h1
    rw [h1]
  rw [hc] at h5
  have h6 := slice_weight (R := R) he h5 (fun k hk => hR k (by
    rw [hx]
    simp only [DataW.weights, T.ht]
    exact DataW.weights_mem_each (j := 5) rfl rfl k hk))
  rw [hb e he] at h6
  exact h6
end

set_option maxRecDepth 100000 in
theorem opTypeB : ∃ f0 f1 f2 f3 f4 f5, OpType Try.prog 37 f0 f1 f2 f3 f4 f5 ∧ ∀ e, Try.prog.underlying f5.type = some (.slice e) → Try.prog.bytesOf e = 32 :=
  ⟨_, _, _, _, _, _, ⟨Try.underlying37, by kernel_rfl, rfl, rfl, rfl, rfl, rfl, rfl, Try.underlying3, Try.underlying3, Try.underlying32, by kernel_rfl, by kernel_rfl, by kernel_rfl, by kernel_rfl, by kernel_rfl, by kernel_rfl,
    ⟨_, Try.underlying27, Try.underlying5, by kernel_rfl⟩, ⟨_, Try.underlying34, Try.underlying5, by kernel_rfl⟩, ⟨_, _, Try.underlying35, Try.underlying34, Try.underlying5, by kernel_rfl, by kernel_rfl⟩⟩,
   fun e he => by
    have h1 : (Try.prog.underlying 35) = some (.slice e) := he
    rw [Try.underlying35] at h1
    injection h1 with h1
    injection h1 with h1
    rw [← h1]
    show Try.prog.bytesOf 34 = 32
    kernel_rfl⟩
theorem call_sized {H : Type} {enc : TypeId × Value → H} {W : World} {base : Nat} {spare : Nat → Bool} {held : Bool} {o : OpV} {d : DataW H} {p : List MemPlace} {ts : List TypeId} {ds : List (DataW H)} {j : Nat} (ho : o.Ok W)
    (h : ∃ fuel, DataW.trod enc Try.prog W base spare held fuel 37 (Value.agg o.cells.toArray).cells.toList = some (d, p)) (hsz : (DataW.weightsEach Try.prog ts ds).all (· ≤ reachBytes) = true) (ht : ts[j]? = some 37) (hd : ds[j]? = some d) : o.ln ≤ 4398046511104 := by
  obtain ⟨fuel, hf⟩ := h
  obtain ⟨_, _, _, _, _, _, T, hb⟩ := opTypeB
  have hf' : DataW.trod enc Try.prog W base spare held fuel 37 o.cells = some (d, p) := hf
  have h1 := op_weight (R := reachBytes) T hb ho.il hf' (fun k hk => by
    have := List.all_eq_true.1 hsz k (DataW.weights_mem_each ht hd k hk)
    simpa using this)
  have h2 := reachBytes_lt
  have h3 : (2 : Nat) ^ 47 = 140737488355328 := by decide
  omega
end Go.Proofs.Ytlbhpicebefpnaa

/-
  Texts of stages that were proved on their own, joined: RpChunk. Each begins with its own words.
-/
import Derived.RangeFuncNested
import Derived.RangeFuncBound
import Derived.RangeFuncCalls
import Derived.RangeFuncLeaves
import Derived.Shelf.Abstract
import Derived.WalkKit
import Derived.OwnWalkIn
import Derived.TacticsInMore
import Derived.LoopNIn
import Derived.LoopIn
import Derived.Test.YtaaflnmdaplfkaaJKcAll13

/-
  slices.Chunk of bytes in pieces of 32, as the program's Ids uses it: for every loop's body that leaves its two captured variables alone. Conditions: the bytes are so many times 32, at most 40000 times.
-/
namespace Go.Proofs.Ytaaflnmdaplfkaa
open Go.RowKit Go.Shelf
attribute [local go_sem] Oper.semAt_some

theorem run_cut3 {P : Program} (ty e : TypeId) (hu : P.underlying ty = some (.slice e)) (hs : (P.info? e).map (·.size) = some 1) (w : World) (b off m c : Nat) (k k' k'' : IntKind) (l h : Nat) (hlh : l < h) (hc : h ≤ c) :
    (Instr.sliceAt ty (.slice (some ⟨b, off, none⟩) m c) (some (.int k l)) (some (.int k' h)) (some (.int k'' h))).run P w = .ok (.slice (some ⟨b, off + l, none⟩) (h - l) (h - l)) w := by
  have he : P.elem ty = e := by simp [Program.elem, hu]
  rw [run_sliceAt_slice w ty _ _ _ _ (by rw [he]; exact hu), run_slice_lhm w ty (some ⟨b, off, none⟩) m c (by rw [he]; exact hu) k k' k'' l h h (by omega) (by omega) (by omega) (by omega)]
  cases hq : P.info? e with
  | none => simp [hq] at hs
  | some i =>
    have h1 : i.size = 1 := by simpa [hq] using hs
    have hz : (sizeOf (P.elem ty)).run P w = .ok 1 w := by rw [he]; simp [sizeOf, typeInfo, hq, h1]
    rw [hz]
    have hadd : (⟨b, off, none⟩ : Addr).add l = ⟨b, off + l, none⟩ := by unfold Addr.add; split <;> simp_all
    simp only [Result.andThen, sliced, Int.toNat_natCast, Nat.mul_one]
    rw [if_neg (by omega)]
    simp [hadd]

set_option maxRecDepth 100000 in
set_option maxHeartbeats 400000 in
theorem chunk_any (a : Option Addr) (m c : Nat) (w : World) :
    Calls Try.prog 71 #[.slice a m c, .int .i64 32] w fun e w' => e = .returned (.func (.func 74) #[] #[.pointer (some ⟨w.heap.size, 0, none⟩), .pointer (some ⟨w.heap.size + 1, 0, none⟩)]) ∧ w' = (w.alloc (.cells #[.slice a m c] 26)).alloc (.cells #[.int .i64 32] 3) := by
  go_enter Try.func71, Try.ntmps71
  go_wp2
  go_ret
  exact ⟨rfl, rfl⟩

/-- The numbers of pieces. -/
abbrev Pc (K : Nat) := { x : Nat // x < K }
/-- A piece. -/
def encC (b off : Nat) {K : Nat} (x : Pc K) : Array Value := #[.slice (some ⟨b, off + 32 * x.1, none⟩) 32 32]
theorem nums_snoc {K : Nat} (l : List (Pc K)) (x : Pc K) : (l ++ [x]).map (·.1) = l.map (·.1) ++ [x.1] := by simp
/-- Two blocks stay as they are. -/
def Two (B1 B2 : Nat) (W W' : World) : Prop := W'.heap[B1]? = W.heap[B1]? ∧ W'.heap[B2]? = W.heap[B2]?
theorem Two.t {B1 B2 : Nat} {A B C : World} (h : Two B1 B2 A B) (k : Two B1 B2 B C) : Two B1 B2 A C := ⟨k.1.trans h.1, k.2.trans h.2⟩
theorem two_b {B1 B2 : Nat} {w : World} (h1 : B1 < w.heap.size) (h2 : B2 < w.heap.size) (W : World) (l : Nat) (o o' : Obj) (hl : w.heap.size ≤ l) (_ : W.heap[l]? = some o) (_ : o.isCells = false) (_ : o.isWalk = false) : Two B1 B2 W (W.putObj l o') :=
  ⟨World.putObj_heap_other (by omega), World.putObj_heap_other (by omega)⟩
theorem cell_of_two {W W' : World} {B : Nat} (h : W'.heap[B]? = W.heap[B]?) (v : Value) (hv : W.cell? ⟨B, 0, none⟩ = some v) : W'.cell? ⟨B, 0, none⟩ = some v := by
  rw [← hv]
  simp only [World.cell?, h]

set_option maxRecDepth 100000 in
set_option maxHeartbeats 1000000 in
theorem chunk_stops (n : Nat) (hn : 1 ≤ n) (B1 B2 b off K c : Nat) (w : World) (h1 : B1 < w.heap.size) (h2 : B2 < w.heap.size) (c1 : w.cell? ⟨B1, 0, none⟩ = some (.slice (some ⟨b, off, none⟩) (32 * K) c)) (c2 : w.cell? ⟨B2, 0, none⟩ = some (.int .i64 32)) (hc : 32 * K ≤ c) (hK : K ≤ 40000) :
    SeqStopsK Fence.wide n Try.prog 74 #[.pointer (some ⟨B1, 0, none⟩), .pointer (some ⟨B2, 0, none⟩)] (fun x : Pc K => encC b off x) (Two B1 B2) (fun ys => ys.map (·.1) = List.range K) (fun _ => True) K w := fun l J Jx W hW hJa _ hY h0 => by
  have d1 := (hW.cell (p := ⟨B1, 0, none⟩) h1).trans c1
  have d2 := (hW.cell (p := ⟨B2, 0, none⟩) h2).trans c2
  obtain ⟨M, hM⟩ : ∃ M, 32 * K = M := ⟨_, rfl⟩
  rw [hM] at d1 hc
  have hMH := Lib.hid hM
  have hKH := Lib.hid hK
  clear c1 c2 h1 h2 hM hK
  refine callsIn_of_wp Try.func74 rfl trivial ?_ rfl
  simp only [Try.ntmps74, List.size_toArray, List.length_cons, List.length_nil, Nat.reduceAdd, Nat.reduceSub, Array.replicate_succ, Array.replicate_zero, List.push_toArray, List.append_toArray, List.nil_append, List.cons_append]
  gi_wp2
  gi_loopw [4] (fun i wm => ∃ (k : Nat) (pre : List (Pc K)), k ≤ K ∧ i = .int .i64 ((32 * k : Nat) : Int) ∧ pre.map (·.1) = List.range k ∧ J pre wm ∧ Two B1 B2 W wm) (fun i _ => M - (intOf i).toNat)
  case atStart => exact ⟨0, [], Nat.zero_le _, rfl, rfl, h0, rfl, rfl⟩
  case round =>
    obtain ⟨k, pre, hk, rfl, hpre, hJ, hT⟩ := hrel
    have hpl : pre.length = k := by rw [← List.length_map (f := fun x : Pc K => x.1), hpre, List.length_range]
    have e1 := cell_of_two hT.1 _ d1
    have e2 := cell_of_two hT.2 _ d2
    obtain ⟨q, hq⟩ : ∃ q, 32 * k = q := ⟨_, rfl⟩
    by_cases hlt : k < K
    · have hqM : q + 32 ≤ M := by have := hMH.out; omega
      have hM9 : M ≤ 2000000 := by have := hMH.out; have := hKH.out; omega
      have s1 := fun wx => run_cut (P := Try.prog) 26 5 Try.underlying26 sizeU8s wx (some ⟨b, off, none⟩) M c .i64 q (by omega)
      have s3 := fun wx => run_cut3 (P := Try.prog) 26 5 Try.underlying26 sizeU8s wx b off M c .i64 .i64 .i64 q (q + 32) (by omega) (by omega)
      rw [show q + 32 - q = 32 by omega] at s3
      rw [show ((q + 32 : Nat) : Int) = (q : Int) + 32 by omega] at s3
      have hqi : (q : Int) < (M : Int) := by omega
      have hq32 : (32 : Int) ≤ ((M - q : Nat) : Int) := by omega
      have hsum : (q : Int) + 32 ≤ 2000000 := by omega
      rw [hq]
      gi_wp2
      refine wpIn_wide.2 ?_
      go_quiet (fail)
      obtain ⟨x, hx⟩ : ∃ x : Pc K, x.1 = k := ⟨⟨k, hlt⟩, rfl⟩
      obtain ⟨fn, tmps, assign, body, hyl, hR⟩ := hY pre x (wr.drewN nq) (hJa _ _ _ none hJ (grown_drewN (grown_refl _ _) _) (by intro r hr; cases hr)) (by rw [hpl]; exact hlt)
      dsimp only [encC] at hyl
      rw [hx, hq] at hyl
      have hxH := Lib.hid hx
      clear hx
      have f1 : (wr.drewN nq).cell? ⟨B1, 0, none⟩ = some (.slice (some ⟨b, off, none⟩) M c) := e1
      have f2 : (wr.drewN nq).cell? ⟨B2, 0, none⟩ = some (.int .i64 32) := e2
      have g1 : Two B1 B2 wr (wr.drewN nq) := ⟨rfl, rfl⟩
      have hTH := Lib.hid (hT.t g1)
      obtain ⟨V, hV⟩ : ∃ V, wr.drewN nq = V := ⟨_, rfl⟩
      rw [hV] at hyl hR f1 f2 hTH
      rw [hV]
      have hltH := Lib.hid hlt
      have hqH := Lib.hid hq
      have hkq := Lib.hid hqM
      have hM9H := Lib.hid hM9
      have hpre := Lib.hid hpre
      have hpl := Lib.hid hpl
      clear hV g1 e1 e2 hT hJ hlt hqM hM9 hq hk s1 hq32 d1 d2
      gi_wp2
      refine hR.mono ?_
      rintro e W3 (⟨rfl, hJ3, hk3⟩ | ⟨rfl, hJx3⟩)
      · have hT3 := hTH.out.t hk3
        have h2 := cell_of_two hk3.2 _ f2
        gi_wp2
        go_roundw
        case rel => exact ⟨k + 1, pre ++ [x], by have := hltH.out; omega, by congr 1; have := hqH.out; omega, by rw [nums_snoc, hpre.out, hxH.out, List.range_succ], hJ3, hT3⟩
        case measure => simp only [intOf]; have := hkq.out; omega
      · gi_wp2
        refine bodyPost_ret (results_none rfl _ _ _) rfl ?_
        exact ⟨⟨_, rfl⟩, .inr ⟨_, trivial, hJx3⟩⟩
    · obtain rfl : k = K := by omega
      have hM2 : M = q := by rw [← hq]; exact hMH.out.symm
      rw [hq]
      subst hM2
      clear hq
      gi_wp2
      go_end0
      exact ⟨⟨_, rfl⟩, .inl ⟨_, hpre, hJ⟩⟩

set_option maxRecDepth 100000 in
set_option maxHeartbeats 1000000 in
theorem chunk_stops_none (n : Nat) (B1 B2 b off c : Nat) (A : Option Addr) (w : World) (h1 : B1 < w.heap.size) (c1 : w.cell? ⟨B1, 0, none⟩ = some (.slice A 0 c)) :
    SeqStopsK Fence.wide n Try.prog 74 #[.pointer (some ⟨B1, 0, none⟩), .pointer (some ⟨B2, 0, none⟩)] (fun x : Pc 0 => encC b off x) (Two B1 B2) (fun ys => ys.map (·.1) = List.range 0) (fun _ => True) 0 w := fun l J Jx W hW hJa _ hY h0 => by
  have d1 := (hW.cell (p := ⟨B1, 0, none⟩) h1).trans c1
  refine callsIn_of_wp Try.func74 rfl trivial ?_ rfl
  simp only [Try.ntmps74, List.size_toArray, List.length_cons, List.length_nil, Nat.reduceAdd, Nat.reduceSub, Array.replicate_succ, Array.replicate_zero, List.push_toArray, List.append_toArray, List.nil_append, List.cons_append]
  gi_wp2
  gi_loopw [4] (fun i wm => i = .int .i64 0 ∧ W = wm) (fun _ _ => 0)
  case atStart => exact ⟨rfl, rfl⟩
  case round =>
    obtain ⟨rfl, rfl⟩ := hrel
    gi_wp2
    go_end0
    exact ⟨⟨_, rfl⟩, .inl ⟨[], rfl, h0⟩⟩

/-- Both. -/
theorem chunk_stops_any (n : Nat) (hn : 1 ≤ n) (B1 B2 b off K c : Nat) (A : Option Addr) (w : World) (h1 : B1 < w.heap.size) (h2 : B2 < w.heap.size) (c1 : w.cell? ⟨B1, 0, none⟩ = some (.slice A (32 * K) c)) (c2 : w.cell? ⟨B2, 0, none⟩ = some (.int .i64 32)) (hc : 32 * K ≤ c) (hK : K ≤ 40000) (hA : 0 < K → A = some ⟨b, off, none⟩) :
    SeqStopsK Fence.wide n Try.prog 74 #[.pointer (some ⟨B1, 0, none⟩), .pointer (some ⟨B2, 0, none⟩)] (fun x : Pc K => encC b off x) (Two B1 B2) (fun ys => ys.map (·.1) = List.range K) (fun _ => True) K w := by
  rcases Nat.eq_zero_or_pos K with h0 | h0
  · subst h0
    exact chunk_stops_none n B1 B2 b off c A w h1 c1
  · rw [hA h0] at c1
    exact chunk_stops n hn B1 B2 b off K c w h1 h2 c1 c2 hc hK
end Go.Proofs.Ytaaflnmdaplfkaa

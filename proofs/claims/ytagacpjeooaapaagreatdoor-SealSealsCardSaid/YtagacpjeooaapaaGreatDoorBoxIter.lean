/-
  The two iterators of package box: 'inverses' (each element but 0, and its inverse) and the function that All hands back (each byte and its substitute; nothing, of a box that is nil or that no call made), for every loop's body.
-/
import Derived.RangeFuncNested
import Derived.RangeFuncBound
import Derived.RangeFuncCalls
import Derived.RangeFuncLeaves
import Derived.Shelf.Abstract
import Derived.WalkKit
import Derived.OwnWalkIn
import Derived.TacticsInMore
import Derived.LoopNIn
import Derived.LoopIn
import Derived.ChangeKeysEq
import Derived.Test.YtagacpjeooaapaaGreatDoorBoxMem
namespace Go.Proofs.YtagacpjeooaapaaGreatDoor
open Go.RowKit Go.Shelf
attribute [local go_sem] Oper.semAt_some

/-- Pairs of bytes. -/
abbrev Pr := { p : Nat × Nat // p.1 < 256 ∧ p.2 < 256 }
def encP (p : Pr) : Array Value := #[.int .u8 (p.1.1 : Int), .int .u8 (p.1.2 : Int)]
def vals (l : List Pr) : List (Nat × Nat) := l.map (·.1)
theorem vals_snoc (l : List Pr) (p : Pr) : vals (l ++ [p]) = vals l ++ [p.1] := by simp [vals]
theorem vals_len (l : List Pr) : (vals l).length = l.length := by simp [vals]
theorem ivs_succ (k : Nat) : ivs (k + 1) = ivs k ++ [(pw 3 k, pw 246 k)] := by simp [ivs, List.range_succ]
theorem ivs_len (k : Nat) : (ivs k).length = k := by simp [ivs]
theorem sbs_succ (f : Nat → Nat) (k : Nat) : sbs f (k + 1) = sbs f k ++ [(k, f k)] := by simp [sbs, List.range_succ]
theorem sbs_len (f : Nat → Nat) (k : Nat) : (sbs f k).length = k := by simp [sbs]
theorem inv_three : inv 3 = 246 := (inv_uniq 3 246 (by decide) (by decide) (by decide +kernel)).symm

set_option maxRecDepth 100000 in
set_option maxHeartbeats 1000000 in
/-- inverses, for every loop's body that keeps what lay below n₀. -/
theorem inverses_stops (n n₀ : Nat) (hn : 1 ≤ n) (w : World) :
    SeqStopsK Fence.wide n Tryz.prog 89 #[] encP (Below n₀) (fun ys => vals ys = ivs 255) (fun _ => True) 255 w := fun l J Jx W _ _ _ hY h0 => by
  refine callsIn_of_wp Tryz.func89 rfl trivial ?_ rfl
  simp only [Tryz.ntmps89, List.size_toArray, List.length_cons, List.length_nil, Nat.reduceAdd, Nat.reduceSub, Array.replicate_succ, Array.replicate_zero, List.push_toArray, List.append_toArray, List.nil_append, List.cons_append]
  refine wpIn_wide.2 ?_
  go_wp2_with fail
  refine (fInverse_is _ 246 3 246 _ rfl (by decide) inv_three rfl).mono ?_; rintro e w' ⟨rfl, rfl⟩
  go_wp2_with fail
  refine (fOrder_is _ 255 3 255 _ rfl (by decide) (by decide) ord_three rfl).mono ?_; rintro e w' ⟨rfl, rfl⟩
  go_wp2_with fail
  refine (wpIn_wide (n := n)).1 ?_
  gi_loopw [2, 3, 7] (fun x y i wm => ∃ (k : Nat) (pre : List Pr), k ≤ 255 ∧ i = .int .i64 k ∧ x = .int .u8 (pw 3 k : Int) ∧ y = .int .u8 (pw 246 k : Int) ∧ vals pre = ivs k ∧ J pre wm) (fun _ _ i _ => 255 - (intOf i).toNat)
  case atStart => exact ⟨0, [], by omega, rfl, rfl, rfl, rfl, h0⟩
  case round =>
    obtain ⟨k, pre, hk, rfl, rfl, rfl, hpre, hJ⟩ := hrel
    have hlen : pre.length = k := by rw [← vals_len, hpre, ivs_len]
    by_cases hlt : k < 255
    · have p3 := pw_256 (a := 3) k
      have p6 := pw_256 (a := 246) k
      obtain ⟨x, hx⟩ : ∃ x, pw 3 k = x := ⟨_, rfl⟩
      obtain ⟨y, hy⟩ : ∃ y, pw 246 k = y := ⟨_, rfl⟩
      obtain ⟨fn, tmps, assign, body, hyl, hR⟩ := hY pre ⟨(pw 3 k, pw 246 k), p3, p6⟩ wr hJ (by omega)
      have h3 : tm x 3 = pw 3 (k + 1) := by rw [← hx]; rfl
      have h6 : tm y 246 = pw 246 (k + 1) := by rw [← hy]; rfl
      have hi := ivs_succ k
      dsimp only [encP] at hyl
      rw [hx, hy] at hyl
      rw [hx, hy]
      rw [hx] at p3
      rw [hy] at p6
      gi_wp2
      refine hR.mono ?_
      rintro e W3 (⟨rfl, hJ3, hk3⟩ | ⟨rfl, hJx3⟩)
      · have p3' := Lib.hid p3
        have p6' := Lib.hid p6
        have h3 := Lib.hid h3
        have h6 := Lib.hid h6
        have hx := Lib.hid hx
        have hy := Lib.hid hy
        have hi := Lib.hid hi
        have hpre := Lib.hid hpre
        have hlen := Lib.hid hlen
        clear p3 p6
        gi_wp2_with fail
        refine ⟨trivial, (callsIn_wide.2 (fTimes_is _ _ _ x 3 (pw 3 (k + 1)) _ rfl rfl p3'.out (by decide) h3.out rfl)).mono ?_⟩; rintro e w' ⟨rfl, rfl⟩
        gi_wp2_with fail
        refine ⟨trivial, (callsIn_wide.2 (fTimes_is _ _ _ y 246 (pw 246 (k + 1)) _ rfl rfl p6'.out (by decide) h6.out rfl)).mono ?_⟩; rintro e w' ⟨rfl, rfl⟩
        gi_wp2
        go_roundw
        case rel => exact ⟨k + 1, pre ++ [⟨(pw 3 k, pw 246 k), pw_256 k, pw_256 k⟩], by omega, by go_num, rfl, rfl, by rw [vals_snoc, hpre.out, hi.out], hJ3⟩
        case measure => simp [intOf]; omega
      · gi_wp2
        refine bodyPost_ret (results_none rfl _ _ _) rfl ?_
        exact ⟨⟨_, rfl⟩, .inr ⟨_, trivial, hJx3⟩⟩
    · obtain rfl : k = 255 := by omega
      gi_wp2
      go_end0
      exact ⟨⟨_, rfl⟩, .inl ⟨pre, hpre, hJ⟩⟩

set_option maxRecDepth 100000 in
set_option maxHeartbeats 400000 in
/-- All hands back a function that has the box's address. -/
theorem bAll_any (p : Option Addr) (w : World) :
    Calls Tryz.prog 90 #[.pointer p] w fun e w' => e = .returned (.func (.func 104) #[] #[.pointer (some ⟨w.heap.size, 0, none⟩)]) ∧ w' = w.alloc (.cells #[.pointer p] 138) := by
  go_enter Tryz.func90, Tryz.ntmps90
  go_wp2
  go_ret
  exact ⟨rfl, rfl⟩

/-- An element of an array that is a value. -/
theorem run_index_row {P : Program} (t e : TypeId) (n : Nat) (ht : P.underlying t = some (.array n e)) (he : P.plainKey e = true) (hs : (P.info? e).map (·.size) = some 1) (cs : Array Value) (kd : IntKind) (k : Nat) (hk : k < n) (v : Value) (hv : cs[k]? = some v) (w : World) :
    (Instr.index t (.agg cs) (.int kd (k : Int))).run P w = .ok v w := by
  have hsz : (sizeOf e).run P w = .ok 1 w := by
    cases hq : P.info? e with
    | none => simp [hq] at hs
    | some i => simp [sizeOf, typeInfo, hq, (by simpa [hq] using hs : i.size = 1)]
  have hp : (part e cs (k * 1)).run P w = .ok v w := run_part_plain _ he (by rw [Nat.mul_one]; exact hv)
  simp [Instr.index, asIntOf, run_underlying ht, hk, hsz, -Nat.mul_one, hp]

/-- A table's type. -/
theorem row_table : IsRow Tryz.prog 92 256 := IsRow.array Tryz.underlying92 (by kernel_rfl)

set_option maxRecDepth 100000 in
set_option maxHeartbeats 1000000 in
/-- Of a box that was made: each byte and its substitute. -/
theorem all_stops (n n₀ : Nat) (hn : 1 ≤ n) (Bs g : Nat) (f h : Nat → Nat) (hf : ∀ i, f i < 256) (w : World) (hBs : Bs < w.heap.size) (hg : g < w.heap.size) (hc : w.cell? ⟨Bs, 0, none⟩ = some (.pointer (some ⟨g, 0, none⟩))) (hb : BoxAt w g f h true) :
    SeqStopsK Fence.wide n Tryz.prog 104 #[.pointer (some ⟨Bs, 0, none⟩)] encP (Below n₀) (fun ys => vals ys = sbs f 256) (fun pre => ∃ k, k ≤ 256 ∧ vals pre = sbs f k) 256 w := fun l J Jx W hW _ _ hY h0 => by
  have hc' := (hW.cell (p := ⟨Bs, 0, none⟩) hBs).trans hc
  have hb' : BoxAt W g f h true := Blk.keep hb hW hg
  have hm : W.cell? ⟨g, 512, none⟩ = some (.bool true) := by rw [Blk.cell hb', boxCells_made]
  have hr : W.rangeAt g 0 (rowOf f) := Blk.range hb' 0 (rowOf f) (fun j v hj => by
    have hj2 : j < 256 := by have := (List.getElem?_eq_some_iff.1 hj).1; rw [rowOf_len] at this; exact this
    rw [Nat.zero_add, boxCells_sub f h true j hj2, ← rowOf_at f j hj2, hj])
  have hrow : IsRow Tryz.prog 92 (rowOf f).length := by rw [rowOf_len]; exact row_table
  clear hb hb'
  refine callsIn_of_wp Tryz.func104 rfl trivial ?_ rfl
  simp only [Tryz.ntmps104, List.size_toArray, List.length_cons, List.length_nil, Nat.reduceAdd, Nat.reduceSub, Array.replicate_succ, Array.replicate_zero, List.push_toArray, List.append_toArray, List.nil_append, List.cons_append]
  refine wpIn_wide.2 ?_
  go_wp2_with (with_reducible refine wpList_load_part rfl _ _ rfl rfl (rowOf f) hr hrow ?_)
  refine (wpIn_wide (n := n)).1 ?_
  gi_loopw [18] (fun i wm => ∃ (k : Nat) (pre : List Pr), k ≤ 256 ∧ i = .int .i64 k ∧ vals pre = sbs f k ∧ J pre wm) (fun i _ => 256 - (intOf i).toNat)
  case atStart => exact ⟨0, [], by omega, rfl, rfl, h0⟩
  case round =>
    obtain ⟨k, pre, hk, rfl, hpre, hJ⟩ := hrel
    have hlen : pre.length = k := by rw [← vals_len, hpre, sbs_len]
    by_cases hlt : k < 256
    · have hki : (k : Int) < 256 := by omega
      have hat := fun wx => run_index_row (P := Tryz.prog) 92 5 256 Tryz.underlying92 (by kernel_rfl) (by kernel_rfl) (rowOf f).toArray .i64 k hlt (.int .u8 (f k : Int)) (by simpa using rowOf_at f k hlt) wx
      have hi := Lib.hid (sbs_succ f k)
      obtain ⟨fn, tmps, assign, body, hyl, hR⟩ := hY pre ⟨(k, f k), hlt, hf k⟩ wr hJ (by omega)
      dsimp only [encP] at hyl
      have hlt := Lib.hid hlt
      have hlen := Lib.hid hlen
      have hpre := Lib.hid hpre
      have hw8 : (k : Int) % 256 = k := by omega
      clear hk
      gi_wp2
      refine hR.mono ?_
      rintro e W3 (⟨rfl, hJ3, hk3⟩ | ⟨rfl, hJx3⟩)
      · gi_wp2
        go_roundw
        case rel => exact ⟨k + 1, pre ++ [⟨(k, f k), hlt.out, hf k⟩], by have := hlt.out; omega, by go_num, by rw [vals_snoc, hpre.out, hi.out], hJ3⟩
        case measure => simp [intOf]; omega
      · gi_wp2
        refine bodyPost_ret (results_none rfl _ _ _) rfl ?_
        exact ⟨⟨_, rfl⟩, .inr ⟨_, ⟨k + 1, by have := hlt.out; omega, by rw [vals_snoc, hpre.out, hi.out]⟩, hJx3⟩⟩
    · obtain rfl : k = 256 := by omega
      gi_wp2
      go_end0
      exact ⟨⟨_, rfl⟩, .inl ⟨pre, hpre, hJ⟩⟩

set_option maxRecDepth 100000 in
set_option maxHeartbeats 1000000 in
/-- Of a box that is nil: nothing. -/
theorem all_stops_nil (n n₀ : Nat) (Bs : Nat) (w : World) (hBs : Bs < w.heap.size) (hc : w.cell? ⟨Bs, 0, none⟩ = some (.pointer none)) :
    SeqStopsK Fence.wide n Tryz.prog 104 #[.pointer (some ⟨Bs, 0, none⟩)] encP (Below n₀) (fun ys => ys = []) (fun _ => False) 0 w := fun l J Jx W hW _ _ hY h0 => by
  have hc' := (hW.cell (p := ⟨Bs, 0, none⟩) hBs).trans hc
  refine callsIn_of_wp Tryz.func104 rfl trivial ?_ rfl
  simp only [Tryz.ntmps104, List.size_toArray, List.length_cons, List.length_nil, Nat.reduceAdd, Nat.reduceSub, Array.replicate_succ, Array.replicate_zero, List.push_toArray, List.append_toArray, List.nil_append, List.cons_append]
  refine wpIn_wide.2 ?_
  go_wp2
  refine bodyPost_ret (results_none rfl _ _ _) rfl ?_
  exact ⟨⟨_, rfl⟩, .inl ⟨_, rfl, h0⟩⟩

set_option maxRecDepth 100000 in
set_option maxHeartbeats 1000000 in
/-- Of a box that no call made: nothing. -/
theorem all_stops_zero (n n₀ : Nat) (Bs g : Nat) (f h : Nat → Nat) (w : World) (hBs : Bs < w.heap.size) (hg : g < w.heap.size) (hc : w.cell? ⟨Bs, 0, none⟩ = some (.pointer (some ⟨g, 0, none⟩))) (hb : BoxAt w g f h false) :
    SeqStopsK Fence.wide n Tryz.prog 104 #[.pointer (some ⟨Bs, 0, none⟩)] encP (Below n₀) (fun ys => ys = []) (fun _ => False) 0 w := fun l J Jx W hW _ _ hY h0 => by
  have hc' := (hW.cell (p := ⟨Bs, 0, none⟩) hBs).trans hc
  have hb' : BoxAt W g f h false := Blk.keep hb hW hg
  have hm : W.cell? ⟨g, 512, none⟩ = some (.bool false) := by rw [Blk.cell hb', boxCells_made]
  clear hb hb'
  refine callsIn_of_wp Tryz.func104 rfl trivial ?_ rfl
  simp only [Tryz.ntmps104, List.size_toArray, List.length_cons, List.length_nil, Nat.reduceAdd, Nat.reduceSub, Array.replicate_succ, Array.replicate_zero, List.push_toArray, List.append_toArray, List.nil_append, List.cons_append]
  refine wpIn_wide.2 ?_
  go_wp2
  refine bodyPost_ret (results_none rfl _ _ _) rfl ?_
  exact ⟨⟨_, rfl⟩, .inl ⟨_, rfl, h0⟩⟩
end Go.Proofs.YtagacpjeooaapaaGreatDoor

/-
  The law of layer 5 on going through all substitutes comes to true, in whatever world; nothing that lay is written. Conditions: a number below 2^16.
-/
import Derived.Test.YtnifkajiplgpcaaBoxNil
import Derived.RangeFuncBox
namespace Go.Proofs.Ytnifkajiplgpcaa
open Go.RowKit Go.Shelf
attribute [local go_sem] Oper.semAt_some

/-- A row of marks: whose bytes stand in the list. -/
def marks (l : List Nat) : List Value := (List.range 256).map fun i => .bool (decide (i ∈ l))
theorem marks_len (l : List Nat) : (marks l).length = 256 := by simp [marks]
theorem marks_at (l : List Nat) (i : Nat) (hi : i < 256) : (marks l)[i]? = some (.bool (decide (i ∈ l))) := by simp [marks, hi]
theorem marks_set (l : List Nat) (i : Nat) (hi : i < 256) : (marks l).set i (.bool true) = marks (l ++ [i]) := by
  apply List.ext_getElem?
  intro j
  rw [List.getElem?_set]
  by_cases hj : j < 256
  · rw [marks_at _ _ hj, marks_at _ _ hj]
    by_cases e : i = j
    · subst e; simp [marks_len, hi]
    · have e' : ¬ j = i := fun h => e h.symm
      simp [e, e']
  · rw [List.getElem?_eq_none (by rw [marks_len]; omega), List.getElem?_eq_none (by rw [marks_len]; omega)]
    split
    · omega
    · rfl
theorem infoBool : (Try.prog.info? 4).map (fun i => (i.zero, i.size, i.bytes)) = some (some (.bool false), 1, 1) := by kernel_rfl
theorem make_marks (v : World) : (Instr.makeSlice 33 (.int .i64 256) (.int .i64 256)).run Try.prog v = .ok (.slice (some ⟨v.heap.size, 0, none⟩) 256 256) (v.alloc (.cells (marks []).toArray 4)) := by
  obtain ⟨i0, hi, hz0, hz1, hz2⟩ := info_parts infoBool
  have h := run_makeSlice (P := Try.prog) (w := v) 33 4 i0 (.bool false) Try.underlying33 hi hz0 .i64 .i64 256 256 (by decide) (by decide) (by rw [hz1]; decide) (by rw [hz2]; decide) (by decide)
  rw [hz1] at h
  have e : madeCells (Value.bool false).cells ((256 : Int).toNat * 1) = (marks []).toArray := by kernel_rfl
  rw [e] at h
  exact h

/-- Bytes, and what is told with each. -/
abbrev B8 := { n : Nat // n < 256 }
def encB (f : Nat → Nat) (x : B8) : Array Value := #[.int .u8 (x.1 : Int), .int .u8 (f x.1 : Int)]
def nats (l : List B8) : List Nat := l.map (·.1)
theorem nats_snoc (l : List B8) (p : B8) : nats (l ++ [p]) = nats l ++ [p.1] := by simp [nats]
theorem nats_len (l : List B8) : (nats l).length = l.length := by simp [nats]

set_option maxRecDepth 100000 in
set_option maxHeartbeats 1000000 in
/-- Of a box that was made: each byte and its substitute. -/
theorem all_stopsB (n n₀ : Nat) (hn : 1 ≤ n) (Bs g : Nat) (f h : Nat → Nat) (w : World) (hBs : Bs < w.heap.size) (hg : g < w.heap.size) (hc : w.cell? ⟨Bs, 0, none⟩ = some (.pointer (some ⟨g, 0, none⟩))) (hb : BoxAt w g f h true) :
    SeqStopsK Fence.wide n Try.prog 19 #[.pointer (some ⟨Bs, 0, none⟩)] (encB f) (Below n₀) (fun ys => nats ys = List.range 256) (fun pre => ∃ k, k ≤ 256 ∧ nats pre = List.range k) 256 w := fun l J Jx W hW _ _ hY h0 => by
  have hc' := (hW.cell (p := ⟨Bs, 0, none⟩) hBs).trans hc
  have hb' : BoxAt W g f h true := Blk.keep hb hW hg
  have hm : W.cell? ⟨g, 512, none⟩ = some (.bool true) := by rw [Blk.cell hb', boxCells_made]
  have hr : W.rangeAt g 0 (rowOf f) := Blk.range hb' 0 (rowOf f) (fun j v hj => by
    have hj2 : j < 256 := by have := (List.getElem?_eq_some_iff.1 hj).1; rw [rowOf_len] at this; exact this
    rw [Nat.zero_add, boxCells_sub f h true j hj2, ← rowOf_at f j hj2, hj])
  have hrow : IsRow Try.prog 35 (rowOf f).length := by rw [rowOf_len]; exact row_table
  clear hb hb'
  refine callsIn_of_wp Try.func19 rfl trivial ?_ rfl
  simp only [Try.ntmps19, List.size_toArray, List.length_cons, List.length_nil, Nat.reduceAdd, Nat.reduceSub, Array.replicate_succ, Array.replicate_zero, List.push_toArray, List.append_toArray, List.nil_append, List.cons_append]
  refine wpIn_wide.2 ?_
  go_wp2_with (with_reducible refine wpList_load_part rfl _ _ rfl rfl (rowOf f) hr hrow ?_)
  refine (wpIn_wide (n := n)).1 ?_
  gi_loopw [18] (fun i wm => ∃ (k : Nat) (pre : List B8), k ≤ 256 ∧ i = .int .i64 k ∧ nats pre = List.range k ∧ J pre wm) (fun i _ => 256 - (intOf i).toNat)
  case atStart => exact ⟨0, [], by omega, rfl, rfl, h0⟩
  case round =>
    obtain ⟨k, pre, hk, rfl, hpre, hJ⟩ := hrel
    have hlen : pre.length = k := by rw [← nats_len, hpre, List.length_range]
    by_cases hlt : k < 256
    · have hki : (k : Int) < 256 := by omega
      have hat := fun wx => run_index_row (P := Try.prog) 35 5 256 Try.underlying35 (by kernel_rfl) (by kernel_rfl) (rowOf f).toArray .i64 k hlt (.int .u8 (f k : Int)) (by simpa using rowOf_at f k hlt) wx
      obtain ⟨fn, tmps, assign, body, hyl, hR⟩ := hY pre ⟨k, hlt⟩ wr hJ (by omega)
      dsimp only [encB] at hyl
      have hlt := Lib.hid hlt
      have hlen := Lib.hid hlen
      have hpre := Lib.hid hpre
      have hw8 : (k : Int) % 256 = k := by omega
      clear hk
      gi_wp2
      refine hR.mono ?_
      rintro e W3 (⟨rfl, hJ3, hk3⟩ | ⟨rfl, hJx3⟩)
      · gi_wp2
        go_roundw
        case rel => exact ⟨k + 1, pre ++ [⟨k, hlt.out⟩], by have := hlt.out; omega, by go_num, by rw [nats_snoc, hpre.out, List.range_succ], hJ3⟩
        case measure => simp [intOf]; omega
      · gi_wp2
        refine bodyPost_ret (results_none rfl _ _ _) rfl ?_
        exact ⟨⟨_, rfl⟩, .inr ⟨_, ⟨k + 1, by have := hlt.out; omega, by rw [nats_snoc, hpre.out, List.range_succ]⟩, hJx3⟩⟩
    · obtain rfl : k = 256 := by omega
      gi_wp2
      go_end0
      exact ⟨⟨_, rfl⟩, .inl ⟨pre, hpre, hJ⟩⟩

/-- What the loop's variables hold when k rounds are over. -/
structure OnceAt (W : World) (N p g most k : Nat) (l : List Nat) : Prop where
  m : Blk W N 29 [Value.int .u16 (most : Int)]
  r : Blk W (N + 1) 4 [Value.bool false]
  v : Blk W p 23 [Value.pointer (some ⟨g, 0, none⟩)]
  b : BoxAt W g sb bk true
  n : Blk W (p + 1 + 1) 3 [Value.int .i64 (k : Int)]
  s : Blk W (p + 1 + 1 + 1) 4 (marks l)
  t : Blk W (p + 1 + 1 + 1 + 1) 33 [Value.slice (some ⟨p + 1 + 1 + 1, 0, none⟩) 256 256]
theorem OnceAt.own {A B : World} {row : Option Nat} {N p g most k : Nat} {l : List Nat} (h : OnceAt A N p g most k l) (hg : A.grownBy B row) (hr : ∀ r, row = some r → ∃ o : Obj, A.heap[r]? = some o ∧ o.isCells = false) : OnceAt B N p g most k l :=
  ⟨h.m.own hg hr, h.r.own hg hr, h.v.own hg hr, Blk.own h.b hg hr, h.n.own hg hr, h.s.own hg hr, h.t.own hg hr⟩
theorem OnceAt.step {W : World} {N p g most k : Nat} {l : List Nat} (h : OnceAt W N p g most k l) (hN : N + 2 ≤ g) (hg : g < p) (y : Nat) (hy : y < 256) :
    OnceAt ((W.setCell ⟨p + 1 + 1 + 1, y, none⟩ (.bool true)).setCell ⟨p + 1 + 1, 0, none⟩ (.int .i64 ((k : Int) + 1))) N p g most (k + 1) (l ++ [y]) :=
  ⟨(h.m.far (by dsimp only; omega) _).far (by dsimp only; omega) _, (h.r.far (by dsimp only; omega) _).far (by dsimp only; omega) _, (h.v.far (by dsimp only; omega) _).far (by dsimp only; omega) _, Blk.far (Blk.far h.b (by dsimp only; omega) _) (by dsimp only; omega) _,
    (h.n.far (by dsimp only; omega) _).set 0 _, ((h.s.set y _).cast (marks_set l y hy)).far (by dsimp only; omega) _, (h.t.far (by dsimp only; omega) _).far (by dsimp only; omega) _⟩
theorem range_snoc {l : List Nat} {x : Nat} (hx : x ≠ l.length) : l ++ [x] ≠ List.range (l ++ [x]).length := by
  intro e
  rw [List.length_append, List.length_singleton, List.range_succ] at e
  have := List.append_inj' e rfl
  simp at this
  exact hx this.2

set_option maxRecDepth 100000 in
set_option maxHeartbeats 1000000 in
theorem boxOnce_nat (most : Nat) (w : World) (hmost : most < 65536) :
    Calls Try.prog 4 #[.int .u16 (most : Int)] w fun e w' => e = .returned (.bool true) ∧ Below w.heap.size w w' := by
  have heq := eqFunc
  have hmk := make_marks
  refine (callsIn_wide (n := 9)).1 (callsIn_of_wp_marks Try.func4 rfl trivial (wpIn_wide.2 ?_) rfl)
  simp only [Try.ntmps4, List.size_toArray, List.length_cons, List.length_nil, Nat.reduceAdd, Nat.reduceSub, Array.replicate_succ, Array.replicate_zero, List.push_toArray, List.append_toArray, List.nil_append, List.cons_append]
  go_wp2_with fail
  refine (bNew_any _).mono ?_; rintro e w1 ⟨g, rfl, hg, hb, hB⟩
  have hg := Lib.hid hg
  have hb := Lib.hid hb
  have hB := Lib.hid hB
  go_wp2_with (go_at_call 14; refine (bAll_any _ _).mono ?_; rintro e w' ⟨rfl, rfl⟩)
  obtain ⟨N, hN⟩ : ∃ N, w.heap.size = N := ⟨_, rfl⟩
  obtain ⟨p, hp⟩ : ∃ p, w1.heap.size = p := ⟨_, rfl⟩
  obtain ⟨V0, hV0⟩ : ∃ V0, ((((w1.alloc (.cells #[Value.pointer (some ⟨g, 0, none⟩)] 23)).alloc (.cells #[Value.pointer (some ⟨g, 0, none⟩)] 23)).alloc (.cells #[Value.int .i64 0] 3)).alloc (.cells (marks []).toArray 4)).alloc
    (.cells #[Value.slice (some ⟨w1.heap.size + 1 + 1 + 1, 0, none⟩) 256 256] 33) = V0 := ⟨_, rfl⟩
  rw [hV0, hN, hp]
  have hg1 := hg.out
  have hb1 := hb.out
  have hB1 := hB.out
  rw [size2, hN] at hg1
  have hgp : g < p := by rw [← hp]; exact Blk.lt hb1
  have hV : Below p w1 V0 := by
    rw [← hV0, ← hp]
    exact ((below3 w1 _ _ _).alloc (by simp; omega) _).alloc (by simp; omega) _
  have hs0 : V0.heap.size = p + 5 := by rw [← hV0, ← hp]; simp
  have hm1 : Blk w1 N 29 [Value.int .u16 (most : Int)] := by
    have h := (Blk.new w 29 [Value.int .u16 (most : Int)]).alloc (.cells #[Value.bool false] 4)
    rw [hN] at h
    exact h.keep hB1 (by rw [size2, hN]; omega)
  have hr1 : Blk w1 (N + 1) 4 [Value.bool false] := by
    have h := Blk.new1 w (.cells #[Value.int .u16 (most : Int)] 29) 4 [Value.bool false]
    rw [hN] at h
    exact h.keep hB1 (by rw [size2, hN]; omega)
  have hO : OnceAt V0 N p g most 0 [] := by
    refine ⟨hm1.keep hV (by omega), hr1.keep hV (by omega), ?_, Blk.keep hb1 hV hgp, ?_, ?_, ?_⟩
    all_goals rw [← hV0, ← hp]
    · exact ((((Blk.new w1 _ [Value.pointer (some ⟨g, 0, none⟩)]).alloc _).alloc _).alloc _).alloc _
    · have h := Blk.new1 (w1.alloc (.cells #[Value.pointer (some ⟨g, 0, none⟩)] 23)) (.cells #[Value.pointer (some ⟨g, 0, none⟩)] 23) 3 [Value.int .i64 0]
      rw [size1] at h
      exact (h.alloc _).alloc _
    · have h := Blk.new1 ((w1.alloc (.cells #[Value.pointer (some ⟨g, 0, none⟩)] 23)).alloc (.cells #[Value.pointer (some ⟨g, 0, none⟩)] 23)) (.cells #[Value.int .i64 0] 3) 4 (marks [])
      rw [size2] at h
      exact h.alloc _
    · have h := Blk.new1 (((w1.alloc (.cells #[Value.pointer (some ⟨g, 0, none⟩)] 23)).alloc (.cells #[Value.pointer (some ⟨g, 0, none⟩)] 23)).alloc (.cells #[Value.int .i64 0] 3)) (.cells (marks []).toArray 4) 33 [Value.slice (some ⟨w1.heap.size + 1 + 1 + 1, 0, none⟩) 256 256]
      rw [size3] at h
      exact h
  have hq : V0.cell? ⟨p + 1, 0, none⟩ = some (.pointer (some ⟨g, 0, none⟩)) := by
    have h : Blk V0 (p + 1) 23 [Value.pointer (some ⟨g, 0, none⟩)] := by
      rw [← hV0, ← hp]
      exact (((Blk.new1 w1 (.cells #[Value.pointer (some ⟨g, 0, none⟩)] 23) _ [Value.pointer (some ⟨g, 0, none⟩)]).alloc _).alloc _).alloc _
    rw [h.cell]; rfl
  have hBw : Below N w V0 := by
    have h2 := below2 w (.cells #[Value.int .u16 (most : Int)] 29) (.cells #[Value.bool false] 4)
    rw [hN] at h2
    exact (h2.trans (hB1.mono (by rw [size2, hN]; omega))).trans (hV.mono (by omega))
  clear hV0 hp hm1 hr1 hV hB1 hb1
  have hN := Lib.hid hN
  refine (wpIn_wide (n := 9)).1 ?_
  refine wpIn_rangeFunc_ownG rfl (by omega) (gf := 19) (lb := #[.pointer (some ⟨p + 1, 0, none⟩)]) rfl trivial (enters_of Try.func19 (by kernel_rfl) rfl)
    (all_stopsB (9 - 1) N (by omega) (p + 1) g sb bk V0 (by omega) (by omega) hq hO.b) belowK_t (belowK_b (by omega)) (Below.refl _ _) (fun _ => rfl)
    (fun pre W => (OnceAt W N p g most pre.length ((nats pre).map sb) ∧ nats pre = List.range (nats pre).length ∧ pre.length ≤ most) ∧ Below N w W)
    (fun c pre W => (nats pre ≠ List.range (nats pre).length) ∨ ((∃ l, OnceAt W N p g most most l) ∧ c = .exit 0 ∧ pre.length = most + 1) ∧ Below N w W)
    (OwnFrom.and (Own.from (fun s A B row hs hg hr => ⟨hs.1.own hg hr, hs.2⟩) _) (ownFrom_below (by rw [hN.out]; exact Nat.le_refl _) (by omega)))
    (fun c s A B row hs hg hr => hs.elim .inl (fun h => .inr ⟨⟨h.1.1.elim (fun l hl => ⟨l, hl.own hg (fun r e => (hr r e).2)⟩), h.1.2⟩, ownFrom_below (β := List B8) (n₀ := N) (B := V0.heap.size) (by rw [hN.out]; exact Nat.le_refl _) (by omega) s A B row h.2 hg hr⟩))
    ⟨⟨hO, rfl, Nat.zero_le _⟩, hBw⟩
    (fun x => { tmps := #[Value.int .u16 (most : Int), Value.pointer (some ⟨N, 0, none⟩), Value.pointer (some ⟨N + 1, 0, none⟩), Value.pointer (some ⟨p, 0, none⟩), Value.func (.func 19) #[] #[Value.pointer (some ⟨p + 1, 0, none⟩)],
      Value.pointer (some ⟨p + 1 + 1, 0, none⟩), Value.pointer (some ⟨p + 1 + 1 + 1 + 1, 0, none⟩), Value.int .u8 (x.1 : Int), Value.int .u8 (sb x.1 : Int), Value.pointer (some ⟨g, 0, none⟩), Value.pointer (some ⟨g, 0, none⟩), Value.bool false, Value.pointer (some ⟨g, 0, none⟩),
      Value.func (.func 19) #[] #[Value.pointer (some ⟨p + 1, 0, none⟩)], Value.func (.func 19) #[] #[Value.pointer (some ⟨p + 1, 0, none⟩)], Value.bool false, Value.slice (some ⟨p + 1 + 1 + 1, 0, none⟩) 256 256,
      Value.func (.func 19) #[] #[Value.pointer (some ⟨p + 1, 0, none⟩)], Value.int .u8 (x.1 : Int), Value.int .u8 (sb x.1 : Int), undef, undef, undef, undef, undef, undef, undef, undef, undef, undef, undef, undef, undef, undef, undef, undef, undef, undef, undef, undef, undef, undef, undef, undef, undef, undef, undef, undef, undef, undef, undef, undef, undef, undef, undef, undef, undef, undef, undef, undef, undef], defers := [] }) ?assign ?body ?done ?stop
  case assign =>
    intro l x W K hK
    dsimp only [encB]
    gi_wp2
    exact hK
  case body =>
    rintro l pre x W ⟨⟨hO, hpre, hle⟩, hBW⟩ hlt
    have hd : 1 ≤ 9 - 1 - 1 := by omega
    obtain ⟨a, ha⟩ := x
    obtain ⟨k, hk⟩ : ∃ k, (nats pre).length = k := ⟨_, rfl⟩
    have hk' : pre.length = k := by rw [← hk, nats_len]
    have hai : (a : Int) < 256 := by omega
    have hkl : (k : Int) < 256 := by omega
    have hml : (most : Int) < 65536 := by omega
    have hcm : W.cell? ⟨N, 0, none⟩ = some (.int .u16 (most : Int)) := by rw [hO.m.cell]; rfl
    have hcn : W.cell? ⟨p + 1 + 1, 0, none⟩ = some (.int .i64 (k : Int)) := by rw [hO.n.cell, ← hk']; rfl
    have hon := Lib.hid hO
    by_cases hend : k < most
    · by_cases hak : a = k
      · subst hak
        obtain ⟨y, hy⟩ : ∃ y, sb a = y := ⟨_, rfl⟩
        have hyl : y < 256 := by rw [← hy]; exact sb_256 a
        have hyi : (y : Int) < 256 := by omega
        have hby := Lib.hid (show bk y = a from by rw [← hy]; exact bk_sb a ha)
        have hlt' : ¬ (most : Int) ≤ (a : Int) := by omega
        have hnot : y ∉ (nats pre).map sb := by
          intro h
          obtain ⟨j, hj, e⟩ := List.mem_map.1 h
          rw [hpre, hk, List.mem_range] at hj
          have := sb_inj j a (by omega) ha (by rw [e, hy])
          omega
        have hcs : W.cell? ⟨p + 1 + 1 + 1, y, none⟩ = some (.bool false) := by rw [hO.s.cell, marks_at _ y hyl, decide_eq_false hnot]
        have hfs : W.frozen? ⟨p + 1 + 1 + 1, y, none⟩ = false := hO.s.frozen y
        have hct : W.cell? ⟨p + 1 + 1 + 1 + 1, 0, none⟩ = some (.slice (some ⟨p + 1 + 1 + 1, 0, none⟩) 256 256) := by rw [hO.t.cell]; rfl
        have hcv : W.cell? ⟨p, 0, none⟩ = some (.pointer (some ⟨g, 0, none⟩)) := by rw [hO.v.cell]; rfl
        have hn2 := hO.n.far (p := ⟨p + 1 + 1 + 1, y, none⟩) (by dsimp only; omega) (.bool true)
        have hcn2 : (W.setCell ⟨p + 1 + 1 + 1, y, none⟩ (.bool true)).cell? ⟨p + 1 + 1, 0, none⟩ = some (.int .i64 (a : Int)) := by rw [hn2.cell, hk']; rfl
        have hfn2 : (W.setCell ⟨p + 1 + 1 + 1, y, none⟩ (.bool true)).frozen? ⟨p + 1 + 1, 0, none⟩ = false := hn2.frozen 0
        have hstep := hO.step (by omega) hgp y hyl
        rw [hk'] at hstep
        have hl2 : (nats (pre ++ [(⟨a, ha⟩ : B8)])).map sb = (nats pre).map sb ++ [y] := by rw [nats_snoc, List.map_append, ← hy]; rfl
        have hl3 : (pre ++ [(⟨a, ha⟩ : B8)]).length = a + 1 := by rw [List.length_append, hk']; rfl
        have hr2 : nats (pre ++ [(⟨a, ha⟩ : B8)]) = List.range (nats (pre ++ [(⟨a, ha⟩ : B8)])).length := by rw [nats_snoc, List.length_append, hk, List.length_singleton, List.range_succ]; exact congrArg (· ++ [a]) (hpre.trans (by rw [hk]))
        have hfin := Lib.hid (show OnceAt _ N p g most (pre ++ [(⟨a, ha⟩ : B8)]).length ((nats (pre ++ [(⟨a, ha⟩ : B8)])).map sb) ∧ _ ∧ (pre ++ [(⟨a, ha⟩ : B8)]).length ≤ most from ⟨by rw [hl2, hl3]; exact hstep, hr2, by rw [hl3]; omega⟩)
        have hy := Lib.hid hy
        have hyl := Lib.hid hyl
        have hal := Lib.hid ha
        clear hstep hl2 hl3 hr2 hnot hn2
        dsimp only
        rw [hy.out]
        gi_wp2_with fail
        refine ⟨trivial, (CallsIn.inRound l (callsIn_wide.2 (bSub_of g sb bk true a y a y _ hon.out.b rfl hal.out hy.out rfl))).mono ?_⟩; rintro e w' ⟨rfl, rfl⟩
        gi_wp2_with fail
        refine ⟨trivial, (CallsIn.inRound l (callsIn_wide.2 (bBack_of g sb bk true y a y a _ hon.out.b rfl hyl.out hby.out rfl))).mono ?_⟩; rintro e w' ⟨rfl, rfl⟩
        gi_wp2
        exact ⟨((KeepsOthers.setCell W ⟨p + 1 + 1 + 1, y, none⟩ _).trans (KeepsOthers.setCell _ ⟨p + 1 + 1, 0, none⟩ _)).from _, ((Below.refl N W).setCell (p := ⟨p + 1 + 1 + 1, y, none⟩) (by dsimp only; omega) _).setCell (p := ⟨p + 1 + 1, 0, none⟩) (by dsimp only; omega) _,
          hfin.out, (hBW.setCell (p := ⟨p + 1 + 1 + 1, y, none⟩) (by dsimp only; omega) _).setCell (p := ⟨p + 1 + 1, 0, none⟩) (by dsimp only; omega) _⟩
      · have hne : ((a : Int) != (k : Int)) = true := bne_iff_ne.2 (by omega)
        have hlt' : ¬ (most : Int) ≤ (k : Int) := by omega
        have hcr : W.cell? ⟨N + 1, 0, none⟩ = some (.bool false) := by rw [hO.r.cell]; rfl
        have hfr : W.frozen? ⟨N + 1, 0, none⟩ = false := hO.r.frozen 0
        have hbad := Lib.hid (range_snoc (l := nats pre) (x := a) (by omega))
        gi_wp2
        refine ⟨trivial, ?_⟩
        gi_wp2
        refine ⟨trivial, ?_⟩
        gi_wp2
        exact ⟨(KeepsOthers.setCell W ⟨N + 1, 0, none⟩ _).from _, .inl (by rw [nats_snoc]; exact hbad.out)⟩
    · have hge : (most : Int) ≤ (k : Int) := by omega
      gi_wp2
      by_cases hak : a = k
      · obtain rfl : k = most := by omega
        refine ⟨KeepsFrom.refl _ _, .inr ⟨⟨⟨_, by rw [← hk'] at hon ⊢; exact hon.out⟩, rfl, by rw [List.length_append, hk']; rfl⟩, hBW⟩⟩
      · exact ⟨KeepsFrom.refl _ _, .inl (by rw [nats_snoc]; exact range_snoc (l := nats pre) (x := a) (by omega))⟩
  case done =>
    rintro D ys W hD hS ⟨⟨hO, hpre, hle⟩, hBW⟩ hK
    have hl : ys.length = 256 := by rw [← nats_len, hS, List.length_range]
    rw [hl] at hO hle
    have hml : (most : Int) < 65536 := by omega
    have hme : (256 : Int) ≤ (most : Int) := by omega
    have hcm : W.cell? ⟨N, 0, none⟩ = some (.int .u16 (most : Int)) := by rw [hO.m.cell]; rfl
    have hcn : W.cell? ⟨p + 1 + 1, 0, none⟩ = some (.int .i64 256) := by rw [hO.n.cell]; rfl
    have hmin : min (256 : Int) (most : Int) = 256 := by omega
    go_wp2_with fail
    refine (bAlive_any _).mono ?_; rintro e W3 ⟨rfl, hB3⟩
    have hN1 : N + 1 < W.heap.size := hO.r.lt
    have hr3 := hO.r.keep hB3 hN1
    have hcr : W3.cell? ⟨N + 1, 0, none⟩ = some (.bool false) := by rw [hr3.cell]; rfl
    have hfr : W3.frozen? ⟨N + 1, 0, none⟩ = false := hr3.frozen 0
    go_wp2
    have hDl : D < W.heap.size := (Array.getElem?_eq_some_iff.1 hK).1
    have hK' := (KeepsOthers.setCell W3 ⟨N + 1, 0, none⟩ (.bool true)).same D _ ((hB3.block D hDl).trans hK) rfl
    refine ⟨by simp, .inl ⟨_, _, rfl, run_takeDeferred hK', ?_⟩⟩
    have hc5 := cell_kept (World.cell?_setCell_same' W3 ⟨N + 1, 0, none⟩ (.bool true) (by rw [hcr]; rfl)) (grownBy_putObj' _ D (.deferred none)) (fun r e => by cases e; exact ⟨_, hK', rfl⟩)
    refine ⟨.bool true, by simp [results, Try.f4, go_sem, hc5], rfl, ?_⟩
    rw [hN.out]
    have h3 : Below N w W3 := hBW.trans (hB3.mono (by omega))
    exact (h3.setCell (p := ⟨N + 1, 0, none⟩) (by dsimp only; omega) _).trans (belowK_b (w := V0) (by omega) _ D _ _ hD hK' rfl rfl)
  case stop =>
    rintro D c pre W hD ⟨k, hk, hpre⟩ hI hK
    have hlk : (nats pre).length = k := by rw [hpre, List.length_range]
    rcases hI with hbad | ⟨⟨⟨ml, hO⟩, rfl, hl⟩, hBW⟩
    · exact absurd (by rw [hlk]; exact hpre) hbad
    have hm256 : most < 256 := by rw [nats_len] at hlk; omega
    have hml : (most : Int) < 256 := by omega
    have hcm : W.cell? ⟨N, 0, none⟩ = some (.int .u16 (most : Int)) := by rw [hO.m.cell]; rfl
    have hcn : W.cell? ⟨p + 1 + 1, 0, none⟩ = some (.int .i64 (most : Int)) := by rw [hO.n.cell]; rfl
    have hmin : min (256 : Int) (most : Int) = most := by omega
    refine wpIn_wide.2 ?_
    go_wp2_with fail
    refine (bAlive_any _).mono ?_; rintro e W3 ⟨rfl, hB3⟩
    have hN1 : N + 1 < W.heap.size := hO.r.lt
    have hr3 := hO.r.keep hB3 hN1
    have hcr : W3.cell? ⟨N + 1, 0, none⟩ = some (.bool false) := by rw [hr3.cell]; rfl
    have hfr : W3.frozen? ⟨N + 1, 0, none⟩ = false := hr3.frozen 0
    go_wp2
    have hDl : D < W.heap.size := (Array.getElem?_eq_some_iff.1 hK).1
    have hK' := (KeepsOthers.setCell W3 ⟨N + 1, 0, none⟩ (.bool true)).same D _ ((hB3.block D hDl).trans hK) rfl
    refine ⟨by simp, .inl ⟨_, _, rfl, run_takeDeferred hK', ?_⟩⟩
    have hc5 := cell_kept (World.cell?_setCell_same' W3 ⟨N + 1, 0, none⟩ (.bool true) (by rw [hcr]; rfl)) (grownBy_putObj' _ D (.deferred none)) (fun r e => by cases e; exact ⟨_, hK', rfl⟩)
    refine ⟨.bool true, by simp [results, Try.f4, go_sem, hc5], rfl, ?_⟩
    rw [hN.out]
    have h3 : Below N w W3 := hBW.trans (hB3.mono (by omega))
    exact (h3.setCell (p := ⟨N + 1, 0, none⟩) (by dsimp only; omega) _).trans (belowK_b (w := V0) (by omega) _ D _ _ hD hK' rfl rfl)

theorem law_BoxOnce (a : Int) (w : World) (ha : (Lit.int .u16 a).wf = true) :
    Calls Try.prog 4 #[.int .u16 a] w fun e w' => e = .returned (.bool true) ∧ Below w.heap.size w w' := by
  obtain ⟨m, rfl, hm⟩ := wf_u16 ha
  exact boxOnce_nat m w hm
end Go.Proofs.Ytnifkajiplgpcaa

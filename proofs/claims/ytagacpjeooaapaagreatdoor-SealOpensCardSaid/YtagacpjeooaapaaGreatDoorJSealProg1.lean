/-
  Texts of stages that were proved on their own, joined: CipherBlk, CipherMem, CipherMix, CipherStep, CipherSubst, CipherTurn, CipherCols, CipherEnc, StreamCi, CipherBuild. Each begins with its own words.
-/
import Derived.Test.YtagacpjeooaapaaGreatDoorJSealProg0
import Derived.Test.YtagacpjeooaapaaGreatDoorBoxNew

/-
  Rows of bytes as values (a block of 16, a column of 4): their cells, one set, a new variable that holds one.
-/
namespace Go.Proofs.YtagacpjeooaapaaGreatDoor
open Go.RowKit

/-- The cells of n bytes. -/
def rowN (n : Nat) (f : Nat → Nat) : List Value := (List.range n).map fun i => .int .u8 (f i : Int)
theorem rowN_len (n : Nat) (f : Nat → Nat) : (rowN n f).length = n := by simp [rowN]
theorem rowN_at (n : Nat) (f : Nat → Nat) (i : Nat) (hi : i < n) : (rowN n f)[i]? = some (.int .u8 (f i : Int)) := by simp [rowN, hi]
theorem rowN_congr {n : Nat} {f h : Nat → Nat} (e : Ag n f h) : rowN n f = rowN n h := by
  refine List.map_congr_left fun i hi => ?_
  rw [e i (List.mem_range.1 hi)]
theorem rowN_set (n : Nat) (f : Nat → Nat) (i v : Nat) (hi : i < n) : (rowN n f).set i (.int .u8 (v : Int)) = rowN n (upd f i v) := by
  apply List.ext_getElem?
  intro j
  rw [List.getElem?_set]
  by_cases hj : j < n
  · rw [rowN_at n _ _ hj, rowN_at n _ _ hj]
    by_cases e : i = j
    · subst e; simp [upd, rowN_len, hi]
    · have e' : ¬ j = i := fun h => e h.symm
      simp [e, e', upd]
  · rw [List.getElem?_eq_none (by rw [rowN_len]; omega), List.getElem?_eq_none (by rw [rowN_len]; omega)]
    split
    · omega
    · rfl
theorem rowN_one (n : Nat) (f : Nat → Nat) : ∀ v ∈ rowN n f, v.oneCell' = true := by
  intro v hv
  obtain ⟨i, _, rfl⟩ := List.mem_map.1 hv
  rfl
theorem rowN_inj {n : Nat} {f h : Nat → Nat} (e : rowN n f = rowN n h) : Ag n f h := by
  intro i hi
  have h1 := rowN_at n f i hi
  rw [e, rowN_at n h i hi] at h1
  injection h1 with h1
  injection h1 with _ h1
  omega
/-- The first k are f's, the rest b's. -/
def upto (k : Nat) (f b : Nat → Nat) : Nat → Nat := fun i => if i < k then f i else b i
theorem upto_zero (f b : Nat → Nat) : upto 0 f b = b := by funext i; simp [upto]
theorem upto_step (k v : Nat) (f b : Nat → Nat) (h : f k = v) : upd (upto k f b) k v = upto (k + 1) f b := by
  subst h
  funext i
  unfold upd upto
  by_cases e : i = k
  · subst e; rw [if_pos rfl, if_pos (by omega)]
  · rw [if_neg e]
    by_cases l : i < k
    · rw [if_pos l, if_pos (by omega)]
    · rw [if_neg l, if_neg (by omega)]
theorem upto_all (n : Nat) (f b : Nat → Nat) : Ag n (upto n f b) f := fun i hi => by unfold upto; rw [if_pos hi]
theorem upto_at (k : Nat) (f b : Nat → Nat) : upto k f b k = b k := by unfold upto; rw [if_neg (by omega)]

theorem size4 : (Tryz.prog.info? 163).map (·.size) = some 4 := by kernel_rfl
theorem size16 : (Tryz.prog.info? 90).map (·.size) = some 16 := by kernel_rfl
theorem row4' : IsRow Tryz.prog 163 4 := IsRow.array Tryz.underlying163 size4
theorem row16' : IsRow Tryz.prog 90 16 := IsRow.array Tryz.underlying90 size16
theorem row4 (f : Nat → Nat) : IsRow Tryz.prog 163 (rowN 4 f).length := by rw [rowN_len]; exact row4'
theorem row16 (f : Nat → Nat) : IsRow Tryz.prog 90 (rowN 16 f).length := by rw [rowN_len]; exact row16'
theorem zero4 : Zero Tryz.prog 163 (rowN 4 zf) := by unfold Zero; kernel_rfl
theorem zero16 : Zero Tryz.prog 90 (rowN 16 zf) := by unfold Zero; kernel_rfl
theorem over4 (a b : Nat → Nat) : overV (rowN 4 a) 0 (rowN 4 b) = rowN 4 b := overV_all _ _ (by rw [rowN_len, rowN_len])
theorem over16 (a b : Nat → Nat) : overV (rowN 16 a) 0 (rowN 16 b) = rowN 16 b := overV_all _ _ (by rw [rowN_len, rowN_len])
theorem fit4 (a b : Nat → Nat) : 0 + (rowN 4 b).length ≤ (rowN 4 a).length := by rw [rowN_len, rowN_len]; omega
theorem fit16 (a b : Nat → Nat) : 0 + (rowN 16 b).length ≤ (rowN 16 a).length := by rw [rowN_len, rowN_len]; omega
theorem zf_at (i : Nat) : zf i = 0 := rfl

/-- A new variable that holds a value of many cells. -/
theorem wpList_box_blk {P : Program} {w : World} {ops : Array Oper} {rest : List Oper} {o : Oper} {a : Act} {Q : Exit → Act → World → Prop} (hgd : o.guard = none) (ty : TypeId) (x : Operand) (ho : o.op = .box ty x)
    (cs : List Value) (hx : a.eval x = .agg cs.toArray)
    (h : wpList P ops Q rest (a.put o.dst (.pointer (some ⟨w.heap.size, 0, none⟩))) (w.alloc (.cells cs.toArray ty))) : wpList P ops Q (o :: rest) a w := by
  refine wpList_plain hgd fun K hK => ?_
  unfold Oper.wp execOp
  simp only [ho, Sem.run_bind, Instr.box, newVar, newRow, run_newObj_alloc, Sem.run_pure, Result.andThen_ok, hx]
  exact hK _ _ h
theorem Draws.cellW {w w' : World} (h : Draws w w') {p : Addr} {x : Option Value} (hc : w.cell? p = x) : w'.cell? p = x := by
  obtain ⟨n, rfl⟩ := h
  exact hc
theorem Draws.frozen {w w' : World} (h : Draws w w') {p : Addr} {x : Bool} (hc : w.frozen? p = x) : w'.frozen? p = x := by
  obtain ⟨n, rfl⟩ := h
  exact hc
theorem Draws.one (w : World) : ∃ v, w.drew = v ∧ Draws w v := ⟨_, rfl, (Draws.refl w).drew⟩
end Go.Proofs.YtagacpjeooaapaaGreatDoor

/-
  A cipher in memory ('CiAt'): its round keys' bytes, its box and its mark; what the calls of the box in it come to.
-/
namespace Go.Proofs.YtagacpjeooaapaaGreatDoor
open Go.RowKit

/-- The cells of a cipher. -/
def ciCells (F f h : Nat → Nat) (bm m : Bool) : List Value := rowN 240 F ++ (boxCells f h bm ++ [.bool m])
/-- Block g holds a cipher. -/
def CiAt (w : World) (g : Nat) (F f h : Nat → Nat) (bm m : Bool) : Prop := Blk w g 96 (ciCells F f h bm m)
theorem ciCells_key (F f h : Nat → Nat) (bm m : Bool) (i : Nat) (hi : i < 240) : (ciCells F f h bm m)[i]? = some (.int .u8 (F i : Int)) := by
  unfold ciCells
  rw [List.getElem?_append_left (by rw [rowN_len]; exact hi), rowN_at 240 F i hi]
theorem ciCells_box (F f h : Nat → Nat) (bm m : Bool) (i : Nat) (hi : i < 513) : (ciCells F f h bm m)[240 + i]? = (boxCells f h bm)[i]? := by
  unfold ciCells
  rw [List.getElem?_append_right (by rw [rowN_len]; omega), rowN_len, Nat.add_sub_cancel_left, List.getElem?_append_left (by rw [boxCells_len]; exact hi)]
theorem ciCells_sub (F f h : Nat → Nat) (bm m : Bool) (i : Nat) (hi : i < 256) : (ciCells F f h bm m)[240 + i]? = some (.int .u8 (f i : Int)) := by
  rw [ciCells_box _ _ _ _ _ i (by omega), boxCells_sub f h bm i hi]
theorem ciCells_back (F f h : Nat → Nat) (bm m : Bool) (i : Nat) (hi : i < 256) : (ciCells F f h bm m)[496 + i]? = some (.int .u8 (h i : Int)) := by
  rw [show 496 + i = 240 + (256 + i) by omega, ciCells_box _ _ _ _ _ (256 + i) (by omega), boxCells_back f h bm i hi]
theorem ciCells_made (F f h : Nat → Nat) (bm m : Bool) : (ciCells F f h bm m)[753]? = some (.bool m) := by
  unfold ciCells
  rw [List.getElem?_append_right (by rw [rowN_len]; omega), rowN_len, List.getElem?_append_right (by rw [boxCells_len]; omega), boxCells_len]
  rfl
theorem ciCells_len (F f h : Nat → Nat) (bm m : Bool) : (ciCells F f h bm m).length = 754 := by simp [ciCells, rowN_len, boxCells_len]
/-- The bytes of the round key r. -/
def keyAt (F : Nat → Nat) (r : Nat) : Nat → Nat := fun i => F (16 * r + i)
theorem keyAt_by {F : Nat → Nat} (h : By F) (r : Nat) : By (keyAt F r) := fun _ => h _
theorem ci_key {w : World} {g : Nat} {F f h : Nat → Nat} {bm m : Bool} (hb : CiAt w g F f h bm m) (r : Nat) (hr : r < 15) : w.rangeAt g (16 * r) (rowN 16 (keyAt F r)) := by
  refine Blk.range hb (16 * r) _ fun j v hj => ?_
  by_cases h16 : j < 16
  · rw [rowN_at 16 _ j h16] at hj
    rw [ciCells_key _ _ _ _ _ _ (by omega)]
    exact hj
  · rw [List.getElem?_eq_none (by rw [rowN_len]; omega)] at hj
    cases hj

set_option maxRecDepth 100000 in
set_option maxHeartbeats 400000 in
theorem cSub_any (g : Nat) (F f h : Nat → Nat) (bm m : Bool) (x : Nat) (w : World) (hb : CiAt w g F f h bm m) (hx : x < 256) :
    Calls Tryz.prog 73 #[.pointer (some ⟨g, 240, none⟩), .int .u8 (x : Int)] w fun e w' => e = .returned (.int .u8 (f x : Int)) ∧ w = w' := by
  have hc : w.cell? ⟨g, 240 + x, none⟩ = some (.int .u8 (f x : Int)) := by rw [Blk.cell hb, ciCells_sub F f h bm m x hx]
  have hxi : (x : Int) < 256 := by omega
  clear hx
  go_enter Tryz.func73, Tryz.ntmps73
  go_wp2
  go_ret
  exact ⟨rfl, rfl⟩

theorem cSub_of (g : Nat) (F f h : Nat → Nat) (bm m : Bool) (x z : Int) (n t : Nat) (w : World) (hb : CiAt w g F f h bm m) (hx : x = n) (hn : n < 256) (ht : f n = t) (hz : z = t) :
    Calls Tryz.prog 73 #[.pointer (some ⟨g, 240, none⟩), .int .u8 x] w fun e w' => e = .returned (.int .u8 z) ∧ w = w' := by
  subst hx; subst ht; subst hz; exact cSub_any g F f h bm m n w hb hn

set_option maxRecDepth 100000 in
set_option maxHeartbeats 400000 in
theorem cWord_any (g : Nat) (F f h : Nat → Nat) (bm m : Bool) (hf : ∀ i, f i < 256) (x : Nat) (w : World) (hb : CiAt w g F f h bm m) (hx : x < 4294967296) :
    Calls Tryz.prog 105 #[.pointer (some ⟨g, 240, none⟩), .int .u32 (x : Int)] w fun e w' => e = .returned (.int .u32 (bwd f x 4 : Int)) ∧ w = w' := by
  have hxi : (x : Int) < 4294967296 := by omega
  have hxn := Lib.hid hx
  clear hx
  go_enter Tryz.func105, Tryz.ntmps105
  go_wp2
  go_loop [5, 6] (fun out i => ∃ k : Nat, k ≤ 4 ∧ i = .int .i64 (8 * (k : Int)) ∧ out = .int .u32 (bwd f x k : Int)) (fun _ i => (40 - intOf i).toNat)
  case atStart => exact ⟨0, by omega, rfl, rfl⟩
  case round =>
    obtain ⟨k, hk, rfl, rfl⟩ := hrel
    by_cases hlt : k < 4
    · have hl := wd_lt f hf x k
      have hs := wd_or f hf x k
      have hle := wd_lt f hf x (k + 1)
      obtain ⟨q, hq⟩ : ∃ q, bwd f x k = q := ⟨_, rfl⟩
      obtain ⟨q', hq'⟩ : ∃ q', bwd f x (k + 1) = q' := ⟨_, rfl⟩
      rw [hq, hq'] at hs
      rw [hq] at hl ⊢
      rw [hq'] at hle
      clear hq
      obtain rfl | rfl | rfl | rfl : k = 0 ∨ k = 1 ∨ k = 2 ∨ k = 3 := by omega
      · obtain ⟨t, ht⟩ : ∃ t, f (x % 256) = t := ⟨_, rfl⟩
        have hs := Lib.hid (show q ||| (t * 1) = q' from by rw [← hs, ← ht, Nat.mul_zero, Nat.pow_zero, Nat.div_one])
        have htn : t < 256 := by rw [← ht]; exact hf _
        have hti : (t : Int) < 256 := by omega
        have hor : bits .or .u32 (q : Int) (t : Int) = (q' : Int) := by
          have e : (t : Int) = ((t * 1 : Nat) : Int) := by omega
          rw [e, bits_or32 q (t * 1) (Nat.lt_trans hl (by decide)) (by omega), hs.out]
        have ht := Lib.hid ht
        have hl := Lib.hid hl
        have hle := Lib.hid hle
        have htn := Lib.hid htn
        have hq'' := Lib.hid hq'
        clear hq'
        go_wp2_with fail
        refine (cSub_of g F f h bm m _ t (x % 256) t _ hb (by have := hxn.out; omega) (Nat.mod_lt _ (by decide)) ht.out rfl).mono ?_; rintro e w' ⟨rfl, rfl⟩
        go_wp2
        go_round
        case rel => exact ⟨1, by omega, by go_num, by rw [hq''.out]⟩
        case measure => simp [intOf]
      · obtain ⟨t, ht⟩ : ∃ t, f (x / 256 % 256) = t := ⟨_, rfl⟩
        have hs := Lib.hid (show q ||| (t * 256) = q' from by rw [← hs, ← ht])
        have htn : t < 256 := by rw [← ht]; exact hf _
        have hti : (t : Int) < 256 := by omega
        have hor : bits .or .u32 (q : Int) ((t : Int) * 256) = (q' : Int) := by
          have e : ((t : Int) * 256) = ((t * 256 : Nat) : Int) := by omega
          rw [e, bits_or32 q (t * 256) (Nat.lt_trans hl (by decide)) (by omega), hs.out]
        have ht := Lib.hid ht
        have hl := Lib.hid hl
        have hle := Lib.hid hle
        have htn := Lib.hid htn
        have hq'' := Lib.hid hq'
        clear hq'
        go_wp2_with fail
        refine (cSub_of g F f h bm m _ t (x / 256 % 256) t _ hb (by have := hxn.out; omega) (Nat.mod_lt _ (by decide)) ht.out rfl).mono ?_; rintro e w' ⟨rfl, rfl⟩
        go_wp2
        go_round
        case rel => exact ⟨2, by omega, by go_num, by rw [hq''.out]⟩
        case measure => simp [intOf]
      · obtain ⟨t, ht⟩ : ∃ t, f (x / 65536 % 256) = t := ⟨_, rfl⟩
        have hs := Lib.hid (show q ||| (t * 65536) = q' from by rw [← hs, ← ht])
        have htn : t < 256 := by rw [← ht]; exact hf _
        have hti : (t : Int) < 256 := by omega
        have hor : bits .or .u32 (q : Int) ((t : Int) * 65536) = (q' : Int) := by
          have e : ((t : Int) * 65536) = ((t * 65536 : Nat) : Int) := by omega
          rw [e, bits_or32 q (t * 65536) (Nat.lt_trans hl (by decide)) (by omega), hs.out]
        have ht := Lib.hid ht
        have hl := Lib.hid hl
        have hle := Lib.hid hle
        have htn := Lib.hid htn
        have hq'' := Lib.hid hq'
        clear hq'
        go_wp2_with fail
        refine (cSub_of g F f h bm m _ t (x / 65536 % 256) t _ hb (by have := hxn.out; omega) (Nat.mod_lt _ (by decide)) ht.out rfl).mono ?_; rintro e w' ⟨rfl, rfl⟩
        go_wp2
        go_round
        case rel => exact ⟨3, by omega, by go_num, by rw [hq''.out]⟩
        case measure => simp [intOf]
      · obtain ⟨t, ht⟩ : ∃ t, f (x / 16777216 % 256) = t := ⟨_, rfl⟩
        have hs := Lib.hid (show q ||| (t * 16777216) = q' from by rw [← hs, ← ht])
        have htn : t < 256 := by rw [← ht]; exact hf _
        have hti : (t : Int) < 256 := by omega
        have hor : bits .or .u32 (q : Int) ((t : Int) * 16777216) = (q' : Int) := by
          have e : ((t : Int) * 16777216) = ((t * 16777216 : Nat) : Int) := by omega
          rw [e, bits_or32 q (t * 16777216) (Nat.lt_trans hl (by decide)) (by omega), hs.out]
        have ht := Lib.hid ht
        have hl := Lib.hid hl
        have hle := Lib.hid hle
        have htn := Lib.hid htn
        have hq'' := Lib.hid hq'
        clear hq'
        go_wp2_with fail
        refine (cSub_of g F f h bm m _ t (x / 16777216 % 256) t _ hb (by have := hxn.out; omega) (Nat.mod_lt _ (by decide)) ht.out rfl).mono ?_; rintro e w' ⟨rfl, rfl⟩
        go_wp2
        go_round
        case rel => exact ⟨4, by omega, by go_num, by rw [hq''.out]⟩
        case measure => simp [intOf]
    · obtain rfl : k = 4 := by omega
      go_wp2
      go_ret
      exact ⟨rfl, rfl⟩
end Go.Proofs.YtagacpjeooaapaaGreatDoor

/-
  Mix tells a column mixed, Unmix the column that is mixed to it: whatever bytes, new memory alone is written.
-/
namespace Go.Proofs.YtagacpjeooaapaaGreatDoor
open Go.RowKit

set_option maxRecDepth 100000 in
set_option maxHeartbeats 1600000 in
theorem cMix_any (c : Nat → Nat) (w : World) (hc : By c) :
    Calls Tryz.prog 75 #[.agg (rowN 4 c).toArray] w fun e w' => e = .returned (.agg (rowN 4 (mixc c)).toArray) ∧ Below w.heap.size w w' := by
  go_enter Tryz.func75, Tryz.ntmps75
  go_wp2_with (first
    | ((with_reducible refine wpList_box_blk rfl 163 (.tmp 0) rfl (rowN 4 c) ?_ ?_); rfl)
    | (with_reducible refine wpList_alloc_blk rfl 163 rfl zero4 ?_))
  obtain ⟨W0, hW0⟩ : ∃ W0, ((w.alloc (.cells (rowN 4 c).toArray 163)).alloc (.cells (rowN 4 zf).toArray 163)).alloc (.cells (rowN 4 zf).toArray 163) = W0 := ⟨_, rfl⟩
  obtain ⟨g, hg⟩ : ∃ g, w.heap.size = g := ⟨_, rfl⟩
  have hb0 : Blk W0 g 163 (rowN 4 c) := by rw [← hW0, ← hg]; exact ((Blk.new w _ _).alloc _).alloc _
  have hr0 : Blk W0 (g + 1) 163 (rowN 4 zf) := by rw [← hW0, ← hg]; exact (Blk.new1 w _ _ _).alloc _
  have ho0 : Blk W0 (g + 1 + 1) 163 (rowN 4 (upto 0 (mixc c) zf)) := by
    rw [upto_zero, ← hW0, ← hg, ← size2 w (.cells (rowN 4 c).toArray 163) (.cells (rowN 4 zf).toArray 163)]; exact Blk.new _ _ _
  have hB0 : Below g w W0 := by rw [← hW0, ← hg]; exact below3 w _ _ _
  rw [hW0, hg]
  clear hW0
  have hg := Lib.hid hg
  have hcc := Lib.hid hc
  clear hc
  go_loopw [9] (fun i wr => ∃ k : Nat, k ≤ 4 ∧ i = .int .i64 k ∧ Blk wr g 163 (rowN 4 c) ∧ Blk wr (g + 1) 163 (rowN 4 zf) ∧ Blk wr (g + 1 + 1) 163 (rowN 4 (upto k (mixc c) zf)) ∧ Below g w wr) (fun i _ => 4 - (intOf i).toNat)
  case atStart => exact ⟨0, by omega, rfl, hb0, hr0, ho0, hB0⟩
  case round =>
    obtain ⟨k, hk, rfl, hb, hr, ho, hB⟩ := hrel
    by_cases hlt : k < 4
    · have c0 := hb.cell 0
      have c1 := hb.cell 1
      have c2 := hb.cell 2
      have c3 := hb.cell 3
      rw [rowN_at 4 c 0 (by decide)] at c0
      rw [rowN_at 4 c 1 (by decide)] at c1
      rw [rowN_at 4 c 2 (by decide)] at c2
      rw [rowN_at 4 c 3 (by decide)] at c3
      obtain rfl | rfl | rfl | rfl : k = 0 ∨ k = 1 ∨ k = 2 ∨ k = 3 := by omega
      · have co := ho.cell 0
        rw [rowN_at 4 _ 0 (by decide)] at co
        have fo : wr.frozen? ⟨g + 1 + 1, 0, none⟩ = false := Blk.frozen ho 0
        have d1 : IntKind.i64.wrap 1 = 1 := by decide
        have d2 : IntKind.i64.wrap 2 = 2 := by decide
        have d3 : IntKind.i64.wrap 3 = 3 := by decide
        have m1 : (1 : Int).tmod 4 = 1 := by decide
        have m2 : (2 : Int).tmod 4 = 2 := by decide
        have m3 : (3 : Int).tmod 4 = 3 := by decide
        have h1 := fun v => fAdd_is (c 0 : Int) (c 1 : Int) (c 0 ^^^ c 1 : Nat) (c 0) (c 1) _ v rfl rfl (hcc.out _) (hcc.out _) rfl rfl
        have h2 := fun v => fTimes_is (c 0 ^^^ c 1 : Nat) (2 : Int) (tm (c 0 ^^^ c 1) 2 : Nat) (c 0 ^^^ c 1) 2 _ v rfl rfl (xor_256 (hcc.out _) (hcc.out _)) (by decide) rfl rfl
        have h3 := fun v => fAdd_is (c 2 : Int) (c 3 : Int) (c 2 ^^^ c 3 : Nat) (c 2) (c 3) _ v rfl rfl (hcc.out _) (hcc.out _) rfl rfl
        have h4 := fun v => fAdd_is (tm (c 0 ^^^ c 1) 2 : Nat) (c 1 : Int) (tm (c 0 ^^^ c 1) 2 ^^^ c 1 : Nat) _ _ _ v rfl rfl (tm_256 2 (xor_256 (hcc.out _) (hcc.out _))) (hcc.out _) rfl rfl
        have h5 := fun v => fAdd_is (tm (c 0 ^^^ c 1) 2 ^^^ c 1 : Nat) (c 2 ^^^ c 3 : Nat) (mixc c 0 : Nat) _ _ _ v rfl rfl (xor_256 (tm_256 2 (xor_256 (hcc.out _) (hcc.out _))) (hcc.out _)) (xor_256 (hcc.out _) (hcc.out _)) rfl rfl
        go_wp2_with fail
        refine wp_region_still_lit (by kernel_rfl) (by kernel_rfl) ?_
        repeat still_step
        refine wpStill_nil ?_
        change Exit.then _ _ _ _ wr.drew
        obtain ⟨v, hv, hD⟩ := Draws.one wr
        rw [hv]
        have hb := hD.blk hb
        have hr := hD.blk hr
        have ho := hD.blk ho
        have hB := hB.trans (hD.below g)
        have c0 := hD.cellW c0
        have c1 := hD.cellW c1
        have c2 := hD.cellW c2
        have c3 := hD.cellW c3
        have co := hD.cellW co
        have fo := hD.frozen fo
        have hset := (ho.set 0 (.int .u8 (mixc c 0 : Int)))
        rw [rowN_set 4 _ _ _ (by decide), upto_step _ _ _ _ rfl] at hset
        have hset := Lib.hid hset
        clear hv
        go_wp2_with fail
        refine (h1 _).mono ?_
        rintro e w' ⟨rfl, rfl⟩
        go_wp2_with fail
        refine (h2 _).mono ?_
        rintro e w' ⟨rfl, rfl⟩
        go_wp2_with fail
        refine wp_region_still_lit (by kernel_rfl) (by kernel_rfl) ?_
        repeat still_step
        still_call ((h3 _).mono fun _ _ h => ⟨h.1, h.2.symm⟩)
        repeat still_step
        refine wpStill_nil ?_
        go_wp2_with fail
        refine (h4 _).mono ?_
        rintro e w' ⟨rfl, rfl⟩
        go_wp2_with fail
        refine (h5 _).mono ?_
        rintro e w' ⟨rfl, rfl⟩
        go_wp2
        go_roundw
        case rel => exact ⟨1, by omega, by go_num, hb.far (p := ⟨g + 1 + 1, 0, none⟩) (by simp; omega) _, hr.far (p := ⟨g + 1 + 1, 0, none⟩) (by simp) _, hset.out, (hB.setCell (p := ⟨g + 1 + 1, 0, none⟩) (by simp; omega) _).drew⟩
        case measure => simp [intOf]
      · have co := ho.cell 1
        rw [rowN_at 4 _ 1 (by decide)] at co
        have fo : wr.frozen? ⟨g + 1 + 1, 1, none⟩ = false := Blk.frozen ho 1
        have d1 : IntKind.i64.wrap 2 = 2 := by decide
        have d2 : IntKind.i64.wrap 3 = 3 := by decide
        have d3 : IntKind.i64.wrap 4 = 4 := by decide
        have m1 : (2 : Int).tmod 4 = 2 := by decide
        have m2 : (3 : Int).tmod 4 = 3 := by decide
        have m3 : (4 : Int).tmod 4 = 0 := by decide
        have h1 := fun v => fAdd_is (c 1 : Int) (c 2 : Int) (c 1 ^^^ c 2 : Nat) (c 1) (c 2) _ v rfl rfl (hcc.out _) (hcc.out _) rfl rfl
        have h2 := fun v => fTimes_is (c 1 ^^^ c 2 : Nat) (2 : Int) (tm (c 1 ^^^ c 2) 2 : Nat) (c 1 ^^^ c 2) 2 _ v rfl rfl (xor_256 (hcc.out _) (hcc.out _)) (by decide) rfl rfl
        have h3 := fun v => fAdd_is (c 3 : Int) (c 0 : Int) (c 3 ^^^ c 0 : Nat) (c 3) (c 0) _ v rfl rfl (hcc.out _) (hcc.out _) rfl rfl
        have h4 := fun v => fAdd_is (tm (c 1 ^^^ c 2) 2 : Nat) (c 2 : Int) (tm (c 1 ^^^ c 2) 2 ^^^ c 2 : Nat) _ _ _ v rfl rfl (tm_256 2 (xor_256 (hcc.out _) (hcc.out _))) (hcc.out _) rfl rfl
        have h5 := fun v => fAdd_is (tm (c 1 ^^^ c 2) 2 ^^^ c 2 : Nat) (c 3 ^^^ c 0 : Nat) (mixc c 1 : Nat) _ _ _ v rfl rfl (xor_256 (tm_256 2 (xor_256 (hcc.out _) (hcc.out _))) (hcc.out _)) (xor_256 (hcc.out _) (hcc.out _)) rfl rfl
        go_wp2_with fail
        refine wp_region_still_lit (by kernel_rfl) (by kernel_rfl) ?_
        repeat still_step
        refine wpStill_nil ?_
        change Exit.then _ _ _ _ wr.drew
        obtain ⟨v, hv, hD⟩ := Draws.one wr
        rw [hv]
        have hb := hD.blk hb
        have hr := hD.blk hr
        have ho := hD.blk ho
        have hB := hB.trans (hD.below g)
        have c0 := hD.cellW c0
        have c1 := hD.cellW c1
        have c2 := hD.cellW c2
        have c3 := hD.cellW c3
        have co := hD.cellW co
        have fo := hD.frozen fo
        have hset := (ho.set 1 (.int .u8 (mixc c 1 : Int)))
        rw [rowN_set 4 _ _ _ (by decide), upto_step _ _ _ _ rfl] at hset
        have hset := Lib.hid hset
        clear hv
        go_wp2_with fail
        refine (h1 _).mono ?_
        rintro e w' ⟨rfl, rfl⟩
        go_wp2_with fail
        refine (h2 _).mono ?_
        rintro e w' ⟨rfl, rfl⟩
        go_wp2_with fail
        refine wp_region_still_lit (by kernel_rfl) (by kernel_rfl) ?_
        repeat still_step
        still_call ((h3 _).mono fun _ _ h => ⟨h.1, h.2.symm⟩)
        repeat still_step
        refine wpStill_nil ?_
        go_wp2_with fail
        refine (h4 _).mono ?_
        rintro e w' ⟨rfl, rfl⟩
        go_wp2_with fail
        refine (h5 _).mono ?_
        rintro e w' ⟨rfl, rfl⟩
        go_wp2
        go_roundw
        case rel => exact ⟨2, by omega, by go_num, hb.far (p := ⟨g + 1 + 1, 1, none⟩) (by simp; omega) _, hr.far (p := ⟨g + 1 + 1, 1, none⟩) (by simp) _, hset.out, (hB.setCell (p := ⟨g + 1 + 1, 1, none⟩) (by simp; omega) _).drew⟩
        case measure => simp [intOf]
      · have co := ho.cell 2
        rw [rowN_at 4 _ 2 (by decide)] at co
        have fo : wr.frozen? ⟨g + 1 + 1, 2, none⟩ = false := Blk.frozen ho 2
        have d1 : IntKind.i64.wrap 3 = 3 := by decide
        have d2 : IntKind.i64.wrap 4 = 4 := by decide
        have d3 : IntKind.i64.wrap 5 = 5 := by decide
        have m1 : (3 : Int).tmod 4 = 3 := by decide
        have m2 : (4 : Int).tmod 4 = 0 := by decide
        have m3 : (5 : Int).tmod 4 = 1 := by decide
        have h1 := fun v => fAdd_is (c 2 : Int) (c 3 : Int) (c 2 ^^^ c 3 : Nat) (c 2) (c 3) _ v rfl rfl (hcc.out _) (hcc.out _) rfl rfl
        have h2 := fun v => fTimes_is (c 2 ^^^ c 3 : Nat) (2 : Int) (tm (c 2 ^^^ c 3) 2 : Nat) (c 2 ^^^ c 3) 2 _ v rfl rfl (xor_256 (hcc.out _) (hcc.out _)) (by decide) rfl rfl
        have h3 := fun v => fAdd_is (c 0 : Int) (c 1 : Int) (c 0 ^^^ c 1 : Nat) (c 0) (c 1) _ v rfl rfl (hcc.out _) (hcc.out _) rfl rfl
        have h4 := fun v => fAdd_is (tm (c 2 ^^^ c 3) 2 : Nat) (c 3 : Int) (tm (c 2 ^^^ c 3) 2 ^^^ c 3 : Nat) _ _ _ v rfl rfl (tm_256 2 (xor_256 (hcc.out _) (hcc.out _))) (hcc.out _) rfl rfl
        have h5 := fun v => fAdd_is (tm (c 2 ^^^ c 3) 2 ^^^ c 3 : Nat) (c 0 ^^^ c 1 : Nat) (mixc c 2 : Nat) _ _ _ v rfl rfl (xor_256 (tm_256 2 (xor_256 (hcc.out _) (hcc.out _))) (hcc.out _)) (xor_256 (hcc.out _) (hcc.out _)) rfl rfl
        go_wp2_with fail
        refine wp_region_still_lit (by kernel_rfl) (by kernel_rfl) ?_
        repeat still_step
        refine wpStill_nil ?_
        change Exit.then _ _ _ _ wr.drew
        obtain ⟨v, hv, hD⟩ := Draws.one wr
        rw [hv]
        have hb := hD.blk hb
        have hr := hD.blk hr
        have ho := hD.blk ho
        have hB := hB.trans (hD.below g)
        have c0 := hD.cellW c0
        have c1 := hD.cellW c1
        have c2 := hD.cellW c2
        have c3 := hD.cellW c3
        have co := hD.cellW co
        have fo := hD.frozen fo
        have hset := (ho.set 2 (.int .u8 (mixc c 2 : Int)))
        rw [rowN_set 4 _ _ _ (by decide), upto_step _ _ _ _ rfl] at hset
        have hset := Lib.hid hset
        clear hv
        go_wp2_with fail
        refine (h1 _).mono ?_
        rintro e w' ⟨rfl, rfl⟩
        go_wp2_with fail
        refine (h2 _).mono ?_
        rintro e w' ⟨rfl, rfl⟩
        go_wp2_with fail
        refine wp_region_still_lit (by kernel_rfl) (by kernel_rfl) ?_
        repeat still_step
        still_call ((h3 _).mono fun _ _ h => ⟨h.1, h.2.symm⟩)
        repeat still_step
        refine wpStill_nil ?_
        go_wp2_with fail
        refine (h4 _).mono ?_
        rintro e w' ⟨rfl, rfl⟩
        go_wp2_with fail
        refine (h5 _).mono ?_
        rintro e w' ⟨rfl, rfl⟩
        go_wp2
        go_roundw
        case rel => exact ⟨3, by omega, by go_num, hb.far (p := ⟨g + 1 + 1, 2, none⟩) (by simp; omega) _, hr.far (p := ⟨g + 1 + 1, 2, none⟩) (by simp) _, hset.out, (hB.setCell (p := ⟨g + 1 + 1, 2, none⟩) (by simp; omega) _).drew⟩
        case measure => simp [intOf]
      · have co := ho.cell 3
        rw [rowN_at 4 _ 3 (by decide)] at co
        have fo : wr.frozen? ⟨g + 1 + 1, 3, none⟩ = false := Blk.frozen ho 3
        have d1 : IntKind.i64.wrap 4 = 4 := by decide
        have d2 : IntKind.i64.wrap 5 = 5 := by decide
        have d3 : IntKind.i64.wrap 6 = 6 := by decide
        have m1 : (4 : Int).tmod 4 = 0 := by decide
        have m2 : (5 : Int).tmod 4 = 1 := by decide
        have m3 : (6 : Int).tmod 4 = 2 := by decide
        have h1 := fun v => fAdd_is (c 3 : Int) (c 0 : Int) (c 3 ^^^ c 0 : Nat) (c 3) (c 0) _ v rfl rfl (hcc.out _) (hcc.out _) rfl rfl
        have h2 := fun v => fTimes_is (c 3 ^^^ c 0 : Nat) (2 : Int) (tm (c 3 ^^^ c 0) 2 : Nat) (c 3 ^^^ c 0) 2 _ v rfl rfl (xor_256 (hcc.out _) (hcc.out _)) (by decide) rfl rfl
        have h3 := fun v => fAdd_is (c 1 : Int) (c 2 : Int) (c 1 ^^^ c 2 : Nat) (c 1) (c 2) _ v rfl rfl (hcc.out _) (hcc.out _) rfl rfl
        have h4 := fun v => fAdd_is (tm (c 3 ^^^ c 0) 2 : Nat) (c 0 : Int) (tm (c 3 ^^^ c 0) 2 ^^^ c 0 : Nat) _ _ _ v rfl rfl (tm_256 2 (xor_256 (hcc.out _) (hcc.out _))) (hcc.out _) rfl rfl
        have h5 := fun v => fAdd_is (tm (c 3 ^^^ c 0) 2 ^^^ c 0 : Nat) (c 1 ^^^ c 2 : Nat) (mixc c 3 : Nat) _ _ _ v rfl rfl (xor_256 (tm_256 2 (xor_256 (hcc.out _) (hcc.out _))) (hcc.out _)) (xor_256 (hcc.out _) (hcc.out _)) rfl rfl
        go_wp2_with fail
        refine wp_region_still_lit (by kernel_rfl) (by kernel_rfl) ?_
        repeat still_step
        refine wpStill_nil ?_
        change Exit.then _ _ _ _ wr.drew
        obtain ⟨v, hv, hD⟩ := Draws.one wr
        rw [hv]
        have hb := hD.blk hb
        have hr := hD.blk hr
        have ho := hD.blk ho
        have hB := hB.trans (hD.below g)
        have c0 := hD.cellW c0
        have c1 := hD.cellW c1
        have c2 := hD.cellW c2
        have c3 := hD.cellW c3
        have co := hD.cellW co
        have fo := hD.frozen fo
        have hset := (ho.set 3 (.int .u8 (mixc c 3 : Int)))
        rw [rowN_set 4 _ _ _ (by decide), upto_step _ _ _ _ rfl] at hset
        have hset := Lib.hid hset
        clear hv
        go_wp2_with fail
        refine (h1 _).mono ?_
        rintro e w' ⟨rfl, rfl⟩
        go_wp2_with fail
        refine (h2 _).mono ?_
        rintro e w' ⟨rfl, rfl⟩
        go_wp2_with fail
        refine wp_region_still_lit (by kernel_rfl) (by kernel_rfl) ?_
        repeat still_step
        still_call ((h3 _).mono fun _ _ h => ⟨h.1, h.2.symm⟩)
        repeat still_step
        refine wpStill_nil ?_
        go_wp2_with fail
        refine (h4 _).mono ?_
        rintro e w' ⟨rfl, rfl⟩
        go_wp2_with fail
        refine (h5 _).mono ?_
        rintro e w' ⟨rfl, rfl⟩
        go_wp2
        go_roundw
        case rel => exact ⟨4, by omega, by go_num, hb.far (p := ⟨g + 1 + 1, 3, none⟩) (by simp; omega) _, hr.far (p := ⟨g + 1 + 1, 3, none⟩) (by simp) _, hset.out, (hB.setCell (p := ⟨g + 1 + 1, 3, none⟩) (by simp; omega) _).drew⟩
        case measure => simp [intOf]
    · obtain rfl : k = 4 := by omega
      have ho : Blk wr (g + 1 + 1) 163 (rowN 4 (mixc c)) := ho.cast (rowN_congr (upto_all 4 (mixc c) zf))
      have HI := row4 (mixc c)
      have HF := Lib.hid (fit4 zf (mixc c))
      have H1 := Lib.hid (rowN_one 4 (mixc c))
      go_wp2_with (first
        | ((with_reducible refine wpList_load_blk rfl 163 (.tmp 3) rfl ?_ ho row4' (rowN_len 4 _) ?_); rfl)
        | ((with_reducible refine wpList_store_part rfl 163 (.tmp 2) (.tmp 43) rfl ?_ ?_ hr HI HF.out H1.out ?_); rfl; rfl; intro w9 hR9 hg9))
      rw [over4] at hR9
      (try simp only [Exit.inBlock, Exit.then])
      refine bodyPost_ret (results_blk rfl rfl hR9 HI) rfl ?_
      refine ⟨rfl, ?_⟩
      rw [hg.out]
      exact hB.trans (below_of_grown hg9 (by omega) hr.lt)
end Go.Proofs.YtagacpjeooaapaaGreatDoor

/-
  A block's sum with another, its rows turned, its bytes substituted, its columns mixed or unmixed: what package cipher's inner calls come to; new memory alone is written.
-/
namespace Go.Proofs.YtagacpjeooaapaaGreatDoor
open Go.RowKit

set_option maxRecDepth 100000 in
set_option maxHeartbeats 1600000 in
theorem cSum_any (a b : Nat → Nat) (w : World) (ha : By a) (hb : By b) :
    Calls Tryz.prog 70 #[.agg (rowN 16 a).toArray, .agg (rowN 16 b).toArray] w fun e w' => e = .returned (.agg (rowN 16 (bAdd a b)).toArray) ∧ Below w.heap.size w w' := by
  go_enter Tryz.func70, Tryz.ntmps70
  go_wp2_with (first
    | ((with_reducible refine wpList_box_blk rfl 90 (.tmp 0) rfl (rowN 16 a) ?_ ?_); rfl)
    | ((with_reducible refine wpList_box_blk rfl 90 (.tmp 1) rfl (rowN 16 b) ?_ ?_); rfl)
    | (with_reducible refine wpList_alloc_blk rfl 90 rfl zero16 ?_))
  obtain ⟨W0, hW0⟩ : ∃ W0, ((w.alloc (.cells (rowN 16 a).toArray 90)).alloc (.cells (rowN 16 b).toArray 90)).alloc (.cells (rowN 16 zf).toArray 90) = W0 := ⟨_, rfl⟩
  obtain ⟨g, hg⟩ : ∃ g, w.heap.size = g := ⟨_, rfl⟩
  have hx0 : Blk W0 g 90 (rowN 16 (upto 0 (bAdd a b) a)) := by rw [upto_zero, ← hW0, ← hg]; exact ((Blk.new w _ _).alloc _).alloc _
  have hy0 : Blk W0 (g + 1) 90 (rowN 16 b) := by rw [← hW0, ← hg]; exact (Blk.new1 w _ _ _).alloc _
  have hr0 : Blk W0 (g + 1 + 1) 90 (rowN 16 zf) := by
    rw [← hW0, ← hg, ← size2 w (.cells (rowN 16 a).toArray 90) (.cells (rowN 16 b).toArray 90)]; exact Blk.new _ _ _
  have hB0 : Below g w W0 := by rw [← hW0, ← hg]; exact below3 w _ _ _
  rw [hW0, hg]
  clear hW0
  have hg := Lib.hid hg
  have ha := Lib.hid ha
  have hb := Lib.hid hb
  go_loopw [6] (fun i wr => ∃ k : Nat, k ≤ 16 ∧ i = .int .i64 k ∧ Blk wr g 90 (rowN 16 (upto k (bAdd a b) a)) ∧ Blk wr (g + 1) 90 (rowN 16 b) ∧ Blk wr (g + 1 + 1) 90 (rowN 16 zf) ∧ Below g w wr) (fun i _ => 16 - (intOf i).toNat)
  case atStart => exact ⟨0, by omega, rfl, hx0, hy0, hr0, hB0⟩
  case round =>
    obtain ⟨k, hk, rfl, hx, hy, hr, hB⟩ := hrel
    by_cases hlt : k < 16
    · obtain ⟨v, hv, hD⟩ := Draws.one wr
      have hx := hD.blk hx
      have hy := hD.blk hy
      have hr := hD.blk hr
      have hB := hB.trans (hD.below g)
      have cx := hx.cell k
      have cy := hy.cell k
      rw [rowN_at 16 _ k hlt, upto_at] at cx
      rw [rowN_at 16 _ k hlt] at cy
      have fx : v.frozen? ⟨g, k, none⟩ = false := Blk.frozen hx k
      have hset := hx.set k (.int .u8 (bAdd a b k : Nat))
      rw [rowN_set 16 _ _ _ hlt, upto_step _ _ _ _ rfl] at hset
      have hset := Lib.hid hset
      have h1 := fun v => fAdd_is (a k : Int) (b k : Int) (bAdd a b k : Nat) (a k) (b k) _ v rfl rfl (ha.out _) (hb.out _) rfl rfl
      have hki : (k : Int) < 16 := by omega
      have hle := Lib.hid hlt
      clear hlt hk
      go_wp2_with fail
      refine wp_region_still_tail 9 (by kernel_rfl) (by decide +kernel) ?_
      simp only [List.take_succ_cons, List.take_zero, List.drop_succ_cons, List.drop_zero]
      change wpStill _ _ wr.drew _ _ _
      rw [hv]
      repeat still_step
      still_call ((h1 _).mono fun _ _ h => ⟨h.1, h.2.symm⟩)
      repeat still_step
      refine wpStill_nil ?_
      change wpList _ _ _ _ _ wr.drew
      rw [hv]
      clear hv
      go_wp2
      go_roundw
      case rel => exact ⟨k + 1, by have := hle.out; omega, by go_num, hset.out, hy.far (p := ⟨g, k, none⟩) (by simp) _, hr.far (p := ⟨g, k, none⟩) (by simp; omega) _, hB.setCell (p := ⟨g, k, none⟩) (Nat.le_refl _) _⟩
      case measure => have := hle.out; simp [intOf]; omega
    · obtain rfl : k = 16 := by omega
      have hx : Blk wr _ 90 (rowN 16 (bAdd a b)) := hx.cast (rowN_congr (upto_all 16 (bAdd a b) a))
      have HI := row16 (bAdd a b)
      have HF := Lib.hid (fit16 zf (bAdd a b))
      have H1 := Lib.hid (rowN_one 16 (bAdd a b))
      go_wp2_with (first
        | ((with_reducible refine wpList_load_blk rfl 90 (.tmp 2) rfl ?_ hx row16' (rowN_len 16 _) ?_); rfl)
        | ((with_reducible refine wpList_store_part rfl 90 (.tmp 4) (.tmp 19) rfl ?_ ?_ hr HI HF.out H1.out ?_); rfl; rfl; intro w9 hR9 hg9))
      rw [over16] at hR9
      (try simp only [Exit.inBlock, Exit.then])
      refine bodyPost_ret (results_blk rfl rfl hR9 HI) rfl ?_
      refine ⟨rfl, ?_⟩
      rw [hg.out]
      exact hB.trans (below_of_grown hg9 (by omega) hr.lt)
end Go.Proofs.YtagacpjeooaapaaGreatDoor

/-
  A block's bytes substituted by the box of a cipher, forth and back: what the call comes to; new memory alone is written.
-/
namespace Go.Proofs.YtagacpjeooaapaaGreatDoor
open Go.RowKit

set_option maxRecDepth 100000 in
set_option maxHeartbeats 1000000 in
theorem cSubst_sub (b : Nat → Nat) (q : Nat) (F f h : Nat → Nat) (bm m : Bool) (w : World) (hb : By b) (hC : CiAt w q F f h bm m) :
    Calls Tryz.prog 72 #[.agg (rowN 16 b).toArray, .func (.func 73) #[.pointer (some ⟨q, 240, none⟩)] #[]] w fun e w' => e = .returned (.agg (rowN 16 (bSb f b)).toArray) ∧ Below w.heap.size w w' := by
  go_enter Tryz.func72, Tryz.ntmps72
  have hb0 : ∀ o, Blk ((w.alloc (.cells (rowN 16 b).toArray 90)).alloc o) w.heap.size 90 (rowN 16 b) := fun o => (Blk.new w _ _).alloc _
  go_wp2_with (first
    | ((with_reducible refine wpList_box_blk rfl 90 (.tmp 0) rfl (rowN 16 b) ?_ ?_); rfl)
    | (with_reducible refine wpList_alloc_blk rfl 90 rfl zero16 ?_)
    | ((with_reducible refine wpList_load_blk rfl 90 (.tmp 2) rfl ?_ (hb0 _) row16' (rowN_len 16 _) ?_); rfl))
  obtain ⟨W0, hW0⟩ : ∃ W0, (w.alloc (.cells (rowN 16 b).toArray 90)).alloc (.cells (rowN 16 zf).toArray 90) = W0 := ⟨_, rfl⟩
  obtain ⟨g, hg⟩ : ∃ g, w.heap.size = g := ⟨_, rfl⟩
  have hx0 : Blk W0 g 90 (rowN 16 (upto 0 (bSb f b) b)) := by rw [upto_zero, ← hW0, ← hg]; exact (Blk.new w _ _).alloc _
  have hr0 : Blk W0 (g + 1) 90 (rowN 16 zf) := by rw [← hW0, ← hg]; exact Blk.new1 w _ _ _
  have hB0 : Below g w W0 := by rw [← hW0, ← hg]; exact below2 w _ _
  have hql : q < g := by rw [← hg]; exact Blk.lt hC
  rw [hW0, hg]
  clear hW0 hb0
  have hg := Lib.hid hg
  have hql := Lib.hid hql
  have hb := Lib.hid hb
  have hC := Lib.hid hC
  go_loopw [8] (fun i wr => ∃ k : Nat, k ≤ 16 ∧ i = .int .i64 k ∧ Blk wr g 90 (rowN 16 (upto k (bSb f b) b)) ∧ Blk wr (g + 1) 90 (rowN 16 zf) ∧ Below g w wr) (fun i _ => 16 - (intOf i).toNat)
  case atStart => exact ⟨0, by omega, rfl, hx0, hr0, hB0⟩
  case round =>
    obtain ⟨k, hk, rfl, hx, hr, hB⟩ := hrel
    by_cases hlt : k < 16
    · have cx := hx.cell k
      rw [rowN_at 16 _ k hlt, upto_at] at cx
      have fx : wr.frozen? ⟨g, k, none⟩ = false := Blk.frozen hx k
      have hset := hx.set k (.int .u8 (bSb f b k : Nat))
      rw [rowN_set 16 _ _ _ hlt, upto_step _ _ _ _ rfl] at hset
      have hset := Lib.hid hset
      have hat := fun wx => run_index_row (P := Tryz.prog) 90 5 16 Tryz.underlying90 (by kernel_rfl) (by kernel_rfl) (rowN 16 b).toArray .i64 k hlt (.int .u8 (b k : Int)) (by simpa using rowN_at 16 b k hlt) wx
      have hki : (k : Int) < 16 := by omega
      have hle := Lib.hid hlt
      have hCr := Lib.hid (show CiAt wr q F f h bm m from Blk.keep hC.out hB hql.out)
      clear hlt hk
      go_wp2_with fail
      refine (cSub_any q F f h bm m (b k) _ hCr.out (hb.out k)).mono ?_
      rintro e w' ⟨rfl, rfl⟩
      go_wp2
      go_roundw
      case rel => exact ⟨k + 1, by have := hle.out; omega, by go_num, hset.out, hr.far (p := ⟨g, k, none⟩) (by simp) _, hB.setCell (p := ⟨g, k, none⟩) (Nat.le_refl _) _⟩
      case measure => have := hle.out; simp [intOf]; omega
    · obtain rfl : k = 16 := by omega
      have hx : Blk wr _ 90 (rowN 16 (bSb f b)) := hx.cast (rowN_congr (upto_all 16 (bSb f b) b))
      have HI := row16 (bSb f b)
      have HF := Lib.hid (fit16 zf (bSb f b))
      have H1 := Lib.hid (rowN_one 16 (bSb f b))
      go_wp2_with (first
        | ((with_reducible refine wpList_load_blk rfl 90 (.tmp 2) rfl ?_ hx row16' (rowN_len 16 _) ?_); rfl)
        | ((with_reducible refine wpList_store_part rfl 90 (.tmp 4) (.tmp 18) rfl ?_ ?_ hr HI HF.out H1.out ?_); rfl; rfl; intro w9 hR9 hg9))
      rw [over16] at hR9
      (try simp only [Exit.inBlock, Exit.then])
      refine bodyPost_ret (results_blk rfl rfl hR9 HI) rfl ?_
      refine ⟨rfl, ?_⟩
      rw [hg.out]
      exact hB.trans (below_of_grown hg9 (by omega) hr.lt)
end Go.Proofs.YtagacpjeooaapaaGreatDoor

/-
  A block's rows turned: what the call comes to; new memory alone is written.
-/
namespace Go.Proofs.YtagacpjeooaapaaGreatDoor
open Go.RowKit

theorem quo4 (k q : Nat) (h : k / 4 = q) : (k : Int).tdiv 4 = (q : Int) ∧ (k : Int) / 4 = (q : Int) := by
  subst h
  exact ⟨Int.ofNat_tdiv k 4, (Int.natCast_ediv k 4).symm⟩
theorem rem4 (k q : Nat) (h : k % 4 = q) : (k : Int).tmod 4 = (q : Int) ∧ (k : Int) % 4 = (q : Int) := by
  subst h
  exact ⟨Int.ofNat_tmod k 4, (Int.natCast_emod k 4).symm⟩
theorem tix_arith (q r m s x : Nat) (hm : m < 16) (hq : q < 4) (hr : r < 4) (hs : (q + m) % 4 = s) (hx : x = s * 4 + r) :
    (((q : Int) + (m : Int)).tmod 4 = (s : Int) ∧ ((q : Int) + (m : Int)) % 4 = (s : Int)) ∧ (s : Int) * 4 + (r : Int) = (x : Int) ∧ wrap64 (m : Int) = (m : Int) ∧ wrap64 ((q : Int) + (m : Int)) = (q : Int) + (m : Int) ∧ wrap64 ((s : Int) * 4) = (s : Int) * 4 ∧ wrap64 (x : Int) = (x : Int) ∧ (x : Int) < 16 := by
  have h4 : s < 4 := by rw [← hs]; exact Nat.mod_lt _ (by decide)
  have h16 : x < 16 := by omega
  refine ⟨?_, by omega, w64' _ (by omega) (by omega), w64' _ (by omega) (by omega), w64' _ (by omega) (by omega), w64' _ (by omega) (by omega), by omega⟩
  rw [← Int.natCast_add]
  exact rem4 (q + m) s hs

set_option maxRecDepth 100000 in
set_option maxHeartbeats 400000 in
theorem cTurned_any (b : Nat → Nat) (t : Nat) (w : World) (ht : t < 4) :
    Calls Tryz.prog 71 #[.agg (rowN 16 b).toArray, .int .i64 (t : Int)] w fun e w' => e = .returned (.agg (rowN 16 (bTurn t b)).toArray) ∧ Below w.heap.size w w' := by
  go_enter Tryz.func71, Tryz.ntmps71
  go_wp2_with (first
    | ((with_reducible refine wpList_box_blk rfl 90 (.tmp 0) rfl (rowN 16 b) ?_ ?_); rfl)
    | (with_reducible refine wpList_alloc_blk rfl 90 rfl zero16 ?_))
  obtain ⟨W0, hW0⟩ : ∃ W0, ((w.alloc (.cells (rowN 16 b).toArray 90)).alloc (.cells (rowN 16 zf).toArray 90)).alloc (.cells (rowN 16 zf).toArray 90) = W0 := ⟨_, rfl⟩
  obtain ⟨g, hg⟩ : ∃ g, w.heap.size = g := ⟨_, rfl⟩
  have hy0 : Blk W0 g 90 (rowN 16 b) := by rw [← hW0, ← hg]; exact ((Blk.new w _ _).alloc _).alloc _
  have hr0 : Blk W0 (g + 1) 90 (rowN 16 zf) := by rw [← hW0, ← hg]; exact (Blk.new1 w _ _ _).alloc _
  have hx0 : Blk W0 (g + 1 + 1) 90 (rowN 16 (upto 0 (bTurn t b) zf)) := by
    rw [upto_zero, ← hW0, ← hg, ← size2 w (.cells (rowN 16 b).toArray 90) (.cells (rowN 16 zf).toArray 90)]; exact Blk.new _ _ _
  have hB0 : Below g w W0 := by rw [← hW0, ← hg]; exact below3 w _ _ _
  rw [hW0, hg]
  clear hW0
  have hg := Lib.hid hg
  have ht := Lib.hid ht
  go_loopw [9] (fun i wr => ∃ k : Nat, k ≤ 16 ∧ i = .int .i64 k ∧ Blk wr (g + 1 + 1) 90 (rowN 16 (upto k (bTurn t b) zf)) ∧ Blk wr g 90 (rowN 16 b) ∧ Blk wr (g + 1) 90 (rowN 16 zf) ∧ Below g w wr) (fun i _ => 16 - (intOf i).toNat)
  case atStart => exact ⟨0, by omega, rfl, hx0, hy0, hr0, hB0⟩
  case round =>
    obtain ⟨k, hk, rfl, hx, hy, hr, hB⟩ := hrel
    by_cases hlt : k < 16
    · have cx := hx.cell k
      have cy := hy.cell (tIx t k)
      rw [rowN_at 16 _ k hlt, upto_at] at cx
      rw [rowN_at 16 _ _ (tIx_lt t k)] at cy
      have fx : wr.frozen? ⟨g + 1 + 1, k, none⟩ = false := Blk.frozen hx k
      have hset := hx.set k (.int .u8 (bTurn t b k : Nat))
      rw [rowN_set 16 _ _ _ hlt, upto_step _ _ _ _ rfl] at hset
      have hki : (k : Int) < 16 := by omega
      have hle := Lib.hid hlt
      obtain ⟨x, hxx⟩ : ∃ x, tIx t k = x := ⟨_, rfl⟩
      have htt := ht.out
      obtain ⟨q, hq⟩ : ∃ q, k / 4 = q := ⟨_, rfl⟩
      obtain ⟨r, hr'⟩ : ∃ r, k % 4 = r := ⟨_, rfl⟩
      obtain ⟨m, hm⟩ : ∃ m, r * t = m := ⟨_, rfl⟩
      have hmm : m < 16 := by
        have : r * t ≤ 3 * 3 := Nat.mul_le_mul (by omega) (by omega)
        omega
      have hmi : (r : Int) * (t : Int) = (m : Int) := by rw [← hm]; exact (Int.natCast_mul _ _).symm
      obtain ⟨s, hs⟩ : ∃ s, (q + m) % 4 = s := ⟨_, rfl⟩
      have hxe : x = s * 4 + r := by rw [← hxx, ← hs, ← hm, ← hr', ← hq, tIx]
      rw [hxx] at cy
      rw [show bTurn t b k = b x by rw [← hxx]; rfl] at hset
      have hset := Lib.hid hset
      obtain ⟨q1, q2⟩ := quo4 k q hq
      obtain ⟨q3, q4⟩ := rem4 k r hr'
      obtain ⟨⟨q5, q6⟩, q7, w1, w2, w3, w4, x1⟩ := tix_arith q r m s x hmm (by clear q1 q2 q3 q4 hmi hxe hs hmm; omega) (by clear q1 q2 q3 q4 hmi hxe hs hmm; omega) hs hxe
      clear hs hq hr' hxe hm hmm hxx
      clear hlt hk htt
      have hX : wrap64 (wrap64 ((wrap64 ((k : Int) / 4 + wrap64 ((k : Int) % 4 * (t : Int)))).tmod 4 * 4) + (k : Int) % 4) = (x : Int) := by
        rw [q2, q4, hmi, w1, w2, q5, w3, q7, w4]
      clear q1 q2 q3 q4 q5 q6 q7 w1 w2 w3 w4 hmi
      go_wp2
      go_roundw
      case rel => exact ⟨k + 1, by have := hle.out; omega, by go_num, hset.out, hy.far (p := ⟨g + 1 + 1, k, none⟩) (by simp; omega) _, hr.far (p := ⟨g + 1 + 1, k, none⟩) (by simp) _, hB.setCell (p := ⟨g + 1 + 1, k, none⟩) (by simp; omega) _⟩
      case measure => have := hle.out; simp [intOf]; omega
    · obtain rfl : k = 16 := by omega
      have hx : Blk wr _ 90 (rowN 16 (bTurn t b)) := hx.cast (rowN_congr (upto_all 16 (bTurn t b) zf))
      have HI := row16 (bTurn t b)
      have HF := Lib.hid (fit16 zf (bTurn t b))
      have H1 := Lib.hid (rowN_one 16 (bTurn t b))
      go_wp2_with (first
        | ((with_reducible refine wpList_load_blk rfl 90 (.tmp 5) rfl ?_ hx row16' (rowN_len 16 _) ?_); rfl)
        | ((with_reducible refine wpList_store_part rfl 90 (.tmp 4) (.tmp 30) rfl ?_ ?_ hr HI HF.out H1.out ?_); rfl; rfl; intro w9 hR9 hg9))
      rw [over16] at hR9
      (try simp only [Exit.inBlock, Exit.then])
      refine bodyPost_ret (results_blk rfl rfl hR9 HI) rfl ?_
      refine ⟨rfl, ?_⟩
      rw [hg.out]
      exact hB.trans (below_of_grown hg9 (by omega) hr.lt)
end Go.Proofs.YtagacpjeooaapaaGreatDoor

/-
  A block's columns, each replaced: mixed, or unmixed; new memory alone is written.
-/
namespace Go.Proofs.YtagacpjeooaapaaGreatDoor
open Go.RowKit

theorem over_upto (k : Nat) (hk : k < 4) (F b c : Nat → Nat) (h : ∀ j, j < 4 → c j = F (4 * k + j)) : overV (rowN 16 (upto (4 * k) F b)) (4 * k) (rowN 4 c) = rowN 16 (upto (4 * (k + 1)) F b) := by
  apply List.ext_getElem?
  intro j
  unfold overV
  by_cases h16 : j < 16
  · rw [rowN_at 16 _ j h16]
    have hlt : (List.take (4 * k) (rowN 16 (upto (4 * k) F b))).length = 4 * k := by rw [List.length_take, rowN_len]; omega
    by_cases h1 : j < 4 * k
    · rw [List.getElem?_append_left (by rw [hlt]; exact h1), List.getElem?_take_of_lt h1, rowN_at 16 _ j h16]
      simp only [upto, if_pos h1, if_pos (show j < 4 * (k + 1) by omega)]
    · rw [List.getElem?_append_right (by rw [hlt]; omega), hlt]
      by_cases h2 : j - 4 * k < 4
      · rw [List.getElem?_append_left (by rw [rowN_len]; exact h2), rowN_at 4 _ _ h2, h _ h2]
        simp only [upto, if_pos (show j < 4 * (k + 1) by omega)]
        rw [show 4 * k + (j - 4 * k) = j by omega]
      · rw [List.getElem?_append_right (by rw [rowN_len]; omega), rowN_len, List.getElem?_drop, show 4 * k + 4 + (j - 4 * k - 4) = j by omega, rowN_at 16 _ j h16]
        simp only [upto, if_neg h1, if_neg (show ¬ j < 4 * (k + 1) by omega)]
  · rw [List.getElem?_eq_none (l := rowN 16 (upto (4 * (k + 1)) F b)) (by rw [rowN_len]; omega), List.getElem?_eq_none]
    simp only [List.length_append, List.length_take, List.length_drop, rowN_len]
    omega
theorem part_col {w : World} {g : Nat} {t : TypeId} (k : Nat) (hk : k < 4) (F b : Nat → Nat) (h : Blk w g t (rowN 16 (upto (4 * k) F b))) : w.rangeAt g (4 * k) (rowN 4 (colOf b k)) := by
  refine h.range (4 * k) _ fun j v hj => ?_
  by_cases h4 : j < 4
  · rw [rowN_at 4 _ j h4] at hj
    rw [rowN_at 16 _ _ (by omega), ← hj]
    simp only [upto, if_neg (show ¬ 4 * k + j < 4 * k by omega), colOf]
  · rw [List.getElem?_eq_none (by rw [rowN_len]; omega)] at hj
    cases hj
theorem colCopy {w : World} {p g off d : Nat} (c : Nat → Nat) (hp : Blk w p 163 (rowN 4 c)) (hd : 4 ≤ d) (hf : off + 4 ≤ 16) : CopyFits w (some ⟨g, off, none⟩) (some ⟨p, 0, none⟩) 4 d g off 16 (rowN 4 c) := by
  refine ⟨by rw [rowN_len]; show 4 = Nat.min 4 d; exact (Nat.min_eq_left hd).symm, fun _ => ⟨rfl, _, rfl, fun j v hj => ?_⟩, by rw [rowN_len]; exact hf, rowN_one 4 c⟩
  rw [Addr.add_mid, Nat.zero_add, hp.cell]
  exact hj
/-- A slice's first cells as an array. -/
theorem run_array_at {P : Program} (ty e : TypeId) (n : Nat) (hu : P.underlying ty = some (.array n e)) (A : Option Addr) (len cap : Nat) (hn : n ≤ len) (w : World) :
    (Instr.arrayAt ty (.slice A len cap)).run P w = .ok (.pointer A) w := by
  simp [Instr.arrayAt, run_underlying hu, Nat.not_lt.2 hn]
theorem sizeU8' : (Tryz.prog.info? 5).map (·.size) = some 1 := by kernel_rfl

set_option maxRecDepth 100000 in
set_option maxHeartbeats 1000000 in
theorem cCols_mix (b : Nat → Nat) (w : World) (hb : By b) :
    Calls Tryz.prog 74 #[.agg (rowN 16 b).toArray, .func (.func 75) #[] #[]] w fun e w' => e = .returned (.agg (rowN 16 (bCols mixc b)).toArray) ∧ Below w.heap.size w w' := by
  go_enter Tryz.func74, Tryz.ntmps74
  go_wp2_with (first
    | ((with_reducible refine wpList_box_blk rfl 90 (.tmp 0) rfl (rowN 16 b) ?_ ?_); rfl)
    | (with_reducible refine wpList_alloc_blk rfl 90 rfl zero16 ?_))
  obtain ⟨W0, hW0⟩ : ∃ W0, (w.alloc (.cells (rowN 16 b).toArray 90)).alloc (.cells (rowN 16 zf).toArray 90) = W0 := ⟨_, rfl⟩
  obtain ⟨g, hg⟩ : ∃ g, w.heap.size = g := ⟨_, rfl⟩
  have hx0 : Blk W0 g 90 (rowN 16 (upto (4 * 0) (bCols mixc b) b)) := by rw [upto_zero, ← hW0, ← hg]; exact (Blk.new w _ _).alloc _
  have hr0 : Blk W0 (g + 1) 90 (rowN 16 zf) := by rw [← hW0, ← hg]; exact Blk.new1 w _ _ _
  have hB0 : Below g w W0 := by rw [← hW0, ← hg]; exact below2 w _ _
  rw [hW0, hg]
  clear hW0
  have hg := Lib.hid hg
  have hb := Lib.hid hb
  go_loopw [5] (fun i wr => ∃ k : Nat, k ≤ 4 ∧ i = .int .i64 (4 * k : Nat) ∧ Blk wr g 90 (rowN 16 (upto (4 * k) (bCols mixc b) b)) ∧ Blk wr (g + 1) 90 (rowN 16 zf) ∧ Below g w wr) (fun i _ => 16 - (intOf i).toNat)
  case atStart => exact ⟨0, by omega, rfl, hx0, hr0, hB0⟩
  case round =>
    obtain ⟨k, hk, rfl, hx, hr, hB⟩ := hrel
    by_cases hlt : k < 4
    · obtain rfl | rfl | rfl | rfl : k = 0 ∨ k = 1 ∨ k = 2 ∨ k = 3 := by omega
      · have hpart := part_col 0 (by decide) (bCols mixc b) b hx
        have hby := Lib.hid (show By (colOf b 0) from fun _ => hb.out _)
        have hIr := row4 (colOf b 0)
        have e1 : wrap64 (0 + 4) = 4 := by unfold wrap64; decide
        have hat := fun cap v => run_array_at (P := Tryz.prog) 163 5 4 Tryz.underlying163 (some ⟨g, 0, none⟩) 4 cap (by decide) v
        go_wp2_with ((with_reducible refine wpList_load_part rfl 163 (.tmp 16) rfl ?_ (rowN 4 (colOf b 0)) hpart hIr ?_); rfl)
        refine (cMix_any (colOf b 0) _ hby.out).mono ?_
        rintro e w1 ⟨rfl, h1⟩
        have hgl := hx.lt
        have hx := hx.keep h1 hx.lt
        have hr := hr.keep h1 hr.lt
        have hB1 := hB.trans (h1.mono (Nat.le_of_lt hgl))
        have hsz1 := h1.size
        clear h1 hpart
        have hcol := Blk.new w1 163 (rowN 4 zf)
        have HI := row4 (mixc (colOf b 0))
        have HF := Lib.hid (fit4 zf (mixc (colOf b 0)))
        have H1 := Lib.hid (rowN_one 4 (mixc (colOf b 0)))
        go_wp2_with (first
          | (with_reducible refine wpList_alloc_blk rfl 163 rfl zero4 ?_)
          | ((with_reducible refine wpList_store_part (cs := rowN 4 (mixc (colOf b 0))) rfl 163 (.tmp 6) (.tmp 18) rfl ?_ ?_ hcol HI HF.out H1.out ?_); rfl; rfl; intro w2 hP hg2; refine RowKit.Hid.out ?_))
        refine Lib.hid ?_
        rw [over4] at hP
        have b2 : Below w1.heap.size w1 w2 := (below1 w1 _).trans (below_of_grown hg2 (Nat.le_refl _) (by rw [size1]; omega))
        have hx := hx.keep b2 hx.lt
        have hr := hr.keep b2 hr.lt
        have hpl : g < w1.heap.size := Nat.lt_of_lt_of_le hgl hsz1
        have hB := hB1.trans (b2.mono (Nat.le_of_lt hpl))
        obtain ⟨p, hp⟩ : ∃ p, w1.heap.size = p := ⟨_, rfl⟩
        rw [hp] at hP hpl ⊢
        have hne : p ≠ g := by omega
        clear hB1 b2 hg2 hcol hp hgl hsz1
        obtain ⟨v, hv, hD⟩ := Draws.one w2
        have hx := hD.blk hx
        have hr := hD.blk hr
        have hB := hB.trans (hD.below g)
        have hP := hD.blk hP
        have CF := Lib.hid (colCopy (g := g) (off := 0) (d := 16) _ hP (by decide) (by decide))
        go_wp2_with fail
        refine wp_region_still_tail 3 (by kernel_rfl) (by decide +kernel) ?_
        simp only [List.take_succ_cons, List.take_zero, List.drop_succ_cons, List.drop_zero]
        change wpStill _ _ w2.drew _ _ _
        rw [hv]
        repeat still_step
        refine wpStill_nil ?_
        change wpList _ _ _ _ _ w2.drew
        rw [hv]
        clear hv
        have CF : CopyFits v (some ⟨g, 0, none⟩) (some ⟨p, 0, none⟩) 4 16 g 0 (rowN 16 (upto (4 * 0) (bCols mixc b) b)).length (rowN 4 (mixc (colOf b 0))) := by rw [rowN_len]; exact CF.out
        have HL := rowN_len 4 (mixc (colOf b 0))
        refine wpList_copy_num rfl (.tmp 20) (.tmp 21) 24 24 rfl 5 Tryz.underlying24 sizeU8' rfl rfl hx CF 4 HL ?_
        intro w4 hx4 hg4
        have hx4 := hx4.cast (over_upto 0 (by decide) (bCols mixc b) b (mixc (colOf b 0)) (fun j hj => by unfold bCols; rw [show (4 * 0 + j) / 4 = 0 by omega, show (4 * 0 + j) % 4 = j by omega]))
        have hr4 := hr.grown hg4 (by intro e; injection e; omega)
        have hB4 := hB.trans (below_of_grown hg4 (Nat.le_refl g) hx.lt)
        go_wp2
        go_roundw
        case rel => exact ⟨1, by omega, by go_num, hx4, hr4, hB4⟩
        case measure => simp [intOf]
      · have hpart := part_col 1 (by decide) (bCols mixc b) b hx
        have hby := Lib.hid (show By (colOf b 1) from fun _ => hb.out _)
        have hIr := row4 (colOf b 1)
        have e1 : wrap64 (4 + 4) = 8 := by unfold wrap64; decide
        have hat := fun cap v => run_array_at (P := Tryz.prog) 163 5 4 Tryz.underlying163 (some ⟨g, 4, none⟩) 4 cap (by decide) v
        go_wp2_with ((with_reducible refine wpList_load_part rfl 163 (.tmp 16) rfl ?_ (rowN 4 (colOf b 1)) hpart hIr ?_); rfl)
        refine (cMix_any (colOf b 1) _ hby.out).mono ?_
        rintro e w1 ⟨rfl, h1⟩
        have hgl := hx.lt
        have hx := hx.keep h1 hx.lt
        have hr := hr.keep h1 hr.lt
        have hB1 := hB.trans (h1.mono (Nat.le_of_lt hgl))
        have hsz1 := h1.size
        clear h1 hpart
        have hcol := Blk.new w1 163 (rowN 4 zf)
        have HI := row4 (mixc (colOf b 1))
        have HF := Lib.hid (fit4 zf (mixc (colOf b 1)))
        have H1 := Lib.hid (rowN_one 4 (mixc (colOf b 1)))
        go_wp2_with (first
          | (with_reducible refine wpList_alloc_blk rfl 163 rfl zero4 ?_)
          | ((with_reducible refine wpList_store_part (cs := rowN 4 (mixc (colOf b 1))) rfl 163 (.tmp 6) (.tmp 18) rfl ?_ ?_ hcol HI HF.out H1.out ?_); rfl; rfl; intro w2 hP hg2; refine RowKit.Hid.out ?_))
        refine Lib.hid ?_
        rw [over4] at hP
        have b2 : Below w1.heap.size w1 w2 := (below1 w1 _).trans (below_of_grown hg2 (Nat.le_refl _) (by rw [size1]; omega))
        have hx := hx.keep b2 hx.lt
        have hr := hr.keep b2 hr.lt
        have hpl : g < w1.heap.size := Nat.lt_of_lt_of_le hgl hsz1
        have hB := hB1.trans (b2.mono (Nat.le_of_lt hpl))
        obtain ⟨p, hp⟩ : ∃ p, w1.heap.size = p := ⟨_, rfl⟩
        rw [hp] at hP hpl ⊢
        have hne : p ≠ g := by omega
        clear hB1 b2 hg2 hcol hp hgl hsz1
        obtain ⟨v, hv, hD⟩ := Draws.one w2
        have hx := hD.blk hx
        have hr := hD.blk hr
        have hB := hB.trans (hD.below g)
        have hP := hD.blk hP
        have CF := Lib.hid (colCopy (g := g) (off := 4) (d := 12) _ hP (by decide) (by decide))
        go_wp2_with fail
        refine wp_region_still_tail 3 (by kernel_rfl) (by decide +kernel) ?_
        simp only [List.take_succ_cons, List.take_zero, List.drop_succ_cons, List.drop_zero]
        change wpStill _ _ w2.drew _ _ _
        rw [hv]
        repeat still_step
        refine wpStill_nil ?_
        change wpList _ _ _ _ _ w2.drew
        rw [hv]
        clear hv
        have CF : CopyFits v (some ⟨g, 4, none⟩) (some ⟨p, 0, none⟩) 4 12 g 4 (rowN 16 (upto (4 * 1) (bCols mixc b) b)).length (rowN 4 (mixc (colOf b 1))) := by rw [rowN_len]; exact CF.out
        have HL := rowN_len 4 (mixc (colOf b 1))
        refine wpList_copy_num rfl (.tmp 20) (.tmp 21) 24 24 rfl 5 Tryz.underlying24 sizeU8' rfl rfl hx CF 4 HL ?_
        intro w4 hx4 hg4
        have hx4 := hx4.cast (over_upto 1 (by decide) (bCols mixc b) b (mixc (colOf b 1)) (fun j hj => by unfold bCols; rw [show (4 * 1 + j) / 4 = 1 by omega, show (4 * 1 + j) % 4 = j by omega]))
        have hr4 := hr.grown hg4 (by intro e; injection e; omega)
        have hB4 := hB.trans (below_of_grown hg4 (Nat.le_refl g) hx.lt)
        go_wp2
        go_roundw
        case rel => exact ⟨2, by omega, by go_num, hx4, hr4, hB4⟩
        case measure => simp [intOf]
      · have hpart := part_col 2 (by decide) (bCols mixc b) b hx
        have hby := Lib.hid (show By (colOf b 2) from fun _ => hb.out _)
        have hIr := row4 (colOf b 2)
        have e1 : wrap64 (8 + 4) = 12 := by unfold wrap64; decide
        have hat := fun cap v => run_array_at (P := Tryz.prog) 163 5 4 Tryz.underlying163 (some ⟨g, 8, none⟩) 4 cap (by decide) v
        go_wp2_with ((with_reducible refine wpList_load_part rfl 163 (.tmp 16) rfl ?_ (rowN 4 (colOf b 2)) hpart hIr ?_); rfl)
        refine (cMix_any (colOf b 2) _ hby.out).mono ?_
        rintro e w1 ⟨rfl, h1⟩
        have hgl := hx.lt
        have hx := hx.keep h1 hx.lt
        have hr := hr.keep h1 hr.lt
        have hB1 := hB.trans (h1.mono (Nat.le_of_lt hgl))
        have hsz1 := h1.size
        clear h1 hpart
        have hcol := Blk.new w1 163 (rowN 4 zf)
        have HI := row4 (mixc (colOf b 2))
        have HF := Lib.hid (fit4 zf (mixc (colOf b 2)))
        have H1 := Lib.hid (rowN_one 4 (mixc (colOf b 2)))
        go_wp2_with (first
          | (with_reducible refine wpList_alloc_blk rfl 163 rfl zero4 ?_)
          | ((with_reducible refine wpList_store_part (cs := rowN 4 (mixc (colOf b 2))) rfl 163 (.tmp 6) (.tmp 18) rfl ?_ ?_ hcol HI HF.out H1.out ?_); rfl; rfl; intro w2 hP hg2; refine RowKit.Hid.out ?_))
        refine Lib.hid ?_
        rw [over4] at hP
        have b2 : Below w1.heap.size w1 w2 := (below1 w1 _).trans (below_of_grown hg2 (Nat.le_refl _) (by rw [size1]; omega))
        have hx := hx.keep b2 hx.lt
        have hr := hr.keep b2 hr.lt
        have hpl : g < w1.heap.size := Nat.lt_of_lt_of_le hgl hsz1
        have hB := hB1.trans (b2.mono (Nat.le_of_lt hpl))
        obtain ⟨p, hp⟩ : ∃ p, w1.heap.size = p := ⟨_, rfl⟩
        rw [hp] at hP hpl ⊢
        have hne : p ≠ g := by omega
        clear hB1 b2 hg2 hcol hp hgl hsz1
        obtain ⟨v, hv, hD⟩ := Draws.one w2
        have hx := hD.blk hx
        have hr := hD.blk hr
        have hB := hB.trans (hD.below g)
        have hP := hD.blk hP
        have CF := Lib.hid (colCopy (g := g) (off := 8) (d := 8) _ hP (by decide) (by decide))
        go_wp2_with fail
        refine wp_region_still_tail 3 (by kernel_rfl) (by decide +kernel) ?_
        simp only [List.take_succ_cons, List.take_zero, List.drop_succ_cons, List.drop_zero]
        change wpStill _ _ w2.drew _ _ _
        rw [hv]
        repeat still_step
        refine wpStill_nil ?_
        change wpList _ _ _ _ _ w2.drew
        rw [hv]
        clear hv
        have CF : CopyFits v (some ⟨g, 8, none⟩) (some ⟨p, 0, none⟩) 4 8 g 8 (rowN 16 (upto (4 * 2) (bCols mixc b) b)).length (rowN 4 (mixc (colOf b 2))) := by rw [rowN_len]; exact CF.out
        have HL := rowN_len 4 (mixc (colOf b 2))
        refine wpList_copy_num rfl (.tmp 20) (.tmp 21) 24 24 rfl 5 Tryz.underlying24 sizeU8' rfl rfl hx CF 4 HL ?_
        intro w4 hx4 hg4
        have hx4 := hx4.cast (over_upto 2 (by decide) (bCols mixc b) b (mixc (colOf b 2)) (fun j hj => by unfold bCols; rw [show (4 * 2 + j) / 4 = 2 by omega, show (4 * 2 + j) % 4 = j by omega]))
        have hr4 := hr.grown hg4 (by intro e; injection e; omega)
        have hB4 := hB.trans (below_of_grown hg4 (Nat.le_refl g) hx.lt)
        go_wp2
        go_roundw
        case rel => exact ⟨3, by omega, by go_num, hx4, hr4, hB4⟩
        case measure => simp [intOf]
      · have hpart := part_col 3 (by decide) (bCols mixc b) b hx
        have hby := Lib.hid (show By (colOf b 3) from fun _ => hb.out _)
        have hIr := row4 (colOf b 3)
        have e1 : wrap64 (12 + 4) = 16 := by unfold wrap64; decide
        have hat := fun cap v => run_array_at (P := Tryz.prog) 163 5 4 Tryz.underlying163 (some ⟨g, 12, none⟩) 4 cap (by decide) v
        go_wp2_with ((with_reducible refine wpList_load_part rfl 163 (.tmp 16) rfl ?_ (rowN 4 (colOf b 3)) hpart hIr ?_); rfl)
        refine (cMix_any (colOf b 3) _ hby.out).mono ?_
        rintro e w1 ⟨rfl, h1⟩
        have hgl := hx.lt
        have hx := hx.keep h1 hx.lt
        have hr := hr.keep h1 hr.lt
        have hB1 := hB.trans (h1.mono (Nat.le_of_lt hgl))
        have hsz1 := h1.size
        clear h1 hpart
        have hcol := Blk.new w1 163 (rowN 4 zf)
        have HI := row4 (mixc (colOf b 3))
        have HF := Lib.hid (fit4 zf (mixc (colOf b 3)))
        have H1 := Lib.hid (rowN_one 4 (mixc (colOf b 3)))
        go_wp2_with (first
          | (with_reducible refine wpList_alloc_blk rfl 163 rfl zero4 ?_)
          | ((with_reducible refine wpList_store_part (cs := rowN 4 (mixc (colOf b 3))) rfl 163 (.tmp 6) (.tmp 18) rfl ?_ ?_ hcol HI HF.out H1.out ?_); rfl; rfl; intro w2 hP hg2; refine RowKit.Hid.out ?_))
        refine Lib.hid ?_
        rw [over4] at hP
        have b2 : Below w1.heap.size w1 w2 := (below1 w1 _).trans (below_of_grown hg2 (Nat.le_refl _) (by rw [size1]; omega))
        have hx := hx.keep b2 hx.lt
        have hr := hr.keep b2 hr.lt
        have hpl : g < w1.heap.size := Nat.lt_of_lt_of_le hgl hsz1
        have hB := hB1.trans (b2.mono (Nat.le_of_lt hpl))
        obtain ⟨p, hp⟩ : ∃ p, w1.heap.size = p := ⟨_, rfl⟩
        rw [hp] at hP hpl ⊢
        have hne : p ≠ g := by omega
        clear hB1 b2 hg2 hcol hp hgl hsz1
        obtain ⟨v, hv, hD⟩ := Draws.one w2
        have hx := hD.blk hx
        have hr := hD.blk hr
        have hB := hB.trans (hD.below g)
        have hP := hD.blk hP
        have CF := Lib.hid (colCopy (g := g) (off := 12) (d := 4) _ hP (by decide) (by decide))
        go_wp2_with fail
        refine wp_region_still_tail 3 (by kernel_rfl) (by decide +kernel) ?_
        simp only [List.take_succ_cons, List.take_zero, List.drop_succ_cons, List.drop_zero]
        change wpStill _ _ w2.drew _ _ _
        rw [hv]
        repeat still_step
        refine wpStill_nil ?_
        change wpList _ _ _ _ _ w2.drew
        rw [hv]
        clear hv
        have CF : CopyFits v (some ⟨g, 12, none⟩) (some ⟨p, 0, none⟩) 4 4 g 12 (rowN 16 (upto (4 * 3) (bCols mixc b) b)).length (rowN 4 (mixc (colOf b 3))) := by rw [rowN_len]; exact CF.out
        have HL := rowN_len 4 (mixc (colOf b 3))
        refine wpList_copy_num rfl (.tmp 20) (.tmp 21) 24 24 rfl 5 Tryz.underlying24 sizeU8' rfl rfl hx CF 4 HL ?_
        intro w4 hx4 hg4
        have hx4 := hx4.cast (over_upto 3 (by decide) (bCols mixc b) b (mixc (colOf b 3)) (fun j hj => by unfold bCols; rw [show (4 * 3 + j) / 4 = 3 by omega, show (4 * 3 + j) % 4 = j by omega]))
        have hr4 := hr.grown hg4 (by intro e; injection e; omega)
        have hB4 := hB.trans (below_of_grown hg4 (Nat.le_refl g) hx.lt)
        go_wp2
        go_roundw
        case rel => exact ⟨4, by omega, by go_num, hx4, hr4, hB4⟩
        case measure => simp [intOf]
    · obtain rfl : k = 4 := by omega
      have hx : Blk wr _ 90 (rowN 16 (bCols mixc b)) := hx.cast (rowN_congr (upto_all 16 (bCols mixc b) b))
      have HI := row16 (bCols mixc b)
      have HF := Lib.hid (fit16 zf (bCols mixc b))
      have H1 := Lib.hid (rowN_one 16 (bCols mixc b))
      go_wp2_with (first
        | ((with_reducible refine wpList_load_blk rfl 90 (.tmp 2) rfl ?_ hx row16' (rowN_len 16 _) ?_); rfl)
        | ((with_reducible refine wpList_store_part rfl 90 (.tmp 4) (.tmp 23) rfl ?_ ?_ hr HI HF.out H1.out ?_); rfl; rfl; intro w9 hR9 hg9))
      rw [over16] at hR9
      (try simp only [Exit.inBlock, Exit.then])
      refine bodyPost_ret (results_blk rfl rfl hR9 HI) rfl ?_
      refine ⟨rfl, ?_⟩
      rw [hg.out]
      exact hB.trans (below_of_grown hg9 (by omega) hr.lt)
end Go.Proofs.YtagacpjeooaapaaGreatDoor

/-
  What a cipher's Encrypt comes to: the block encrypted with the bytes of its round keys; new memory alone is written.
-/
namespace Go.Proofs.YtagacpjeooaapaaGreatDoor
open Go.RowKit

/-- A load of many cells in a region that only reads. -/
theorem still_load_mid {P : Program} {ops : Array Oper} {o : Oper} {rest : List Oper} {a : Act} {w : World} {Q : Act → Prop} (hgd : o.guard = none) (ty : TypeId) (x : Operand) (ho : o.op = .load ty x)
    {g off : Nat} (hx : a.eval x = .pointer (some ⟨g, off, none⟩)) {cs : List Value} (hc : w.rangeAt g off cs) (hr : IsRow P ty cs.length)
    (h : wpStill P ops w Q rest (a.put o.dst (.agg cs.toArray))) : wpStill P ops w Q (o :: rest) a := by
  obtain ⟨⟨d, hu, hd⟩, hi⟩ := hr
  refine wpStill_step fun K hK => ?_
  have hw : Region.wanted o (yielded ops a.tmps) = true := by simp [Region.wanted, hgd]
  rw [if_pos hw]
  have hrun : (execOp a.eval o).run P w = .ok (.value (.agg cs.toArray)) w := by
    unfold execOp
    simp only [ho, hx, Instr.loadAt, Instr.sureAddr, Sem.run_bind, Sem.run_pure, Result.andThen_ok, run_loadVar_mid w g off ty cs d hc hu hd hi]
  unfold Oper.still
  rw [hrun, Oper.stillUpon_value]
  exact hK _ h
theorem Blk.all {w : World} {g : Nat} {t : TypeId} {cs : List Value} (h : Blk w g t cs) : w.rangeAt g 0 cs := h.range 0 cs (fun j v hj => by simpa using hj)
theorem ci_key' {w : World} {g : Nat} {F f h : Nat → Nat} {bm m : Bool} (hb : CiAt w g F f h bm m) (r : Nat) (hr : r < 15) : w.rangeAt g (r * 16) (rowN 16 (keyAt F r)) := by
  rw [Nat.mul_comm]; exact ci_key hb r hr

/-- A block stored over a block. -/
theorem wpList_store16 {w : World} {ops : Array Oper} {rest : List Oper} {o : Oper} {a : Act} {Q : Exit → Act → World → Prop} (hgd : o.guard = none) (x y : Operand) (ho : o.op = .store 90 x y)
    {g : Nat} {cur new : Nat → Nat} (hx : a.eval x = .pointer (some ⟨g, 0, none⟩)) (hy : a.eval y = .agg (rowN 16 new).toArray) (hg : Blk w g 90 (rowN 16 cur))
    (h : ∀ w', Blk w' g 90 (rowN 16 new) → w.grownBy w' (some g) → wpList Tryz.prog ops Q rest (a.put o.dst undef) w') : wpList Tryz.prog ops Q (o :: rest) a w :=
  wpList_store_part hgd 90 x y ho hx hy hg (row16 new) (fit16 cur new) (rowN_one 16 new) (fun w' h1 h2 => h w' (h1.cast (over16 cur new)) h2)
theorem wpList_load16 {w : World} {ops : Array Oper} {rest : List Oper} {o : Oper} {a : Act} {Q : Exit → Act → World → Prop} (hgd : o.guard = none) (x : Operand) (ho : o.op = .load 90 x)
    {g : Nat} {f : Nat → Nat} (hx : a.eval x = .pointer (some ⟨g, 0, none⟩)) (hg : Blk w g 90 (rowN 16 f))
    (h : wpList Tryz.prog ops Q rest (a.put o.dst (.agg (rowN 16 f).toArray)) w) : wpList Tryz.prog ops Q (o :: rest) a w :=
  wpList_load_blk hgd 90 x ho hx hg row16' (rowN_len 16 f) h

set_option maxRecDepth 100000 in
set_option maxHeartbeats 1000000 in
theorem cEnc_any (q : Nat) (F : Nat → Nat) (b : Nat → Nat) (w : World) (hF : By F) (hb : By b) (hC : CiAt w q F sb bk true true) :
    Calls Tryz.prog 48 #[.pointer (some ⟨q, 0, none⟩), .agg (rowN 16 b).toArray] w fun e w' => e = .returned (.agg (rowN 16 (enc (keyAt F) b)).toArray) ∧ Below w.heap.size w w' := by
  go_enter Tryz.func48, Tryz.ntmps48
  have hmd : ∀ o o', ((w.alloc o).alloc o').cell? ⟨q, 753, none⟩ = some (.bool true) := fun o o' => by rw [((Blk.alloc hC o).alloc o').cell, ciCells_made]
  go_wp2_with (first
    | ((with_reducible refine wpList_box_blk rfl 90 (.tmp 1) rfl (rowN 16 b) ?_ ?_); rfl)
    | (with_reducible refine wpList_alloc_blk rfl 90 rfl zero16 ?_))
  obtain ⟨W0, hW0⟩ : ∃ W0, (w.alloc (.cells (rowN 16 b).toArray 90)).alloc (.cells (rowN 16 zf).toArray 90) = W0 := ⟨_, rfl⟩
  obtain ⟨g, hg⟩ : ∃ g, w.heap.size = g := ⟨_, rfl⟩
  have hx0 : Blk W0 g 90 (rowN 16 b) := by rw [← hW0, ← hg]; exact (Blk.new w _ _).alloc _
  have hr0 : Blk W0 (g + 1) 90 (rowN 16 zf) := by rw [← hW0, ← hg]; exact Blk.new1 w _ _ _
  have hB0 : Below g w W0 := by rw [← hW0, ← hg]; exact below2 w _ _
  have hql : q < g := by rw [← hg]; exact Blk.lt hC
  have hC0 : CiAt W0 q F sb bk true true := by rw [← hW0]; exact (Blk.alloc hC _).alloc _
  rw [hW0, hg]
  clear hW0 hmd hC
  have hg := Lib.hid hg
  have hql := Lib.hid hql
  have hb := Lib.hid hb
  have hF := Lib.hid hF
  obtain ⟨v, hv, hD⟩ := Draws.one W0
  have hx1 := hD.blk hx0
  have hr1 := hD.blk hr0
  have hB1 := hB0.trans (hD.below g)
  have hC1 : CiAt v q F sb bk true true := hD.blk hC0
  have hK := ci_key hC1 0 (by decide)
  refine wp_region_still_tail 6 (by kernel_rfl) (by decide +kernel) ?_
  simp only [List.take_succ_cons, List.take_zero, List.drop_succ_cons, List.drop_zero]
  change wpStill _ _ W0.drew _ _ _
  rw [hv]
  repeat (first | (refine still_load_mid (x := .tmp 3) rfl 90 rfl rfl hx1.all (row16 _) ?_) | (refine still_load_mid (x := .tmp 20) rfl 90 rfl rfl hK (row16 _) ?_) | still_step)
  refine wpStill_nil ?_
  change wpList _ _ _ _ _ W0.drew
  rw [hv]
  clear hv hK hx0 hr0 hB0 hC0 hD
  go_wp2_with fail
  refine (cSum_any b (keyAt F 0) _ hb.out (keyAt_by hF.out 0)).mono ?_
  rintro e w1 ⟨rfl, h1⟩
  have hx2 := hx1.keep h1 hx1.lt
  have hr2 := hr1.keep h1 hr1.lt
  have hC2 : CiAt w1 q F sb bk true true := Blk.keep hC1 h1 (Blk.lt hC1)
  have hB2 := hB1.trans (h1.mono (Nat.le_of_lt hx1.lt))
  clear h1 hx1 hr1 hC1 hB1
  go_wp2_with ((refine wpList_store16 (new := bAdd b (keyAt F 0)) rfl (.tmp 3) (.tmp 22) rfl ?_ ?_ hx2 ?_); rfl; rfl; intro w2 hx3 hg2; refine RowKit.Hid.out ?_)
  refine Lib.hid ?_
  have hr3 := hr2.grown hg2 (by intro e; injection e; omega)
  have hC3 : CiAt w2 q F sb bk true true := Blk.grown hC2 hg2 (by intro e; injection e; have := hql.out; omega)
  have hB3 := hB2.trans (below_of_grown hg2 (Nat.le_refl g) hx2.lt)
  clear hx2 hr2 hC2 hB2 hg2
  go_wp2
  go_loopw [5] (fun i wr => ∃ r : Nat, 1 ≤ r ∧ r ≤ 15 ∧ i = .int .i64 r ∧ Blk wr g 90 (rowN 16 (encs (keyAt F) b (r - 1))) ∧ Blk wr (g + 1) 90 (rowN 16 zf) ∧ CiAt wr q F sb bk true true ∧ Below g w wr) (fun i _ => 15 - (intOf i).toNat)
  case atStart => exact ⟨1, by omega, by omega, rfl, hx3, hr3, hC3, hB3⟩
  case round =>
    clear hx3 hr3 hC3 hB3
    obtain ⟨r, hr1, hk, rfl, hx, hr, hC, hB⟩ := hrel
    by_cases hlt : r < 15
    · have hby := encs_by (fun r => keyAt_by hF.out r) hb.out (r - 1)
      obtain ⟨c, hc⟩ : ∃ c, encs (keyAt F) b (r - 1) = c := ⟨_, rfl⟩
      have hnx : encs (keyAt F) b r = crnd (keyAt F) r c := by
        obtain ⟨k, rfl⟩ : ∃ k, r = k + 1 := ⟨r - 1, by omega⟩
        rw [← hc]; rfl
      rw [hc] at hx hby
      have hby := Lib.hid hby
      have hnx := Lib.hid hnx
      clear hc
      have hki : (r : Int) ≤ 14 := by omega
      have hkl : (r : Int) < 15 := by omega
      have hr1 := Lib.hid hr1
      have hlt := Lib.hid hlt
      clear hk
      obtain ⟨v, hv, hD⟩ := Draws.one wr
      have hx := hD.blk hx
      have hr := hD.blk hr
      have hB := hB.trans (hD.below g)
      have hC : CiAt v q F sb bk true true := hD.blk hC
      go_wp2_with fail
      refine wp_region_still_tail 5 (by kernel_rfl) (by decide +kernel) ?_
      simp only [List.take_succ_cons, List.take_zero, List.drop_succ_cons, List.drop_zero]
      change wpStill _ _ wr.drew _ _ _
      rw [hv]
      repeat (first | (refine still_load_mid (x := .tmp 3) rfl 90 rfl rfl hx.all (row16 _) ?_) | still_step)
      refine wpStill_nil ?_
      change wpList _ _ _ _ _ wr.drew
      rw [hv]
      clear hv hD
      go_wp2_with fail
      refine (cSubst_sub c q F sb bk true true _ hby.out hC).mono ?_
      rintro e w3 ⟨rfl, h1⟩
      have hgl := hx.lt
      have hr := hr.keep h1 hr.lt
      have hB := hB.trans (h1.mono (Nat.le_of_lt hgl))
      have hC : CiAt w3 q F sb bk true true := Blk.keep hC h1 (Blk.lt hC)
      have hx := hx.keep h1 hgl
      clear h1 hgl
      go_wp2_with fail
      refine (cTurned_any (bSb sb c) 1 _ (by decide)).mono ?_
      rintro e w4 ⟨rfl, h1⟩
      have hgl := hx.lt
      have hr := hr.keep h1 hr.lt
      have hB := hB.trans (h1.mono (Nat.le_of_lt hgl))
      have hC : CiAt w4 q F sb bk true true := Blk.keep hC h1 (Blk.lt hC)
      have hx := hx.keep h1 hgl
      clear h1 hgl
      go_wp2_with ((refine wpList_store16 (new := bTurn 1 (bSb sb c)) rfl (.tmp 3) (.tmp 33) rfl ?_ ?_ hx ?_); rfl; rfl; intro w5 hy hg2; refine RowKit.Hid.out ?_)
      refine Lib.hid ?_
      have hr := hr.grown hg2 (by intro e; injection e; omega)
      have hC : CiAt w5 q F sb bk true true := Blk.grown hC hg2 (by intro e; injection e; have := hql.out; omega)
      have hB := hB.trans (below_of_grown hg2 (Nat.le_refl g) hx.lt)
      have hx := hy
      clear hy hg2
      by_cases hl : r < 14
      · have hli : (r : Int) < 14 := by omega
        have hl := Lib.hid hl
        have hbt := Lib.hid (show By (bTurn 1 (bSb sb c)) from bTurn_by (bSb_by sb_256))
        go_wp2_with ((refine wpList_load16 rfl (.tmp 3) rfl ?_ hx ?_); rfl)
        refine (cCols_mix (bTurn 1 (bSb sb c)) _ hbt.out).mono ?_
        rintro e w6 ⟨rfl, h1⟩
        have hgl := hx.lt
        have hr := hr.keep h1 hr.lt
        have hB := hB.trans (h1.mono (Nat.le_of_lt hgl))
        have hC : CiAt w6 q F sb bk true true := Blk.keep hC h1 (Blk.lt hC)
        have hx := hx.keep h1 hgl
        clear h1 hgl
        go_wp2_with ((refine wpList_store16 (new := bCols mixc (bTurn 1 (bSb sb c))) rfl (.tmp 3) (.tmp 37) rfl ?_ ?_ hx ?_); rfl; rfl; intro w7 hy hg2; refine RowKit.Hid.out ?_)
        refine Lib.hid ?_
        have hr := hr.grown hg2 (by intro e; injection e; omega)
        have hC : CiAt w7 q F sb bk true true := Blk.grown hC hg2 (by intro e; injection e; have := hql.out; omega)
        have hB := hB.trans (below_of_grown hg2 (Nat.le_refl g) hx.lt)
        have hx := hy
        clear hy hg2
        have hbt := Lib.hid (show By (bCols mixc (bTurn 1 (bSb sb c))) from bCols_by hbt.out (fun _ => mixc_by))
        obtain ⟨v2, hv, hD⟩ := Draws.one w7
        have hx := hD.blk hx
        have hr := hD.blk hr
        have hB := hB.trans (hD.below g)
        have hC : CiAt v2 q F sb bk true true := hD.blk hC
        have hK := ci_key' hC r hlt.out
        go_wp2_with fail
        refine wp_region_still_tail 7 (by kernel_rfl) (by decide +kernel) ?_
        simp only [List.take_succ_cons, List.take_zero, List.drop_succ_cons, List.drop_zero]
        change wpStill _ _ w7.drew _ _ _
        rw [hv]
        repeat (first | (refine still_load_mid (x := .tmp 3) rfl 90 rfl rfl hx.all (row16 _) ?_) | (refine still_load_mid (x := .tmp 43) rfl 90 rfl rfl hK (row16 _) ?_) | still_step)
        refine wpStill_nil ?_
        change wpList _ _ _ _ _ w7.drew
        rw [hv]
        clear hv hD
        go_wp2_with fail
        refine (cSum_any (bCols mixc (bTurn 1 (bSb sb c))) (keyAt F r) _ hbt.out (keyAt_by hF.out _)).mono ?_
        rintro e w8 ⟨rfl, h1⟩
        have hgl := hx.lt
        have hr := hr.keep h1 hr.lt
        have hB := hB.trans (h1.mono (Nat.le_of_lt hgl))
        have hC : CiAt w8 q F sb bk true true := Blk.keep hC h1 (Blk.lt hC)
        have hx := hx.keep h1 hgl
        clear h1 hgl
        go_wp2_with ((refine wpList_store16 (new := bAdd (bCols mixc (bTurn 1 (bSb sb c))) (keyAt F r)) rfl (.tmp 3) (.tmp 45) rfl ?_ ?_ hx ?_); rfl; rfl; intro w9 hy hg2; refine RowKit.Hid.out ?_)
        refine Lib.hid ?_
        have hr := hr.grown hg2 (by intro e; injection e; omega)
        have hC : CiAt w9 q F sb bk true true := Blk.grown hC hg2 (by intro e; injection e; have := hql.out; omega)
        have hB := hB.trans (below_of_grown hg2 (Nat.le_refl g) hx.lt)
        have hx := hy
        clear hy hg2
        go_wp2
        go_roundw
        case rel => exact ⟨r + 1, by omega, by have := hlt.out; omega, by go_num, by rw [Nat.add_sub_cancel, hnx.out, crnd, mid, if_pos hl.out]; exact hx, hr, hC, hB⟩
        case measure => have := hlt.out; simp [intOf]; omega
      · have hli : ¬ (r : Int) < 14 := by omega
        have hl := Lib.hid hl
        have hbt := Lib.hid (show By (bTurn 1 (bSb sb c)) from bTurn_by (bSb_by sb_256))
        obtain ⟨v2, hv, hD⟩ := Draws.one w5
        have hx := hD.blk hx
        have hr := hD.blk hr
        have hB := hB.trans (hD.below g)
        have hC : CiAt v2 q F sb bk true true := hD.blk hC
        have hK := ci_key' hC r hlt.out
        go_wp2_with fail
        refine wp_region_still_tail 7 (by kernel_rfl) (by decide +kernel) ?_
        simp only [List.take_succ_cons, List.take_zero, List.drop_succ_cons, List.drop_zero]
        change wpStill _ _ w5.drew _ _ _
        rw [hv]
        repeat (first | (refine still_load_mid (x := .tmp 3) rfl 90 rfl rfl hx.all (row16 _) ?_) | (refine still_load_mid (x := .tmp 43) rfl 90 rfl rfl hK (row16 _) ?_) | still_step)
        refine wpStill_nil ?_
        change wpList _ _ _ _ _ w5.drew
        rw [hv]
        clear hv hD
        go_wp2_with fail
        refine (cSum_any (bTurn 1 (bSb sb c)) (keyAt F r) _ hbt.out (keyAt_by hF.out _)).mono ?_
        rintro e w8 ⟨rfl, h1⟩
        have hgl := hx.lt
        have hr := hr.keep h1 hr.lt
        have hB := hB.trans (h1.mono (Nat.le_of_lt hgl))
        have hC : CiAt w8 q F sb bk true true := Blk.keep hC h1 (Blk.lt hC)
        have hx := hx.keep h1 hgl
        clear h1 hgl
        go_wp2_with ((refine wpList_store16 (new := bAdd (bTurn 1 (bSb sb c)) (keyAt F r)) rfl (.tmp 3) (.tmp 45) rfl ?_ ?_ hx ?_); rfl; rfl; intro w9 hy hg2; refine RowKit.Hid.out ?_)
        refine Lib.hid ?_
        have hr := hr.grown hg2 (by intro e; injection e; omega)
        have hC : CiAt w9 q F sb bk true true := Blk.grown hC hg2 (by intro e; injection e; have := hql.out; omega)
        have hB := hB.trans (below_of_grown hg2 (Nat.le_refl g) hx.lt)
        have hx := hy
        clear hy hg2
        go_wp2
        go_roundw
        case rel => exact ⟨r + 1, by omega, by have := hlt.out; omega, by go_num, by rw [Nat.add_sub_cancel, hnx.out, crnd, mid, if_neg hl.out]; exact hx, hr, hC, hB⟩
        case measure => have := hlt.out; simp [intOf]; omega
    · obtain rfl : r = 15 := by omega
      have hx : Blk wr g 90 (rowN 16 (enc (keyAt F) b)) := hx
      go_wp2_with (first
        | ((refine wpList_load16 rfl (.tmp 3) rfl ?_ hx ?_); rfl)
        | ((refine wpList_store16 (new := enc (keyAt F) b) rfl (.tmp 4) (.tmp 46) rfl ?_ ?_ hr ?_); rfl; rfl; intro w9 hR9 hg9))
      (try simp only [Exit.inBlock, Exit.then])
      refine bodyPost_ret (results_blk rfl rfl hR9 (row16 _)) rfl ?_
      refine ⟨rfl, ?_⟩
      rw [hg.out]
      exact hB.trans (below_of_grown hg9 (by omega) hr.lt)
end Go.Proofs.YtagacpjeooaapaaGreatDoor

/-
  What Encrypt comes to of a cipher that lies at the beginning of a greater block. (Printed by mk_streamci.py out of XCipherSubst and XCipherEnc.)
-/
namespace Go.Proofs.YtagacpjeooaapaaGreatDoor
open Go.RowKit

/-- Block g begins with a cipher of round keys F. -/
def CiR (w : World) (g : Nat) (t : TypeId) (F : Nat → Nat) (more : List Value) : Prop := Blk w g t (ciCells F sb bk true true ++ more)
theorem ciR_at (F : Nat → Nat) (more : List Value) (i : Nat) (hi : i < 754) : (ciCells F sb bk true true ++ more)[i]? = (ciCells F sb bk true true)[i]? := List.getElem?_append_left (by rw [ciCells_len]; exact hi)
theorem ciR_made (F : Nat → Nat) (more : List Value) : (ciCells F sb bk true true ++ more)[753]? = some (.bool true) := by rw [ciR_at F more 753 (by decide), ciCells_made]
theorem ciR_key {w : World} {g : Nat} {t : TypeId} {F : Nat → Nat} {more : List Value} (hb : CiR w g t F more) (r : Nat) (hr : r < 15) : w.rangeAt g (16 * r) (rowN 16 (keyAt F r)) := by
  refine Blk.range hb (16 * r) _ fun j v hj => ?_
  by_cases h16 : j < 16
  · rw [rowN_at 16 _ j h16] at hj
    rw [ciR_at _ _ _ (by omega), ciCells_key _ _ _ _ _ _ (by omega)]
    exact hj
  · rw [List.getElem?_eq_none (by rw [rowN_len]; omega)] at hj
    cases hj
theorem ciR_key' {w : World} {g : Nat} {t : TypeId} {F : Nat → Nat} {more : List Value} (hb : CiR w g t F more) (r : Nat) (hr : r < 15) : w.rangeAt g (r * 16) (rowN 16 (keyAt F r)) := by
  rw [Nat.mul_comm]; exact ciR_key hb r hr

set_option maxRecDepth 100000 in
set_option maxHeartbeats 400000 in
theorem tSub_any (g : Nat) (t : TypeId) (F : Nat → Nat) (more : List Value) (x : Nat) (w : World) (hb : CiR w g t F more) (hx : x < 256) :
    Calls Tryz.prog 73 #[.pointer (some ⟨g, 240, none⟩), .int .u8 (x : Int)] w fun e w' => e = .returned (.int .u8 (sb x : Int)) ∧ w = w' := by
  have hc : w.cell? ⟨g, 240 + x, none⟩ = some (.int .u8 (sb x : Int)) := by rw [Blk.cell hb, ciR_at F more _ (by omega), ciCells_sub F sb bk true true x hx]
  have hxi : (x : Int) < 256 := by omega
  clear hx
  go_enter Tryz.func73, Tryz.ntmps73
  go_wp2
  go_ret
  exact ⟨rfl, rfl⟩

set_option maxRecDepth 100000 in
set_option maxHeartbeats 1000000 in
theorem tSubst_sub (b : Nat → Nat) (q : Nat) (ty : TypeId) (F : Nat → Nat) (more : List Value) (w : World) (hb : By b) (hC : CiR w q ty F more) :
    Calls Tryz.prog 72 #[.agg (rowN 16 b).toArray, .func (.func 73) #[.pointer (some ⟨q, 240, none⟩)] #[]] w fun e w' => e = .returned (.agg (rowN 16 (bSb sb b)).toArray) ∧ Below w.heap.size w w' := by
  go_enter Tryz.func72, Tryz.ntmps72
  have hb0 : ∀ o, Blk ((w.alloc (.cells (rowN 16 b).toArray 90)).alloc o) w.heap.size 90 (rowN 16 b) := fun o => (Blk.new w _ _).alloc _
  go_wp2_with (first
    | ((with_reducible refine wpList_box_blk rfl 90 (.tmp 0) rfl (rowN 16 b) ?_ ?_); rfl)
    | (with_reducible refine wpList_alloc_blk rfl 90 rfl zero16 ?_)
    | ((with_reducible refine wpList_load_blk rfl 90 (.tmp 2) rfl ?_ (hb0 _) row16' (rowN_len 16 _) ?_); rfl))
  obtain ⟨W0, hW0⟩ : ∃ W0, (w.alloc (.cells (rowN 16 b).toArray 90)).alloc (.cells (rowN 16 zf).toArray 90) = W0 := ⟨_, rfl⟩
  obtain ⟨g, hg⟩ : ∃ g, w.heap.size = g := ⟨_, rfl⟩
  have hx0 : Blk W0 g 90 (rowN 16 (upto 0 (bSb sb b) b)) := by rw [upto_zero, ← hW0, ← hg]; exact (Blk.new w _ _).alloc _
  have hr0 : Blk W0 (g + 1) 90 (rowN 16 zf) := by rw [← hW0, ← hg]; exact Blk.new1 w _ _ _
  have hB0 : Below g w W0 := by rw [← hW0, ← hg]; exact below2 w _ _
  have hql : q < g := by rw [← hg]; exact Blk.lt hC
  rw [hW0, hg]
  clear hW0 hb0
  have hg := Lib.hid hg
  have hql := Lib.hid hql
  have hb := Lib.hid hb
  have hC := Lib.hid hC
  go_loopw [8] (fun i wr => ∃ k : Nat, k ≤ 16 ∧ i = .int .i64 k ∧ Blk wr g 90 (rowN 16 (upto k (bSb sb b) b)) ∧ Blk wr (g + 1) 90 (rowN 16 zf) ∧ Below g w wr) (fun i _ => 16 - (intOf i).toNat)
  case atStart => exact ⟨0, by omega, rfl, hx0, hr0, hB0⟩
  case round =>
    obtain ⟨k, hk, rfl, hx, hr, hB⟩ := hrel
    by_cases hlt : k < 16
    · have cx := hx.cell k
      rw [rowN_at 16 _ k hlt, upto_at] at cx
      have fx : wr.frozen? ⟨g, k, none⟩ = false := Blk.frozen hx k
      have hset := hx.set k (.int .u8 (bSb sb b k : Nat))
      rw [rowN_set 16 _ _ _ hlt, upto_step _ _ _ _ rfl] at hset
      have hset := Lib.hid hset
      have hat := fun wx => run_index_row (P := Tryz.prog) 90 5 16 Tryz.underlying90 (by kernel_rfl) (by kernel_rfl) (rowN 16 b).toArray .i64 k hlt (.int .u8 (b k : Int)) (by simpa using rowN_at 16 b k hlt) wx
      have hki : (k : Int) < 16 := by omega
      have hle := Lib.hid hlt
      have hCr := Lib.hid (show CiR wr q ty F more from Blk.keep hC.out hB hql.out)
      clear hlt hk
      go_wp2_with fail
      refine (tSub_any q ty F more (b k) _ hCr.out (hb.out k)).mono ?_
      rintro e w' ⟨rfl, rfl⟩
      go_wp2
      go_roundw
      case rel => exact ⟨k + 1, by have := hle.out; omega, by go_num, hset.out, hr.far (p := ⟨g, k, none⟩) (by simp) _, hB.setCell (p := ⟨g, k, none⟩) (Nat.le_refl _) _⟩
      case measure => have := hle.out; simp [intOf]; omega
    · obtain rfl : k = 16 := by omega
      have hx : Blk wr _ 90 (rowN 16 (bSb sb b)) := hx.cast (rowN_congr (upto_all 16 (bSb sb b) b))
      have HI := row16 (bSb sb b)
      have HF := Lib.hid (fit16 zf (bSb sb b))
      have H1 := Lib.hid (rowN_one 16 (bSb sb b))
      go_wp2_with (first
        | ((with_reducible refine wpList_load_blk rfl 90 (.tmp 2) rfl ?_ hx row16' (rowN_len 16 _) ?_); rfl)
        | ((with_reducible refine wpList_store_part rfl 90 (.tmp 4) (.tmp 18) rfl ?_ ?_ hr HI HF.out H1.out ?_); rfl; rfl; intro w9 hR9 hg9))
      rw [over16] at hR9
      (try simp only [Exit.inBlock, Exit.then])
      refine bodyPost_ret (results_blk rfl rfl hR9 HI) rfl ?_
      refine ⟨rfl, ?_⟩
      rw [hg.out]
      exact hB.trans (below_of_grown hg9 (by omega) hr.lt)

set_option maxRecDepth 100000 in
set_option maxHeartbeats 1000000 in
theorem tEnc_any (q : Nat) (ty : TypeId) (F : Nat → Nat) (more : List Value) (b : Nat → Nat) (w : World) (hF : By F) (hb : By b) (hC : CiR w q ty F more) :
    Calls Tryz.prog 48 #[.pointer (some ⟨q, 0, none⟩), .agg (rowN 16 b).toArray] w fun e w' => e = .returned (.agg (rowN 16 (enc (keyAt F) b)).toArray) ∧ Below w.heap.size w w' := by
  go_enter Tryz.func48, Tryz.ntmps48
  have hmd : ∀ o o', ((w.alloc o).alloc o').cell? ⟨q, 753, none⟩ = some (.bool true) := fun o o' => by rw [((Blk.alloc hC o).alloc o').cell, ciR_made]
  go_wp2_with (first
    | ((with_reducible refine wpList_box_blk rfl 90 (.tmp 1) rfl (rowN 16 b) ?_ ?_); rfl)
    | (with_reducible refine wpList_alloc_blk rfl 90 rfl zero16 ?_))
  obtain ⟨W0, hW0⟩ : ∃ W0, (w.alloc (.cells (rowN 16 b).toArray 90)).alloc (.cells (rowN 16 zf).toArray 90) = W0 := ⟨_, rfl⟩
  obtain ⟨g, hg⟩ : ∃ g, w.heap.size = g := ⟨_, rfl⟩
  have hx0 : Blk W0 g 90 (rowN 16 b) := by rw [← hW0, ← hg]; exact (Blk.new w _ _).alloc _
  have hr0 : Blk W0 (g + 1) 90 (rowN 16 zf) := by rw [← hW0, ← hg]; exact Blk.new1 w _ _ _
  have hB0 : Below g w W0 := by rw [← hW0, ← hg]; exact below2 w _ _
  have hql : q < g := by rw [← hg]; exact Blk.lt hC
  have hC0 : CiR W0 q ty F more := by rw [← hW0]; exact (Blk.alloc hC _).alloc _
  rw [hW0, hg]
  clear hW0 hmd hC
  have hg := Lib.hid hg
  have hql := Lib.hid hql
  have hb := Lib.hid hb
  have hF := Lib.hid hF
  obtain ⟨v, hv, hD⟩ := Draws.one W0
  have hx1 := hD.blk hx0
  have hr1 := hD.blk hr0
  have hB1 := hB0.trans (hD.below g)
  have hC1 : CiR v q ty F more := hD.blk hC0
  have hK := ciR_key hC1 0 (by decide)
  refine wp_region_still_tail 6 (by kernel_rfl) (by decide +kernel) ?_
  simp only [List.take_succ_cons, List.take_zero, List.drop_succ_cons, List.drop_zero]
  change wpStill _ _ W0.drew _ _ _
  rw [hv]
  repeat (first | (refine still_load_mid (x := .tmp 3) rfl 90 rfl rfl hx1.all (row16 _) ?_) | (refine still_load_mid (x := .tmp 20) rfl 90 rfl rfl hK (row16 _) ?_) | still_step)
  refine wpStill_nil ?_
  change wpList _ _ _ _ _ W0.drew
  rw [hv]
  clear hv hK hx0 hr0 hB0 hC0 hD
  go_wp2_with fail
  refine (cSum_any b (keyAt F 0) _ hb.out (keyAt_by hF.out 0)).mono ?_
  rintro e w1 ⟨rfl, h1⟩
  have hx2 := hx1.keep h1 hx1.lt
  have hr2 := hr1.keep h1 hr1.lt
  have hC2 : CiR w1 q ty F more := Blk.keep hC1 h1 (Blk.lt hC1)
  have hB2 := hB1.trans (h1.mono (Nat.le_of_lt hx1.lt))
  clear h1 hx1 hr1 hC1 hB1
  go_wp2_with ((refine wpList_store16 (new := bAdd b (keyAt F 0)) rfl (.tmp 3) (.tmp 22) rfl ?_ ?_ hx2 ?_); rfl; rfl; intro w2 hx3 hg2; refine RowKit.Hid.out ?_)
  refine Lib.hid ?_
  have hr3 := hr2.grown hg2 (by intro e; injection e; omega)
  have hC3 : CiR w2 q ty F more := Blk.grown hC2 hg2 (by intro e; injection e; have := hql.out; omega)
  have hB3 := hB2.trans (below_of_grown hg2 (Nat.le_refl g) hx2.lt)
  clear hx2 hr2 hC2 hB2 hg2
  go_wp2
  go_loopw [5] (fun i wr => ∃ r : Nat, 1 ≤ r ∧ r ≤ 15 ∧ i = .int .i64 r ∧ Blk wr g 90 (rowN 16 (encs (keyAt F) b (r - 1))) ∧ Blk wr (g + 1) 90 (rowN 16 zf) ∧ CiR wr q ty F more ∧ Below g w wr) (fun i _ => 15 - (intOf i).toNat)
  case atStart => exact ⟨1, by omega, by omega, rfl, hx3, hr3, hC3, hB3⟩
  case round =>
    clear hx3 hr3 hC3 hB3
    obtain ⟨r, hr1, hk, rfl, hx, hr, hC, hB⟩ := hrel
    by_cases hlt : r < 15
    · have hby := encs_by (fun r => keyAt_by hF.out r) hb.out (r - 1)
      obtain ⟨c, hc⟩ : ∃ c, encs (keyAt F) b (r - 1) = c := ⟨_, rfl⟩
      have hnx : encs (keyAt F) b r = crnd (keyAt F) r c := by
        obtain ⟨k, rfl⟩ : ∃ k, r = k + 1 := ⟨r - 1, by omega⟩
        rw [← hc]; rfl
      rw [hc] at hx hby
      have hby := Lib.hid hby
      have hnx := Lib.hid hnx
      clear hc
      have hki : (r : Int) ≤ 14 := by omega
      have hkl : (r : Int) < 15 := by omega
      have hr1 := Lib.hid hr1
      have hlt := Lib.hid hlt
      clear hk
      obtain ⟨v, hv, hD⟩ := Draws.one wr
      have hx := hD.blk hx
      have hr := hD.blk hr
      have hB := hB.trans (hD.below g)
      have hC : CiR v q ty F more := hD.blk hC
      go_wp2_with fail
      refine wp_region_still_tail 5 (by kernel_rfl) (by decide +kernel) ?_
      simp only [List.take_succ_cons, List.take_zero, List.drop_succ_cons, List.drop_zero]
      change wpStill _ _ wr.drew _ _ _
      rw [hv]
      repeat (first | (refine still_load_mid (x := .tmp 3) rfl 90 rfl rfl hx.all (row16 _) ?_) | still_step)
      refine wpStill_nil ?_
      change wpList _ _ _ _ _ wr.drew
      rw [hv]
      clear hv hD
      go_wp2_with fail
      refine (tSubst_sub c q ty F more _ hby.out hC).mono ?_
      rintro e w3 ⟨rfl, h1⟩
      have hgl := hx.lt
      have hr := hr.keep h1 hr.lt
      have hB := hB.trans (h1.mono (Nat.le_of_lt hgl))
      have hC : CiR w3 q ty F more := Blk.keep hC h1 (Blk.lt hC)
      have hx := hx.keep h1 hgl
      clear h1 hgl
      go_wp2_with fail
      refine (cTurned_any (bSb sb c) 1 _ (by decide)).mono ?_
      rintro e w4 ⟨rfl, h1⟩
      have hgl := hx.lt
      have hr := hr.keep h1 hr.lt
      have hB := hB.trans (h1.mono (Nat.le_of_lt hgl))
      have hC : CiR w4 q ty F more := Blk.keep hC h1 (Blk.lt hC)
      have hx := hx.keep h1 hgl
      clear h1 hgl
      go_wp2_with ((refine wpList_store16 (new := bTurn 1 (bSb sb c)) rfl (.tmp 3) (.tmp 33) rfl ?_ ?_ hx ?_); rfl; rfl; intro w5 hy hg2; refine RowKit.Hid.out ?_)
      refine Lib.hid ?_
      have hr := hr.grown hg2 (by intro e; injection e; omega)
      have hC : CiR w5 q ty F more := Blk.grown hC hg2 (by intro e; injection e; have := hql.out; omega)
      have hB := hB.trans (below_of_grown hg2 (Nat.le_refl g) hx.lt)
      have hx := hy
      clear hy hg2
      by_cases hl : r < 14
      · have hli : (r : Int) < 14 := by omega
        have hl := Lib.hid hl
        have hbt := Lib.hid (show By (bTurn 1 (bSb sb c)) from bTurn_by (bSb_by sb_256))
        go_wp2_with ((refine wpList_load16 rfl (.tmp 3) rfl ?_ hx ?_); rfl)
        refine (cCols_mix (bTurn 1 (bSb sb c)) _ hbt.out).mono ?_
        rintro e w6 ⟨rfl, h1⟩
        have hgl := hx.lt
        have hr := hr.keep h1 hr.lt
        have hB := hB.trans (h1.mono (Nat.le_of_lt hgl))
        have hC : CiR w6 q ty F more := Blk.keep hC h1 (Blk.lt hC)
        have hx := hx.keep h1 hgl
        clear h1 hgl
        go_wp2_with ((refine wpList_store16 (new := bCols mixc (bTurn 1 (bSb sb c))) rfl (.tmp 3) (.tmp 37) rfl ?_ ?_ hx ?_); rfl; rfl; intro w7 hy hg2; refine RowKit.Hid.out ?_)
        refine Lib.hid ?_
        have hr := hr.grown hg2 (by intro e; injection e; omega)
        have hC : CiR w7 q ty F more := Blk.grown hC hg2 (by intro e; injection e; have := hql.out; omega)
        have hB := hB.trans (below_of_grown hg2 (Nat.le_refl g) hx.lt)
        have hx := hy
        clear hy hg2
        have hbt := Lib.hid (show By (bCols mixc (bTurn 1 (bSb sb c))) from bCols_by hbt.out (fun _ => mixc_by))
        obtain ⟨v2, hv, hD⟩ := Draws.one w7
        have hx := hD.blk hx
        have hr := hD.blk hr
        have hB := hB.trans (hD.below g)
        have hC : CiR v2 q ty F more := hD.blk hC
        have hK := ciR_key' hC r hlt.out
        go_wp2_with fail
        refine wp_region_still_tail 7 (by kernel_rfl) (by decide +kernel) ?_
        simp only [List.take_succ_cons, List.take_zero, List.drop_succ_cons, List.drop_zero]
        change wpStill _ _ w7.drew _ _ _
        rw [hv]
        repeat (first | (refine still_load_mid (x := .tmp 3) rfl 90 rfl rfl hx.all (row16 _) ?_) | (refine still_load_mid (x := .tmp 43) rfl 90 rfl rfl hK (row16 _) ?_) | still_step)
        refine wpStill_nil ?_
        change wpList _ _ _ _ _ w7.drew
        rw [hv]
        clear hv hD
        go_wp2_with fail
        refine (cSum_any (bCols mixc (bTurn 1 (bSb sb c))) (keyAt F r) _ hbt.out (keyAt_by hF.out _)).mono ?_
        rintro e w8 ⟨rfl, h1⟩
        have hgl := hx.lt
        have hr := hr.keep h1 hr.lt
        have hB := hB.trans (h1.mono (Nat.le_of_lt hgl))
        have hC : CiR w8 q ty F more := Blk.keep hC h1 (Blk.lt hC)
        have hx := hx.keep h1 hgl
        clear h1 hgl
        go_wp2_with ((refine wpList_store16 (new := bAdd (bCols mixc (bTurn 1 (bSb sb c))) (keyAt F r)) rfl (.tmp 3) (.tmp 45) rfl ?_ ?_ hx ?_); rfl; rfl; intro w9 hy hg2; refine RowKit.Hid.out ?_)
        refine Lib.hid ?_
        have hr := hr.grown hg2 (by intro e; injection e; omega)
        have hC : CiR w9 q ty F more := Blk.grown hC hg2 (by intro e; injection e; have := hql.out; omega)
        have hB := hB.trans (below_of_grown hg2 (Nat.le_refl g) hx.lt)
        have hx := hy
        clear hy hg2
        go_wp2
        go_roundw
        case rel => exact ⟨r + 1, by omega, by have := hlt.out; omega, by go_num, by rw [Nat.add_sub_cancel, hnx.out, crnd, mid, if_pos hl.out]; exact hx, hr, hC, hB⟩
        case measure => have := hlt.out; simp [intOf]; omega
      · have hli : ¬ (r : Int) < 14 := by omega
        have hl := Lib.hid hl
        have hbt := Lib.hid (show By (bTurn 1 (bSb sb c)) from bTurn_by (bSb_by sb_256))
        obtain ⟨v2, hv, hD⟩ := Draws.one w5
        have hx := hD.blk hx
        have hr := hD.blk hr
        have hB := hB.trans (hD.below g)
        have hC : CiR v2 q ty F more := hD.blk hC
        have hK := ciR_key' hC r hlt.out
        go_wp2_with fail
        refine wp_region_still_tail 7 (by kernel_rfl) (by decide +kernel) ?_
        simp only [List.take_succ_cons, List.take_zero, List.drop_succ_cons, List.drop_zero]
        change wpStill _ _ w5.drew _ _ _
        rw [hv]
        repeat (first | (refine still_load_mid (x := .tmp 3) rfl 90 rfl rfl hx.all (row16 _) ?_) | (refine still_load_mid (x := .tmp 43) rfl 90 rfl rfl hK (row16 _) ?_) | still_step)
        refine wpStill_nil ?_
        change wpList _ _ _ _ _ w5.drew
        rw [hv]
        clear hv hD
        go_wp2_with fail
        refine (cSum_any (bTurn 1 (bSb sb c)) (keyAt F r) _ hbt.out (keyAt_by hF.out _)).mono ?_
        rintro e w8 ⟨rfl, h1⟩
        have hgl := hx.lt
        have hr := hr.keep h1 hr.lt
        have hB := hB.trans (h1.mono (Nat.le_of_lt hgl))
        have hC : CiR w8 q ty F more := Blk.keep hC h1 (Blk.lt hC)
        have hx := hx.keep h1 hgl
        clear h1 hgl
        go_wp2_with ((refine wpList_store16 (new := bAdd (bTurn 1 (bSb sb c)) (keyAt F r)) rfl (.tmp 3) (.tmp 45) rfl ?_ ?_ hx ?_); rfl; rfl; intro w9 hy hg2; refine RowKit.Hid.out ?_)
        refine Lib.hid ?_
        have hr := hr.grown hg2 (by intro e; injection e; omega)
        have hC : CiR w9 q ty F more := Blk.grown hC hg2 (by intro e; injection e; have := hql.out; omega)
        have hB := hB.trans (below_of_grown hg2 (Nat.le_refl g) hx.lt)
        have hx := hy
        clear hy hg2
        go_wp2
        go_roundw
        case rel => exact ⟨r + 1, by omega, by have := hlt.out; omega, by go_num, by rw [Nat.add_sub_cancel, hnx.out, crnd, mid, if_neg hl.out]; exact hx, hr, hC, hB⟩
        case measure => have := hlt.out; simp [intOf]; omega
    · obtain rfl : r = 15 := by omega
      have hx : Blk wr g 90 (rowN 16 (enc (keyAt F) b)) := hx
      go_wp2_with (first
        | ((refine wpList_load16 rfl (.tmp 3) rfl ?_ hx ?_); rfl)
        | ((refine wpList_store16 (new := enc (keyAt F) b) rfl (.tmp 4) (.tmp 46) rfl ?_ ?_ hr ?_); rfl; rfl; intro w9 hR9 hg9))
      (try simp only [Exit.inBlock, Exit.then])
      refine bodyPost_ret (results_blk rfl rfl hR9 (row16 _)) rfl ?_
      refine ⟨rfl, ?_⟩
      rw [hg.out]
      exact hB.trans (below_of_grown hg9 (by omega) hr.lt)
end Go.Proofs.YtagacpjeooaapaaGreatDoor

/-
  A new cipher as a value: no key yet, a box, and the mark that it was made; a struct of many cells built of parts.
-/
namespace Go.Proofs.YtagacpjeooaapaaGreatDoor
open Go.RowKit

theorem fold_set (off : Nat) : ∀ (X : List Value) (s : Nat) (L : List Value), off + s + X.length ≤ L.length →
    (X.zipIdx s).foldl (fun (cs : Array Value) (p : Value × Nat) => cs.setIfInBounds (off + p.2) p.1) L.toArray = (L.take (off + s) ++ (X ++ L.drop (off + s + X.length))).toArray
  | [], s, L, _ => by simp
  | x :: X, s, L, h => by
    rw [List.zipIdx_cons, List.foldl_cons, List.setIfInBounds_toArray]
    rw [fold_set off X (s + 1) (L.set (off + s) x) (by rw [List.length_set]; simp only [List.length_cons] at h; omega)]
    congr 1
    simp only [List.length_cons] at h ⊢
    have h1 : (L.set (off + s) x).take (off + (s + 1)) = L.take (off + s) ++ [x] := by
      rw [show off + (s + 1) = off + s + 1 by omega, List.take_add_one, List.take_set_of_le (Nat.le_refl _), List.getElem?_set_self (by omega)]
      rfl
    have h2 : (L.set (off + s) x).drop (off + (s + 1) + X.length) = L.drop (off + s + (X.length + 1)) := by
      rw [List.drop_set_of_lt (by omega), show off + (s + 1) + X.length = off + s + (X.length + 1) by omega]
    rw [h1, h2]
    simp
theorem zeroCi : Zero Tryz.prog 96 (ciCells zf zf zf false false) := by unfold Zero; kernel_rfl
theorem placesCi : (match Tryz.prog.underlying 96 with | some (.struct fs) => fs.toList.mapM (fun f => (Tryz.prog.info? f.type).map fun i => (f.offset, i.size)) | _ => none) = some [(0, 240), (240, 513), (753, 1)] := by kernel_rfl
theorem fill_one (place : Nat → Option (Nat × Nat)) (L : List Value) (i off size : Nat) (v : Value) (X : List Value) (rest : List (Nat × Value)) (hp : place i = some (off, size)) (hv : v.cells = X.toArray) (hs : X.length = size) (hf : off + X.length ≤ L.length) :
    Instr.fill place L.toArray ((i, v) :: rest) = Instr.fill place (L.take off ++ (X ++ L.drop (off + X.length))).toArray rest := by
  subst hs
  have h := fold_set off X 0 L (by omega)
  rw [Nat.add_zero] at h
  rw [Instr.fill, hp, hv, ← h]
  simp only [List.size_toArray, ne_eq, not_true_eq_false, decide_false, Bool.false_or, Array.zipIdx_toArray]
  rw [if_neg (by simp; omega)]
  simp
set_option maxRecDepth 100000 in
theorem built_ci (f h : Nat → Nat) : Tryz.prog.built 96 [(1, Value.agg (boxCells f h true).toArray), (2, Value.bool true)] = some (ciCells zf f h true true).toArray := by
  have hz := zeroCi
  have hp := placesCi
  unfold Zero at hz
  unfold Program.built
  rw [Tryz.underlying96] at hp ⊢
  cases hi : Tryz.prog.info? 96 with
  | none => rw [hi] at hz; cases hz
  | some it =>
    rw [hi] at hz
    have hz' : it.zero = some (.agg (ciCells zf zf zf false false).toArray) := hz
    dsimp only at hp ⊢
    rw [hp, hz']
    dsimp only
    rw [show (Value.agg (ciCells zf zf zf false false).toArray).cells = (ciCells zf zf zf false false).toArray from rfl]
    rw [fill_one _ _ 1 240 513 _ (boxCells f h true) _ rfl rfl (boxCells_len _ _ _) (by rw [ciCells_len, boxCells_len]; decide)]
    rw [fill_one _ _ 2 753 1 _ [.bool true] _ rfl rfl rfl (by simp [boxCells_len, ciCells_len])]
    rw [Instr.fill]
    refine congrArg (fun l : List Value => some l.toArray) ?_
    have hl : (rowN 240 zf).length = 240 := rowN_len _ _
    have e1 : (ciCells zf zf zf false false).take 240 = rowN 240 zf := by
      unfold ciCells; rw [List.take_append_of_le_length (by rw [hl]; exact Nat.le_refl _), List.take_of_length_le (by rw [hl]; exact Nat.le_refl _)]
    have e2 : (ciCells zf zf zf false false).drop (240 + (boxCells f h true).length) = [.bool false] := by
      unfold ciCells; rw [boxCells_len, List.drop_append, hl, List.drop_of_length_le (by rw [hl]; decide), List.nil_append, show 240 + 513 - 240 = 513 from rfl, List.drop_append, boxCells_len, List.drop_of_length_le (by rw [boxCells_len]; exact Nat.le_refl _)]; rfl
    rw [e1, e2]
    have e3 : (rowN 240 zf ++ (boxCells f h true ++ [Value.bool false])).take 753 = rowN 240 zf ++ boxCells f h true := by
      rw [← List.append_assoc, List.take_append_of_le_length (by rw [List.length_append, hl, boxCells_len]; exact Nat.le_refl _), List.take_of_length_le (by rw [List.length_append, hl, boxCells_len]; exact Nat.le_refl _)]
    have e4 : (rowN 240 zf ++ (boxCells f h true ++ [Value.bool false])).drop (753 + [Value.bool true].length) = [] := List.drop_of_length_le (by simp [hl, boxCells_len])
    rw [e3, e4]
    simp [ciCells]
end Go.Proofs.YtagacpjeooaapaaGreatDoor

/-
  Texts of stages that were proved on their own, joined: RzDoc, RzCall, RzOpen, RzOpens. Each begins with its own words.
-/
import Derived.Test.YtnblknhdchpboaaGreatDoorJRzAll15
import Derived.Test.YtnblknhdchpboaaGreatDoorJRzAll32
import Derived.Test.YtnblknhdchpboaaGreatDoorJRzAll20
import Derived.Test.YtnblknhdchpboaaGreatDoorJRzAll5

/-
  The document's disk in a function of the document (layer 20): the parameter boxed at G, the answer's cell behind it; what the calls leave. New memory alone is written. Conditions: a disk with fewer than 2^41 steps a file.
-/
namespace Go.Proofs.YtnblknhdchpboaaGreatDoor
open Go.RowKit

/-- G: the boxed disk holds xs, G + 1: the answer's cell holds ys; the value cs is the disk D. -/
structure Doc (R0 : Nat → Prop) (w : World) (G : Nat) (W : World) (xs ys cs : List Value) (D : DkV) : Prop where
  x : Blk W G 37 xs
  y : Blk W (G + 1) 37 ys
  b : Below w.heap.size w W
  d : ∃ R, RDisk R W cs D ∧ ∀ b, R b → b < W.heap.size ∧ b ≠ G ∧ b ≠ G + 1 ∧ (R0 b ∨ w.heap.size ≤ b)
  g : w.heap.size = G
theorem Doc.start {R0 : Nat → Prop} {w : World} {cs : List Value} {D : DkV} (ys : List Value) (h : RDisk R0 w cs D) (hR : ∀ b, R0 b → b < w.heap.size) : Doc R0 w w.heap.size ((w.alloc (.cells cs.toArray 37)).alloc (.cells ys.toArray 37)) cs ys cs D := by
  have hb := below2 w (.cells cs.toArray 37) (.cells ys.toArray 37)
  refine ⟨(Blk.new w _ cs).alloc _, Blk.new1 w _ _ ys, hb, ⟨R0, h.keep hb, fun b k => ?_⟩, rfl⟩
  have := hR b k
  exact ⟨Nat.lt_of_lt_of_le this hb.size, by omega, by omega, .inl k⟩
section
variable {R0 : Nat → Prop} {w W W' : World} {G : Nat} {xs ys cs cs' : List Value} {D D' : DkV} {T : Nat}
theorem Doc.keep (h : Doc R0 w G W xs ys cs D) (hb : Below W.heap.size W W') : Doc R0 w G W' xs ys cs D := by
  obtain ⟨R, h1, h2⟩ := h.d
  exact ⟨h.x.keep hb h.x.lt, h.y.keep hb h.y.lt, h.b.trans (hb.mono h.b.size), ⟨R, h1.keep hb, fun b k => ⟨Nat.lt_of_lt_of_le (h2 b k).1 hb.size, (h2 b k).2⟩⟩, h.g⟩
theorem Doc.next (h : Doc R0 w G W xs ys cs D) {R : Nat → Prop} (hR : ∀ b, R b → b < W.heap.size ∧ b ≠ G ∧ b ≠ G + 1 ∧ (R0 b ∨ w.heap.size ≤ b)) (k : RDisk (fun b => R b ∨ W.heap.size ≤ b) W' cs' D') (hb : Below W.heap.size W W') : Doc R0 w G W' xs ys cs' D' := by
  have h1 := h.y.lt
  have h2 := h.b.size
  refine ⟨h.x.keep hb h.x.lt, h.y.keep hb h.y.lt, h.b.trans (hb.mono h.b.size), ⟨_, k.lt, fun b hn => ⟨hn.2, ?_⟩⟩, h.g⟩
  rcases hn.1 with hn | hn
  · exact (hR b hn).2
  · exact ⟨by omega, by omega, .inr (by omega)⟩
theorem Doc.setx (h : Doc R0 w G W xs ys cs D) (hb : Blk W' G 37 cs') (hg : W.grownBy W' (some G)) : Doc R0 w G W' cs' ys cs D := by
  obtain ⟨R, h1, h2⟩ := h.d
  refine ⟨hb, h.y.grown hg (fun e => by injection e; omega), h.b.grown hg h.b.size (fun q hq => by injection hq with hq; rw [← hq, ← h.g]; exact Nat.le_refl _), ⟨R, h1.same (fun b hb hl => hg.block b hl (fun e => by injection e with e; exact (h2 b hb).2.1 e)) (fun _ h => h), fun b k => ⟨Nat.lt_of_lt_of_le (h2 b k).1 hg.size, (h2 b k).2⟩⟩, h.g⟩
theorem Doc.sety (h : Doc R0 w G W xs ys cs D) (hb : Blk W' (G + 1) 37 cs') (hg : W.grownBy W' (some (G + 1))) : Doc R0 w G W' xs cs' cs D := by
  obtain ⟨R, h1, h2⟩ := h.d
  refine ⟨h.x.grown hg (fun e => by injection e; omega), hb, h.b.grown hg h.b.size (fun q hq => by injection hq with hq; rw [← hq, ← h.g]; omega), ⟨R, h1.same (fun b hb hl => hg.block b hl (fun e => by injection e with e; exact (h2 b hb).2.2.1 e)) (fun _ h => h), fun b k => ⟨Nat.lt_of_lt_of_le (h2 b k).1 hg.size, (h2 b k).2⟩⟩, h.g⟩
theorem Doc.done (h : Doc R0 w G W xs ys cs D) : RDisk (fun b => R0 b ∨ w.heap.size ≤ b) W cs D ∧ Below w.heap.size w W := by
  obtain ⟨R, h1, h2⟩ := h.d
  exact ⟨h1.wide (fun b k => (h2 b k).2.2.2), h.b⟩
theorem Doc.ddc (h : Doc R0 w G W xs ys cs D) : DdC cs D.room D.fuse D.down := by
  obtain ⟨R, h1, _⟩ := h.d
  exact h1.ddc
theorem Doc.row (h : Doc R0 w G W xs ys cs D) : IsRow Tryz.prog 37 cs.length := by rw [h.ddc.l]; exact rowDd

theorem Doc.append (h : Doc R0 w G W xs ys cs D) (hO : D.Ok T) (hT : T ≤ 3518437208882) (file : Int) {a : Option Addr} {n c : Nat} {bs : List Int} (hI : Ints .u8 W a n c bs) (hn : n ≤ 140737488355328) {e : Int} (he : apD D file bs = (D', e)) :
    Calls Tryz.prog 14 #[.agg cs.toArray, .int .i64 file, .slice a n c] W fun q W' => ∃ cs', q = .returned (.tuple #[.agg cs'.toArray, .int .i64 e]) ∧ Doc R0 w G W' xs ys cs' D' := by
  obtain ⟨R, hd, hR⟩ := h.d
  have hc := fAppend_any file hd (fun b k => (hR b k).1) hO hT hI hn
  rw [he] at hc
  exact hc.mono fun q W' ⟨cs', eq, k, hb⟩ => ⟨cs', eq, h.next hR k hb⟩

theorem Doc.cut (h : Doc R0 w G W xs ys cs D) (hO : D.Ok T) (hT : T ≤ 3518437208882) (file n : Int) {e : Int} (he : ctD D file n = (D', e)) :
    Calls Tryz.prog 31 #[.agg cs.toArray, .int .i64 file, .int .i64 n] W fun q W' => ∃ cs', q = .returned (.tuple #[.agg cs'.toArray, .int .i64 e]) ∧ Doc R0 w G W' xs ys cs' D' := by
  obtain ⟨R, hd, hR⟩ := h.d
  have hc := fCut_any file n hd (fun b k => (hR b k).1) hO hT
  rw [he] at hc
  exact hc.mono fun q W' ⟨cs', eq, k, hb⟩ => ⟨cs', eq, h.next hR k hb⟩

theorem Doc.sync (h : Doc R0 w G W xs ys cs D) (hO : D.Ok T) (hT : T ≤ 4398046511104) (file : Int) {e : Int} (he : syD D file = (D', e)) :
    Calls Tryz.prog 33 #[.agg cs.toArray, .int .i64 file] W fun q W' => ∃ cs', q = .returned (.tuple #[.agg cs'.toArray, .int .i64 e]) ∧ Doc R0 w G W' xs ys cs' D' := by
  obtain ⟨R, hd, hR⟩ := h.d
  have hc := fSync_any file hd (fun b k => (hR b k).1) hO hT
  rw [he] at hc
  exact hc.mono fun q W' ⟨cs', eq, k, hb⟩ => ⟨cs', eq, h.next hR k hb⟩

/-- A file's own two cells. -/
theorem Doc.file (h : Doc R0 w G W cs ys cs D) (i : Nat) (hi : i < 3) : ∃ c R, W.rangeAt G (i * 2) c ∧ c.length = 2 ∧ RFile R W c (D.f i) := by
  obtain ⟨R, hd, _⟩ := h.d
  obtain ⟨h1, h2⟩ := hd.co i hi
  exact ⟨fileC cs i, R, h.x.range _ _ h1, h2.len, h2⟩
end

theorem z_holds {R : Nat → Prop} {w : World} {c : List Value} {v : FlV} (h : RFile R w c v) (ho : FOk v) {X : List Int} (hX : v.held = X) {N : Nat} (hN : X.length = N) :
    Calls Tryz.prog 29 #[.agg c.toArray] w fun q w' => ∃ b c, q = .returned (.slice b N c) ∧ Ints .u8 w' b N c X ∧ Below w.heap.size w w' := by
  subst hN; subst hX
  exact (fHolds_any h ho).mono fun q w' ⟨b, c, e, k, hb⟩ => ⟨b, c, e, own_ints' k, hb⟩

theorem z_units {R : Nat → Prop} {w : World} {c : List Value} {v : FlV} (h : RFile R w c v) (ho : FOk v) {N : Nat} (hN : v.units = N) :
    Calls Tryz.prog 32 #[.agg c.toArray] w fun q w' => q = .returned (.int .i64 (N : Int)) ∧ Below w.heap.size w w' := by
  have h1 := ho.u
  have h2 := ho.l
  subst hN
  exact fUnits_any h (by show ((v.units : Nat) : Int) < _; omega) (by omega)

theorem z_scan {w : World} {a : Option Addr} {n c : Nat} {xs : List Int} (hI : Ints .u8 w a n c xs) (hr : ∀ x ∈ xs, isByte x) (hn : n ≤ 1000000000) {B : Nat} (hB : B ≤ w.heap.size) {ps : List (List Int)} (hp : allF xs = ps) {G : Nat} (hg : goodF xs = G) :
    Calls Tryz.prog 30 #[.slice a n c] w fun q w' => ∃ v, q = .returned (.tuple #[v, .int .i64 (G : Int)]) ∧ RowsO w' B 0 v ps ∧ Below w.heap.size w w' := by
  subst hp; subst hg
  exact (r19Scan_any a n c xs (numF xs) (numF_fr xs) w hI hr hn).mono fun q w' ⟨v, e, h, hb⟩ => ⟨v, e, h.low hB, hb⟩
end Go.Proofs.YtnblknhdchpboaaGreatDoor

/-
  The document's own roll (layer 20): Clear, Append, Bodies and Open. New memory alone is written. Conditions: a disk with fewer than 2^41 steps a file; the files hold bytes.
-/
namespace Go.Proofs.YtnblknhdchpboaaGreatDoor
open Go.RowKit


set_option maxRecDepth 100000 in
set_option maxHeartbeats 2000000 in
theorem r20Clear_any {R : Nat → Prop} {w : World} {cs : List Value} {D : DkV} {T : Nat} (file : Int) (h2 : RDisk R w cs D) (hRl : ∀ b, R b → b < w.heap.size) (hO : D.Ok T) (hT : T ≤ 3518437208882) :
    Calls Tryz.prog 12 #[.agg cs.toArray, .int .i64 file] w fun q w' => Answers R w q w' (keD D file 0) := by
  obtain ⟨RD, RE, hR⟩ : ∃ RD RE, keD D file 0 = (RD, RE) := ⟨_, _, rfl⟩
  rw [hR]
  obtain ⟨D1, e1, he1⟩ : ∃ D1 e1, ctD D file 0 = (D1, e1) := ⟨_, _, rfl⟩
  have hok := ctD_ok hO file 0
  unfold keD at hR
  rw [he1] at hok hR
  dsimp only at hok hR
  have hl := h2.ddc.l
  obtain ⟨zs, hzs⟩ : ∃ zs, ddZ = zs := ⟨_, rfl⟩
  have hz := zeroDd
  have hzl := ddZ_len
  rw [hzs] at hz hzl
  have d0 := Doc.start zs h2 hRl
  obtain ⟨W, hW⟩ : ∃ W, (w.alloc (.cells cs.toArray 37)).alloc (.cells zs.toArray 37) = W := ⟨_, rfl⟩
  obtain ⟨G, hG⟩ : ∃ G, w.heap.size = G := ⟨_, rfl⟩
  rw [hW, hG] at d0
  have hWH := Lib.hid hW
  have hGH := Lib.hid hG
  clear hzs hW hG h2 hRl
  have cC := d0.cut hO hT file 0 he1
  by_cases h0 : e1 = 0
  · subst h0
    rw [if_pos rfl] at hR
    have hRH := Lib.hid hR
    have okH := Lib.hid hok
    clear hR hok hO he1
    go_enter Tryz.func12, Tryz.ntmps12
    go_wp2_with ((with_reducible refine box_row rfl 37 (.tmp 0) rfl cs rfl ?_); refine RowKit.Hid.out ?_)
    refine Lib.hid ?_
    refine wpList_alloc_blk rfl 37 rfl hz ?_
    rw [hWH.out, size1, hGH.out]
    go_wp2_with ((with_reducible refine wpList_load_blk rfl 37 (.tmp 2) rfl ?_ d0.x rowDd hl ?_); rfl)
    refine cC.mono ?_
    rintro q W1 ⟨cs1, rfl, d1⟩
    have l1 := d1.ddc.l
    have o1 := d1.ddc.o
    clear cC d0
    go_wp2_with ((with_reducible refine store_row rfl 37 (.tmp 2) _ rfl ?_ ?_ d1.x rowDd l1 hl o1 ?_); rfl; rfl; intro W2 bx gx; refine RowKit.Hid.out ?_)
    refine Lib.hid ?_
    have d2 := d1.setx bx gx
    have cS := d2.sync okH.out (by omega) file hRH.out
    clear bx gx d1
    go_wp2_with ((with_reducible refine wpList_load_blk rfl 37 (.tmp 2) rfl ?_ d2.x rowDd l1 ?_); rfl)
    refine cS.mono ?_
    rintro q W3 ⟨cs3, rfl, d3⟩
    have l3 := d3.ddc.l
    have o3 := d3.ddc.o
    have row3 := d3.row
    clear cS d2
    go_wp2_with ((with_reducible refine store_row rfl 37 (.tmp 4) _ rfl ?_ ?_ d3.y rowDd l3 hzl o3 ?_); rfl; rfl; intro W4 by' gy; refine RowKit.Hid.out ?_)
    refine Lib.hid ?_
    have d4 := d3.sety by' gy
    have fin := d4.done
    have hb4 := d4.y
    clear by' gy d3 d4
    go_wp2
    refine bodyPost_ret (results_bt18 rfl rfl hb4 row3) rfl ?_
    exact ⟨cs3, rfl, fin.1, fin.2⟩
  · rw [if_neg h0] at hR
    injection hR with hR1 hR2
    subst hR1; subst hR2
    clear hok hO he1
    go_enter Tryz.func12, Tryz.ntmps12
    go_wp2_with ((with_reducible refine box_row rfl 37 (.tmp 0) rfl cs rfl ?_); refine RowKit.Hid.out ?_)
    refine Lib.hid ?_
    refine wpList_alloc_blk rfl 37 rfl hz ?_
    rw [hWH.out, size1, hGH.out]
    go_wp2_with ((with_reducible refine wpList_load_blk rfl 37 (.tmp 2) rfl ?_ d0.x rowDd hl ?_); rfl)
    refine cC.mono ?_
    rintro q W1 ⟨cs1, rfl, d1⟩
    have l1 := d1.ddc.l
    have o1 := d1.ddc.o
    have row1 := d1.row
    clear cC d0
    go_wp2_with ((with_reducible refine store_row rfl 37 (.tmp 2) _ rfl ?_ ?_ d1.x rowDd l1 hl o1 ?_); rfl; rfl; intro W2 bx gx; refine RowKit.Hid.out ?_)
    refine Lib.hid ?_
    have d2 := d1.setx bx gx
    clear bx gx d1
    go_wp2_with (first
      | ((with_reducible refine wpList_load_blk rfl 37 (.tmp 2) rfl ?_ d2.x rowDd l1 ?_); rfl)
      | ((with_reducible refine store_row rfl 37 (.tmp 4) _ rfl ?_ ?_ d2.y rowDd l1 hzl o1 ?_); rfl; rfl; intro W4 by' gy; refine RowKit.Hid.out ?_))
    refine Lib.hid ?_
    have d4 := d2.sety by' gy
    have fin := d4.done
    have hb4 := d4.y
    clear by' gy d2 d4
    go_wp2
    refine bodyPost_ret (results_bt18 rfl rfl hb4 row1) rfl ?_
    exact ⟨cs1, rfl, fin.1, fin.2⟩
end Go.Proofs.YtnblknhdchpboaaGreatDoor

/-
  The document's own roll (layer 20): Append, Bodies and Open. New memory alone is written. Conditions: a disk with at most 3518437208882 steps a file; the files hold bytes.
-/
namespace Go.Proofs.YtnblknhdchpboaaGreatDoor
open Go.RowKit


set_option maxRecDepth 100000 in
set_option maxHeartbeats 2000000 in
theorem r20Append_any {R : Nat → Prop} {w : World} {cs : List Value} {D : DkV} {T : Nat} (file : Int) {a : Option Addr} {n c : Nat} {bs : List Int} (h2 : RDisk R w cs D) (hRl : ∀ b, R b → b < w.heap.size) (hO : D.Ok T) (hT : T ≤ 3518437208882) (hI : Ints .u8 w a n c bs) (hb : ∀ x ∈ bs, isByte x) (hn : n ≤ 140737488355328) :
    Calls Tryz.prog 10 #[.agg cs.toArray, .int .i64 file, .slice a n c] w fun q w' => Answers R w q w' (prD D file bs) := by
  obtain ⟨RD, RE, hR⟩ : ∃ RD RE, prD D file bs = (RD, RE) := ⟨_, _, rfl⟩
  rw [hR]
  unfold prD at hR
  have hIk := hI
  have hl := h2.ddc.l
  obtain ⟨zs, hzs⟩ : ∃ zs, ddZ = zs := ⟨_, rfl⟩
  have hz := zeroDd
  have hzl := ddZ_len
  rw [hzs] at hz hzl
  have d0 := Doc.start zs h2 hRl
  obtain ⟨W, hW⟩ : ∃ W, (w.alloc (.cells cs.toArray 37)).alloc (.cells zs.toArray 37) = W := ⟨_, rfl⟩
  obtain ⟨G, hG⟩ : ∃ G, w.heap.size = G := ⟨_, rfl⟩
  rw [hW, hG] at d0
  have hWH := Lib.hid hW
  have hGH := Lib.hid hG
  have hIW : Ints .u8 W a n c bs := hI.keep d0.b
  have hE := r19Encode_any a n c bs W hIW hb hn
  have Dk := Lib.hid (fun W' (q : Below W.heap.size W W') => d0.keep q)
  have hok := apD_ok hO file (frB bs)
  have dx := d0.x
  clear hzs hW hG h2 hRl hI hIk hIW
  by_cases hno : bs.length < 1 ∨ 65536 < bs.length
  · rw [if_pos hno] at hR
    injection hR with hR1 hR2
    subst hR1; subst hR2
    have he : encF bs = ([], 1) := by unfold encF; rw [if_pos hno]
    rw [he] at hE
    dsimp only at hE
    clear he hno hok hO hb hn d0
    go_enter Tryz.func10, Tryz.ntmps10
    go_wp2_with ((with_reducible refine box_row rfl 37 (.tmp 0) rfl cs rfl ?_); refine RowKit.Hid.out ?_)
    refine Lib.hid ?_
    refine wpList_alloc_blk rfl 37 rfl hz ?_
    rw [hWH.out, size1, hGH.out]
    go_wp2_with fail
    refine hE.mono ?_
    rintro q W1 ⟨b1, e1, rfl, _, q1⟩
    have d1 := Dk.out W1 q1
    have l1 := d1.ddc.l
    have o1 := d1.ddc.o
    have row1 := d1.row
    clear hE q1 Dk dx
    go_wp2_with (first
      | ((with_reducible refine wpList_load_blk rfl 37 (.tmp 3) rfl ?_ d1.x rowDd l1 ?_); rfl)
      | ((with_reducible refine store_row rfl 37 (.tmp 6) _ rfl ?_ ?_ d1.y rowDd l1 hzl o1 ?_); rfl; rfl; intro W4 by' gy; refine RowKit.Hid.out ?_))
    refine Lib.hid ?_
    have d4 := d1.sety by' gy
    have fin := d4.done
    have hb4 := d4.y
    clear by' gy d1 d4
    go_wp2
    refine bodyPost_ret (results_bt18 rfl rfl hb4 row1) rfl ?_
    exact ⟨cs, rfl, fin.1, fin.2⟩
  rw [if_neg hno] at hR
  have he : encF bs = (frB bs, 0) := by unfold encF; rw [if_neg hno]
  rw [he] at hE
  dsimp only at hE
  have hML : (frB bs).length ≤ 140737488355328 := by rw [frB_len]; omega
  obtain ⟨M, hM⟩ : ∃ M, frB bs = M := ⟨_, rfl⟩
  rw [hM] at hE hok hR hML
  obtain ⟨N, hN⟩ : ∃ N, M.length = N := ⟨_, rfl⟩
  rw [hN] at hE hML
  obtain ⟨D1, e1, he1⟩ : ∃ D1 e1, apD D file M = (D1, e1) := ⟨_, _, rfl⟩
  rw [he1] at hok hR
  dsimp only at hok hR
  have cA := Lib.hid (fun W' (q : Below W.heap.size W W') (b : Option Addr) (e : Nat) (I : Ints .u8 W' b N e M) => (d0.keep q).append hO hT file I hML he1)
  clear he hno hO hb hn d0 hM hN he1 hML
  by_cases h0 : e1 = 0
  · subst h0
    rw [if_pos rfl] at hR
    have hRH := Lib.hid hR
    have okH := Lib.hid hok
    clear hR hok
    go_enter Tryz.func10, Tryz.ntmps10
    go_wp2_with ((with_reducible refine box_row rfl 37 (.tmp 0) rfl cs rfl ?_); refine RowKit.Hid.out ?_)
    refine Lib.hid ?_
    refine wpList_alloc_blk rfl 37 rfl hz ?_
    rw [hWH.out, size1, hGH.out]
    go_wp2_with fail
    refine hE.mono ?_
    rintro q W1 ⟨b1, e1, rfl, ho, q1⟩
    have x1 := dx.keep q1 dx.lt
    have cA1 := cA.out W1 q1 b1 e1 (own_ints' ho)
    clear hE q1 Dk dx cA ho
    go_wp2_with ((with_reducible refine wpList_load_blk rfl 37 (.tmp 3) rfl ?_ x1 rowDd hl ?_); rfl)
    refine cA1.mono ?_
    rintro q W2 ⟨cs2, rfl, d2⟩
    have l2 := d2.ddc.l
    have o2 := d2.ddc.o
    clear cA1 x1
    go_wp2_with ((with_reducible refine store_row rfl 37 (.tmp 3) _ rfl ?_ ?_ d2.x rowDd l2 hl o2 ?_); rfl; rfl; intro W3 bx gx; refine RowKit.Hid.out ?_)
    refine Lib.hid ?_
    have d3 := d2.setx bx gx
    have cS := d3.sync okH.out (by omega) file hRH.out
    clear bx gx d2
    go_wp2_with ((with_reducible refine wpList_load_blk rfl 37 (.tmp 3) rfl ?_ d3.x rowDd l2 ?_); rfl)
    refine cS.mono ?_
    rintro q W4 ⟨cs4, rfl, d4⟩
    have l4 := d4.ddc.l
    have o4 := d4.ddc.o
    have row4 := d4.row
    clear cS d3
    go_wp2_with ((with_reducible refine store_row rfl 37 (.tmp 6) _ rfl ?_ ?_ d4.y rowDd l4 hzl o4 ?_); rfl; rfl; intro W5 by' gy; refine RowKit.Hid.out ?_)
    refine Lib.hid ?_
    have d5 := d4.sety by' gy
    have fin := d5.done
    have hb5 := d5.y
    clear by' gy d4 d5
    go_wp2
    refine bodyPost_ret (results_bt18 rfl rfl hb5 row4) rfl ?_
    exact ⟨cs4, rfl, fin.1, fin.2⟩
  · rw [if_neg h0] at hR
    injection hR with hR1 hR2
    subst hR1; subst hR2
    clear hok
    go_enter Tryz.func10, Tryz.ntmps10
    go_wp2_with ((with_reducible refine box_row rfl 37 (.tmp 0) rfl cs rfl ?_); refine RowKit.Hid.out ?_)
    refine Lib.hid ?_
    refine wpList_alloc_blk rfl 37 rfl hz ?_
    rw [hWH.out, size1, hGH.out]
    go_wp2_with fail
    refine hE.mono ?_
    rintro q W1 ⟨b1, e1', rfl, ho, q1⟩
    have x1 := dx.keep q1 dx.lt
    have cA1 := cA.out W1 q1 b1 e1' (own_ints' ho)
    clear hE q1 Dk dx cA ho
    go_wp2_with ((with_reducible refine wpList_load_blk rfl 37 (.tmp 3) rfl ?_ x1 rowDd hl ?_); rfl)
    refine cA1.mono ?_
    rintro q W2 ⟨cs2, rfl, d2⟩
    have l2 := d2.ddc.l
    have o2 := d2.ddc.o
    have row2 := d2.row
    clear cA1 x1
    go_wp2_with ((with_reducible refine store_row rfl 37 (.tmp 3) _ rfl ?_ ?_ d2.x rowDd l2 hl o2 ?_); rfl; rfl; intro W3 bx gx; refine RowKit.Hid.out ?_)
    refine Lib.hid ?_
    have d3 := d2.setx bx gx
    clear bx gx d2
    go_wp2_with (first
      | ((with_reducible refine wpList_load_blk rfl 37 (.tmp 3) rfl ?_ d3.x rowDd l2 ?_); rfl)
      | ((with_reducible refine store_row rfl 37 (.tmp 6) _ rfl ?_ ?_ d3.y rowDd l2 hzl o2 ?_); rfl; rfl; intro W4 by' gy; refine RowKit.Hid.out ?_))
    refine Lib.hid ?_
    have d4 := d3.sety by' gy
    have fin := d4.done
    have hb4 := d4.y
    clear by' gy d3 d4
    go_wp2
    refine bodyPost_ret (results_bt18 rfl rfl hb4 row2) rfl ?_
    exact ⟨cs2, rfl, fin.1, fin.2⟩

theorem held_len20 {D : DkV} {T : Nat} (hO : D.Ok T) (z : Int) : (heldR D z).length ≤ 65536 := Nat.le_trans (FlV.held_le _) (hO.f _).need

set_option maxRecDepth 100000 in
set_option maxHeartbeats 2000000 in
theorem r20Bodies_0 {R : Nat → Prop} {w : World} {cs : List Value} {D : DkV} {T : Nat} (h2 : RDisk R w cs D) (hO : D.Ok T) (hT : T ≤ 4398046511104) (hD : D.By) {ps : List (List Int)} (hp : allF (heldR D 0) = ps) :
    Calls Tryz.prog 22 #[.agg cs.toArray, .int .i64 0] w fun q w' => ∃ v, q = .returned v ∧ RowsO w' w.heap.size 0 v ps ∧ Below w.heap.size w w' := by
  have hby : ∀ x ∈ heldR D 0, isByte x := (hD.f _).held
  have hle := held_len20 hO 0
  have hfo := (hO.f 0).fok (by omega)
  obtain ⟨f1, f2⟩ := h2.co 0 (by decide)
  have cl := f2.len
  obtain ⟨c, hc⟩ : ∃ c, fileC cs 0 = c := ⟨_, rfl⟩
  rw [hc] at f1 f2 cl
  have crow : IsRow Tryz.prog 34 c.length := by rw [cl]; exact rowRf
  have b1 := below1 w (.cells cs.toArray 37)
  have x1 := Blk.new w 37 cs
  obtain ⟨W, hW⟩ : ∃ W, w.alloc (.cells cs.toArray 37) = W := ⟨_, rfl⟩
  rw [hW] at b1 x1
  have fr : W.rangeAt w.heap.size 0 c := x1.range _ _ f1
  obtain ⟨X, hX⟩ : ∃ X, heldR D 0 = X := ⟨_, rfl⟩
  obtain ⟨N, hN⟩ : ∃ N, X.length = N := ⟨_, rfl⟩
  rw [hX] at hby hle hp
  rw [hN] at hle
  have cH := z_holds (f2.keep b1) hfo hX hN
  have cS := Lib.hid (fun W' (q : W.heap.size ≤ W'.heap.size) (a : Option Addr) (e : Nat) (I : Ints .u8 W' a N e X) => z_scan I hby (by omega) (Nat.le_trans b1.size q) hp rfl)
  have hWH := Lib.hid hW
  have bH := Lib.hid b1
  obtain ⟨G, hG⟩ : ∃ G, w.heap.size = G := ⟨_, rfl⟩
  rw [hG] at fr
  have hGH := Lib.hid hG
  clear h2 hO hT hD hby hle hfo f1 f2 hc b1 x1 hX hN hp hW hG
  go_enter Tryz.func22, Tryz.ntmps22
  go_wp2_with ((with_reducible refine box_row rfl 37 (.tmp 0) rfl cs rfl ?_); refine RowKit.Hid.out ?_)
  refine Lib.hid ?_
  rw [hWH.out, hGH.out]
  go_wp2_with ((with_reducible refine wpList_load_part rfl 34 (.tmp 10) rfl ?_ c fr crow ?_); rfl)
  refine cH.mono ?_
  rintro q W1 ⟨a1, c1, rfl, I1, q1⟩
  have cS1 := cS.out W1 q1.size a1 c1 I1
  have B1 := Lib.hid (bH.out.trans (q1.mono bH.out.size))
  clear cH cS I1 q1
  go_wp2_with fail
  refine cS1.mono ?_
  rintro q W2 ⟨v2, rfl, R2, q2⟩
  have RH := Lib.hid R2
  have B2 := B1.out.trans (q2.mono B1.out.size)
  clear cS1 R2 q2
  go_wp2
  go_ret
  exact ⟨_, rfl, RH.out, B2⟩

end Go.Proofs.YtnblknhdchpboaaGreatDoor

/-
  The document's own roll (layer 20): Open. New memory alone is written. Conditions: a disk that is up, with at most 3518437208882 steps a file; the files hold bytes.
-/
namespace Go.Proofs.YtnblknhdchpboaaGreatDoor
open Go.RowKit


theorem range_keep20 {w w' : World} {g o : Nat} {cs : List Value} (h : w.rangeAt g o cs) (hb : Below w.heap.size w w') : w'.rangeAt g o cs := fun j v hj => by
  rw [hb.cell (World.block_lt_of_cell? w _ (h j v hj))]
  exact h j v hj
theorem ctD_units {D D1 : DkV} {z n : Int} (hz : 0 ≤ z ∧ z < 3) (h : ctD D z n = (D1, 0)) : 0 < (D1.f z.toNat).units := by
  unfold ctD at h
  split at h
  · injection h with _ h; cases h
  split at h
  · injection h with _ h; cases h
  injection h with h1 _
  rw [← h1]
  have hb : ∀ E : DkV, E.burn.f z.toNat = E.f z.toNat := fun E => by unfold DkV.burn; split <;> rfl
  rw [hb, DkV.set_f _ _ (toNat_lt3 hz), FlV.step_units]
  simp [StV.units]

set_option maxRecDepth 100000 in
set_option maxHeartbeats 4000000 in
theorem r20Open_0 {R : Nat → Prop} {w : World} {cs : List Value} {D : DkV} {T : Nat} (h2 : RDisk R w cs D) (hRl : ∀ b, R b → b < w.heap.size) (hO : D.Ok T) (hT : T ≤ 3518437208882) (hD : D.By) (hd : D.down = false) :
    Calls Tryz.prog 8 #[.agg cs.toArray, .int .i64 0] w fun q w' => Answers R w q w' (mdD D 0) := by
  have hby : ∀ x ∈ heldR D 0, isByte x := (hD.f _).held
  have hle := held_len20 hO 0
  have hfo := (hO.f 0).fok (by omega)
  obtain ⟨RD, RE, hR⟩ : ∃ RD RE, mdD D 0 = (RD, RE) := ⟨_, _, rfl⟩
  rw [hR]
  unfold mdD at hR
  rw [show (0 : Int).toNat = 0 from rfl] at hR
  have hr1 : ¬ D.room = 0 := by have := hO.room; omega
  have hddc := h2.ddc
  have hl := h2.ddc.l
  obtain ⟨zs, hzs⟩ : ∃ zs, ddZ = zs := ⟨_, rfl⟩
  have hz := zeroDd
  have hzl := ddZ_len
  rw [hzs] at hz hzl
  have d0 := Doc.start zs h2 hRl
  obtain ⟨W, hW⟩ : ∃ W, (w.alloc (.cells cs.toArray 37)).alloc (.cells zs.toArray 37) = W := ⟨_, rfl⟩
  obtain ⟨G, hG⟩ : ∃ G, w.heap.size = G := ⟨_, rfl⟩
  rw [hW, hG] at d0
  have hWH := Lib.hid hW
  have hGH := Lib.hid hG
  obtain ⟨c, Rc, fr, cl, hf⟩ := d0.file 0 (by decide)
  have fr : W.rangeAt G 0 c := fr
  have crow : IsRow Tryz.prog 34 c.length := by rw [cl]; exact rowRf
  have e6 := d0.x.cell 6
  have e8 := d0.x.cell 8
  rw [hddc.r] at e6
  rw [hddc.d, hd] at e8
  obtain ⟨r, hr⟩ : ∃ r, D.room = r := ⟨_, rfl⟩
  rw [hr] at e6 hr1
  obtain ⟨X, hX⟩ : ∃ X, heldR D 0 = X := ⟨_, rfl⟩
  obtain ⟨N, hN⟩ : ∃ N, X.length = N := ⟨_, rfl⟩
  obtain ⟨g, hg⟩ : ∃ g, goodF X = g := ⟨_, rfl⟩
  obtain ⟨U, hU⟩ : ∃ U, (D.f 0).units = U := ⟨_, rfl⟩
  have hgle := goodF_le X
  rw [hX] at hby hle hR
  rw [hN] at hle hR hgle
  rw [hg] at hR hgle
  rw [hU] at hR
  have hgn : ((g : Nat) : Int) ≤ 65536 := by omega
  have hnn : ((N : Nat) : Int) ≤ 65536 := by omega
  have cH := z_holds hf hfo hX hN
  have cS := Lib.hid (fun W' (q : W.heap.size ≤ W'.heap.size) (a : Option Addr) (e : Nat) (I : Ints .u8 W' a N e X) => z_scan I hby (by omega) q rfl hg)
  have cU := Lib.hid (fun W' (q : Below W.heap.size W W') => z_units (hf.keep q) hfo hU)
  have Dk := Lib.hid (fun W' (q : Below W.heap.size W W') => d0.keep q)
  have okH := Lib.hid hO
  have hTH := Lib.hid hT
  have hT1 := Lib.hid (show T + 1 ≤ 4398046511104 by omega)
  have hRH := Lib.hid hR
  have frH := Lib.hid fr
  clear hzs hW hG h2 hRl hO hT hD hd hby hle hfo hddc hr hX hN hg hU hgle hR hf d0
  go_enter Tryz.func8, Tryz.ntmps8
  go_wp2_with ((with_reducible refine box_row rfl 37 (.tmp 0) rfl cs rfl ?_); refine RowKit.Hid.out ?_)
  refine Lib.hid ?_
  refine wpList_alloc_blk rfl 37 rfl hz ?_
  rw [hWH.out, size1, hGH.out]
  go_wp2_with ((with_reducible refine wpList_load_part rfl 34 (.tmp 26) rfl ?_ c fr crow ?_); rfl)
  refine cH.mono ?_
  rintro q W1 ⟨a1, c1, rfl, I1, q1⟩
  have cS1 := cS.out W1 q1.size a1 c1 I1
  have B1 := Lib.hid q1
  clear cH cS I1 q1 e6 e8 fr
  go_wp2_with fail
  refine cS1.mono ?_
  rintro q W2 ⟨v2, rfl, _, q2⟩
  have B2 := Lib.hid (chain B1.out q2)
  clear cS1 q2 B1
  by_cases hlt : g < N
  · have hlt' : ((g : Nat) : Int) < ((N : Nat) : Int) := Int.ofNat_lt.2 hlt
    have hR := hRH.out
    rw [if_pos hlt] at hR
    unfold keD at hR
    have d2 := Dk.out W2 B2.out
    obtain ⟨D1, e1, he1⟩ : ∃ D1 e1, ctD D 0 (g : Int) = (D1, e1) := ⟨_, _, rfl⟩
    have hok1 := ctD_ok okH.out 0 (g : Int)
    rw [he1] at hok1 hR
    dsimp only at hok1 hR
    have cC := d2.cut okH.out hTH.out 0 (g : Int) he1
    have x2 := d2.x
    have o1H := Lib.hid hok1
    clear hlt hRH cU Dk d2 hok1
    by_cases h0 : e1 = 0
    · subst h0
      rw [if_pos rfl] at hR
      have hRH := Lib.hid hR
      have hun := ctD_units (z := 0) (by decide) he1
      obtain ⟨U1, hU1⟩ : ∃ U, (D1.f 0).units = U := ⟨_, rfl⟩
      have hun : 0 < U1 := by rw [← hU1]; exact hun
      have hui : (0 : Int) < (U1 : Int) := Int.natCast_pos.2 hun
      clear hR he1
      go_wp2_with ((with_reducible refine wpList_load_blk rfl 37 (.tmp 2) rfl ?_ x2 rowDd hl ?_); rfl)
      refine cC.mono ?_
      rintro q W3 ⟨cs3, rfl, d3⟩
      have l3 := d3.ddc.l
      have o3 := d3.ddc.o
      clear cC x2
      go_wp2_with ((with_reducible refine store_row rfl 37 (.tmp 2) _ rfl ?_ ?_ d3.x rowDd l3 hl o3 ?_); rfl; rfl; intro W4 bx gx; refine RowKit.Hid.out ?_)
      refine Lib.hid ?_
      have d4 := d3.setx bx gx
      clear bx gx d3
      obtain ⟨c4, R4, fr4, cl4, hf4⟩ := d4.file 0 (by decide)
      have fr4 : W4.rangeAt G 0 c4 := fr4
      have crow4 : IsRow Tryz.prog 34 c4.length := by rw [cl4]; exact rowRf
      have cU4 := z_units hf4 ((o1H.out.f 0).fok hT1.out) hU1
      have Dk4 := Lib.hid (fun W' (q : Below W4.heap.size W4 W') => d4.keep q)
      clear hf4 cl4 d4 hun hU1
      go_wp2_with ((with_reducible refine load_pif rfl 34 (.tmp 50) rfl ?_ c4 fr4 crow4 ?_); rfl)
      refine cU4.mono ?_
      rintro q W5 ⟨rfl, q5⟩
      have d5 := Dk4.out W5 q5
      have x5 := d5.x
      have cS5 := d5.sync o1H.out hT1.out 0 hRH.out
      clear cU4 q5 Dk4 d5 fr4 crow4
      go_wp2_with ((with_reducible refine wpList_load_blk rfl 37 (.tmp 2) rfl ?_ x5 rowDd l3 ?_); rfl)
      refine cS5.mono ?_
      rintro q W6 ⟨cs6, rfl, d6⟩
      have l6 := d6.ddc.l
      have o6 := d6.ddc.o
      have row6 := d6.row
      clear cS5 x5
      go_wp2_with ((with_reducible refine store_row rfl 37 (.tmp 2) _ rfl ?_ ?_ d6.x rowDd l6 l3 o6 ?_); rfl; rfl; intro W7 bx gx; refine RowKit.Hid.out ?_)
      refine Lib.hid ?_
      have d7 := d6.setx bx gx
      clear bx gx d6
      go_wp2_with (first
        | ((with_reducible refine wpList_load_blk rfl 37 (.tmp 2) rfl ?_ d7.x rowDd l6 ?_); rfl)
        | ((with_reducible refine store_row rfl 37 (.tmp 4) _ rfl ?_ ?_ d7.y rowDd l6 hzl o6 ?_); rfl; rfl; intro W8 by' gy; refine RowKit.Hid.out ?_))
      refine Lib.hid ?_
      have d8 := d7.sety by' gy
      have fin := d8.done
      have hb8 := d8.y
      clear by' gy d7 d8
      go_wp2
      refine bodyPost_ret (results_bt18 rfl rfl hb8 row6) rfl ?_
      exact ⟨cs6, rfl, fin.1, fin.2⟩
    · rw [if_neg h0] at hR
      injection hR with hR1 hR2
      subst hR1; subst hR2
      clear he1
      go_wp2_with ((with_reducible refine wpList_load_blk rfl 37 (.tmp 2) rfl ?_ x2 rowDd hl ?_); rfl)
      refine cC.mono ?_
      rintro q W3 ⟨cs3, rfl, d3⟩
      have l3 := d3.ddc.l
      have o3 := d3.ddc.o
      have row3 := d3.row
      clear cC x2
      go_wp2_with ((with_reducible refine store_row rfl 37 (.tmp 2) _ rfl ?_ ?_ d3.x rowDd l3 hl o3 ?_); rfl; rfl; intro W4 bx gx; refine RowKit.Hid.out ?_)
      refine Lib.hid ?_
      have d4 := d3.setx bx gx
      clear bx gx d3
      go_wp2_with (first
        | ((with_reducible refine wpList_load_blk rfl 37 (.tmp 2) rfl ?_ d4.x rowDd l3 ?_); rfl)
        | ((with_reducible refine store_row rfl 37 (.tmp 4) _ rfl ?_ ?_ d4.y rowDd l3 hzl o3 ?_); rfl; rfl; intro W8 by' gy; refine RowKit.Hid.out ?_))
      refine Lib.hid ?_
      have d8 := d4.sety by' gy
      have fin := d8.done
      have hb8 := d8.y
      clear by' gy d4 d8
      go_wp2
      refine bodyPost_ret (results_bt18 rfl rfl hb8 row3) rfl ?_
      exact ⟨cs3, rfl, fin.1, fin.2⟩
  · have hlt' : ¬ ((g : Nat) : Int) < ((N : Nat) : Int) := fun h => hlt (Int.ofNat_lt.1 h)
    have hR := hRH.out
    rw [if_neg hlt] at hR
    have cU2 := cU.out W2 B2.out
    have d2 := Dk.out W2 B2.out
    have fr2 : W2.rangeAt G 0 c := range_keep20 frH.out B2.out
    have Dk2 := Lib.hid (fun W' (q : Below W2.heap.size W2 W') => d2.keep q)
    clear hlt hRH cU Dk d2
    by_cases hu : 0 < U
    · have hui : (0 : Int) < (U : Int) := Int.natCast_pos.2 hu
      rw [if_pos hu] at hR
      have hRH := Lib.hid hR
      clear hR hu
      go_wp2_with ((with_reducible refine load_pif rfl 34 (.tmp 50) rfl ?_ c fr2 crow ?_); rfl)
      refine cU2.mono ?_
      rintro q W5 ⟨rfl, q5⟩
      have d5 := Dk2.out W5 q5
      have x5 := d5.x
      have cS5 := d5.sync okH.out (Nat.le_trans hTH.out (by decide)) 0 hRH.out
      clear cU2 q5 Dk2 d5 fr2
      go_wp2_with ((with_reducible refine wpList_load_blk rfl 37 (.tmp 2) rfl ?_ x5 rowDd hl ?_); rfl)
      refine cS5.mono ?_
      rintro q W6 ⟨cs6, rfl, d6⟩
      have l6 := d6.ddc.l
      have o6 := d6.ddc.o
      have row6 := d6.row
      clear cS5 x5
      go_wp2_with ((with_reducible refine store_row rfl 37 (.tmp 2) _ rfl ?_ ?_ d6.x rowDd l6 hl o6 ?_); rfl; rfl; intro W7 bx gx; refine RowKit.Hid.out ?_)
      refine Lib.hid ?_
      have d7 := d6.setx bx gx
      clear bx gx d6
      go_wp2_with (first
        | ((with_reducible refine wpList_load_blk rfl 37 (.tmp 2) rfl ?_ d7.x rowDd l6 ?_); rfl)
        | ((with_reducible refine store_row rfl 37 (.tmp 4) _ rfl ?_ ?_ d7.y rowDd l6 hzl o6 ?_); rfl; rfl; intro W8 by' gy; refine RowKit.Hid.out ?_))
      refine Lib.hid ?_
      have d8 := d7.sety by' gy
      have fin := d8.done
      have hb8 := d8.y
      clear by' gy d7 d8
      go_wp2
      refine bodyPost_ret (results_bt18 rfl rfl hb8 row6) rfl ?_
      exact ⟨cs6, rfl, fin.1, fin.2⟩
    · have hui : ¬ (0 : Int) < (U : Int) := fun h => hu (Int.natCast_pos.1 h)
      rw [if_neg hu] at hR
      injection hR with hR1 hR2
      subst hR1; subst hR2
      clear hu
      go_wp2_with ((with_reducible refine load_pif rfl 34 (.tmp 50) rfl ?_ c fr2 crow ?_); rfl)
      refine cU2.mono ?_
      rintro q W5 ⟨rfl, q5⟩
      have d5 := Dk2.out W5 q5
      have l5 := d5.ddc.l
      have o5 := d5.ddc.o
      have row5 := d5.row
      clear cU2 q5 Dk2 fr2
      go_wp2_with (first
        | ((with_reducible refine wpList_load_blk rfl 37 (.tmp 2) rfl ?_ d5.x rowDd l5 ?_); rfl)
        | ((with_reducible refine store_row rfl 37 (.tmp 4) _ rfl ?_ ?_ d5.y rowDd l5 hzl o5 ?_); rfl; rfl; intro W8 by' gy; refine RowKit.Hid.out ?_))
      refine Lib.hid ?_
      have d8 := d5.sety by' gy
      have fin := d8.done
      have hb8 := d8.y
      clear by' gy d5 d8
      go_wp2
      refine bodyPost_ret (results_bt18 rfl rfl hb8 row5) rfl ?_
      exact ⟨cs, rfl, fin.1, fin.2⟩

end Go.Proofs.YtnblknhdchpboaaGreatDoor

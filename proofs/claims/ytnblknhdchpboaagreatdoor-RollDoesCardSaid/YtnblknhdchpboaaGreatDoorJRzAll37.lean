/-
  Texts of stages that were proved on their own, joined: RzLaw. Each begins with its own words.
-/
import Derived.Test.YtnblknhdchpboaaGreatDoorJRzAll9
import Derived.Test.YtnblknhdchpboaaGreatDoorJRzAll36
import Derived.Test.YtnblknhdchpboaaGreatDoorJRzAll15
import Derived.Test.YtnblknhdchpboaaGreatDoorJRzAll34
import Derived.Test.YtnblknhdchpboaaGreatDoorJRzAll8

/-
  The law RollDoes: whatever is done to a roll, each answer, its bodies and what the disk holds are as the document says. New memory alone is written. Conditions: the calls are of the sizes that the rows' own reach gives.
-/
namespace Go.Proofs.YtnblknhdchpboaaGreatDoor
open Go.RowKit

def dd20 (r : Int) : List Value := ddC (rfC none 0 0 none 0 0) (rfC none 0 0 none 0 0) (rfC none 0 0 none 0 0) (dk0 r)
theorem built_dd20 (r : Int) : Tryz.prog.built 37 [(1, .int .i64 r)] = some (dd20 r).toArray := by kernel_rfl
theorem dd20_at (w : World) (r : Int) : RDisk (fun _ => False) w (dd20 r) (dk0 r) :=
  have h : RFile (fun _ => False) w (rfC none 0 0 none 0 0) ⟨[], []⟩ := ⟨none, 0, none, 0, rfl, ⟨rfl, Nat.le_refl _, .inl rfl⟩, fun _ _ h => absurd h (Nat.lt_irrefl 0), RSteps.empty _ _⟩
  ⟨_, _, _, rfl, h, h, h⟩
theorem two_of20 {B : Nat} {w0 w : World} {g : Nat} {r : Int} (h : DkOwn B w0 w g (dk0 r)) : Two (fun _ => False) B w0 w g (dd20 r) (dk0 r) (dk0 r) := by
  obtain ⟨L, P, h1, h2⟩ := h.is
  exact ⟨L, P, fun _ => False, h1, dd20_at w r, fun _ h => h.elim, h2, fun _ h => h.elim, h.b, h.s⟩
theorem t_crash {E : Nat → Prop} {B : Nat} {w0 w : World} {g : Nat} {cs : List Value} {D D' : DkV} {T : Nat} {a : Option Addr} {n c : Nat} {us : List Int} (h : Two E B w0 w g cs D D') (hO : D.Ok T) (hT : T < 4398046511104) (hI : Ints .i64 w a n c us) (ho : ∀ x, a = some x → 0 < n → E x.block) :
    Calls Tryz.prog 17 #[.pointer (some ⟨g, 0, none⟩), .slice a n c] w fun q w' => q = .returned (.tuple #[]) ∧ Two E B w0 w' g cs (crD D us) D' ∧ Same E w w' := by
  obtain ⟨L, P, R, h⟩ := h
  exact (dCrash_any h.k hO (by omega) hI (fun x hx hn => (h.e _ (ho x hx hn)).2.1)).mono fun q w' ⟨e, k⟩ => ⟨e, h.prog k⟩
theorem open_dk0 {r : Int} : mdD (dk0 r) 0 = (dk0 r, 0) := by
  rw [kp0 r 0]
  exact md_whole (z := 0) (by decide) [] bod0
def gE (G ro : Nat) : Nat → Prop := fun b => b = G ∨ b = ro


theorem few20 {D : DkV} {T : Nat} (h : D.Ok T) : numF (heldR D 0) ≤ 1000000000 := by
  have h1 := numF_le (heldR D 0)
  have h2 := held_len20 h 0
  omega
theorem gE_store {B G ro g : Nat} {w0 w w' : World} {cs : List Value} {D D' : DkV} {z : Int} {F : Nat → Prop} (hT : Two F B w0 w g cs D D') (hF : ∀ b, gE G ro b → F b) (hR : RollAt w ro g z) (hne : ro ≠ G) (hg : w.grownBy w' (some G)) (hB : B ≤ G) : Two (gE G ro) B w0 w' g cs D D' ∧ RollAt w' ro g z :=
  ⟨(hT.grown hg (hF _ (.inl rfl)) hB).less hF, (hg.block ro hR.lt (fun e => by injection e with e; exact hne e)).trans hR⟩


set_option maxRecDepth 100000 in
set_option maxHeartbeats 4000000 in
theorem law_rydoes (R : Int) (a : Option Addr) (m k : Nat) (ops : List OpR) (w : World) (hG : Glob11 w) (_ : (Lit.int .i64 R).wf = true) (hO : OpsR w a m k ops) (hsz : m ≤ 3518437208883 ∧ ∀ o ∈ ops, o.bn ≤ 140737488355328) :
    Calls Tryz.prog 3 #[.agg #[.int .i64 R, .slice a m k]] w fun q w' => q = .returned (.bool true) ∧ Below w.heap.size w w' := by
  have hszH := Lib.hid hsz
  have HG := Lib.hid hG
  have hb0 := below1 w (.cells #[.int .i64 R, .slice a m k] 24)
  have hs0 := size1 w (.cells #[.int .i64 R, .slice a m k] 24)
  have B0 : Blk (w.alloc (.cells #[.int .i64 R, .slice a m k] 24)) w.heap.size 24 [.int .i64 R, .slice a m k] := Blk.new w 24 [.int .i64 R, .slice a m k]
  have d0 := B0.cell 0
  have d1 := B0.cell 1
  obtain ⟨W, hW⟩ : ∃ W1, w.alloc (.cells #[.int .i64 R, .slice a m k] 24) = W1 := ⟨_, rfl⟩
  rw [hW] at hb0 hs0 d0 d1
  have hBL := hb0
  have d0 : W.cell? ⟨w.heap.size, 0, none⟩ = some (.int .i64 R) := d0
  have d1 : W.cell? ⟨w.heap.size, 1, none⟩ = some (.slice a m k) := d1
  have hO1 := Lib.hid (hO.keep hBL)
  have HGW := Lib.hid (hG.keep hBL (Nat.le_refl _))
  have d1W := Lib.hid d1
  have hWH := Lib.hid hW
  clear B0 hb0 hs0 hO hW hsz hG
  go_enter Tryz.func3, Tryz.ntmps3
  go_wp2_with ((with_reducible refine box_row rfl 24 (.tmp 0) rfl [.int .i64 R, .slice a m k] rfl ?_); refine RowKit.Hid.out ?_)
  refine Lib.hid ?_
  have e1 := hWH.out
  rw [show ([Value.int .i64 R, .slice a m k].toArray) = #[.int .i64 R, .slice a m k] from rfl, e1]
  clear e1
  by_cases hR : R < 1 ∨ 65536 < R
  · have hN := dNew_no (w := W) R hR
    have hsm := small20_any hO1.out hszH.out.1
    clear hR
    go_wp2_with fail
    refine hN.mono ?_
    rintro q w3 ⟨rfl, rfl⟩
    clear hN
    go_wp2_with fail
    refine hsm.mono ?_
    rintro q w2 ⟨b, rfl, b2⟩
    have hBL := hBL.trans (b2.mono hBL.size)
    clear hsm b2 d0 d1 hO1 hWH
    cases b
    · go_wp2_with fail
      refine (alive20_any _ (HG.out.keep hBL (Nat.le_refl _))).mono ?_
      rintro q wz ⟨rfl, bz⟩
      have hBz := hBL.trans (bz.mono hBL.size)
      clear bz hBL
      go_wp2
      go_ret
      exact ⟨rfl, hBz⟩
    · go_wp2_with fail
      refine (alive20_any _ (HG.out.keep hBL (Nat.le_refl _))).mono ?_
      rintro q wz ⟨rfl, bz⟩
      have hBz := hBL.trans (bz.mono hBL.size)
      clear bz hBL
      go_wp2
      go_ret
      exact ⟨rfl, hBz⟩
  have hR1 : ¬ R < 1 := fun h => hR (.inl h)
  have hR2 : ¬ 65536 < R := fun h => hR (.inr h)
  have hN := new_own (w := W) R ⟨Int.not_lt.1 hR1, Int.not_lt.1 hR2⟩
  have o0 := Lib.hid (dk0_ok R ⟨Int.not_lt.1 hR1, Int.not_lt.1 hR2⟩)
  clear hR
  go_wp2_with fail
  refine hN.mono ?_
  rintro q w2 ⟨g, rfl, h2⟩
  have hO2 := Lib.hid (hO1.out.keep h2.b)
  have d0' : w2.cell? ⟨w.heap.size, 0, none⟩ = some (.int .i64 R) := by rw [h2.b.cell (World.block_lt_of_cell? W _ d0)]; exact d0
  have d1' : w2.cell? ⟨w.heap.size, 1, none⟩ = some (.slice a m k) := by rw [h2.b.cell (World.block_lt_of_cell? W _ d1)]; exact d1
  have hsm := small20_any hO2.out hszH.out.1
  have t2 := Lib.hid (two_of20 h2)
  clear hN h2 d0 d1
  go_wp2_with fail
  refine hsm.mono ?_
  rintro q w3 ⟨b, rfl, b3⟩
  have d0 : w3.cell? ⟨w.heap.size, 0, none⟩ = some (.int .i64 R) := by rw [b3.cell (World.block_lt_of_cell? w2 _ d0')]; exact d0'
  have d1 : w3.cell? ⟨w.heap.size, 1, none⟩ = some (.slice a m k) := by rw [b3.cell (World.block_lt_of_cell? w2 _ d1')]; exact d1'
  have t3 := t2.out.keep b3
  clear hsm b3 d0' d1' hO2 t2 hWH
  cases b
  · have hBL := hBL.trans (t3.b.mono hBL.size)
    clear d0 d1 hO1 t3
    go_wp2_with fail
    refine (alive20_any _ (HG.out.keep hBL (Nat.le_refl _))).mono ?_
    rintro q wz ⟨rfl, bz⟩
    have hBz := hBL.trans (bz.mono hBL.size)
    clear bz hBL
    go_wp2
    go_ret
    exact ⟨rfl, hBz⟩
  have hbd := built_dd20 R
  have hcl : (dd20 R).length = 9 := rfl
  have hco := t3.ddc.o
  obtain ⟨C0, hC0⟩ : ∃ C, dd20 R = C := ⟨_, rfl⟩
  rw [hC0] at hbd hcl t3 hco
  obtain ⟨zs, hzs⟩ : ∃ zs, ddZ = zs := ⟨_, rfl⟩
  have hz := zeroDd
  have hzl := ddZ_len
  rw [hzs] at hz hzl
  have n5 := Blk.new w3 37 zs
  have q5 := below1 w3 (.cells zs.toArray 37)
  have s5H := Lib.hid (size1 w3 (.cells zs.toArray 37))
  have q5H := Lib.hid q5
  have hBLH := Lib.hid hBL
  have D1H := Lib.hid d1
  clear hBL hC0 hzs q5 d1
  go_wp2_with (first
    | ((with_reducible refine build_row rfl 37 #[(1, .tmp 27)] rfl (cells := C0.toArray) ?_ ?_); (refine Eq.trans (congrArg _ ?_) hbd; kernel_rfl))
    | (with_reducible refine wpList_alloc_blk rfl 37 rfl hz ?_)
    | (refine store_row rfl 37 (.tmp 5) _ rfl rfl rfl n5 rowDd hcl hzl hco ?_
       intro w4 b5 g5
       refine RowKit.Hid.out ?_))
  refine Lib.hid ?_
  have q6 : Below w3.heap.size w3 w4 := q5H.out.trans (below_of_grown g5 (Nat.le_refl _) (by rw [s5H.out]; omega))
  have h4 : Two (fun b => b = w3.heap.size) W.heap.size W w4 g C0 (dk0 R) (dk0 R) := t3.keepE q6 (fun b hb => .inr ⟨by omega, by rw [hb]; exact b5.lt⟩)
  have hBG := t3.s
  obtain ⟨G, hGe⟩ : ∃ G, w3.heap.size = G := ⟨_, rfl⟩
  have D1 : w4.cell? ⟨w.heap.size, 1, none⟩ = some (.slice a m k) := (q6.cell (World.block_lt_of_cell? w3 _ D1H.out)).trans D1H.out
  rw [hGe] at b5 h4 hBG
  rw [hGe]
  have BGH := Lib.hid hBG
  have b4lt := b5.lt
  have D1H := Lib.hid D1
  have oy : (dk0 R).By := dk0_by R
  have ou : (dk0 R).down = false := rfl
  have cO := t_open (z := 0) h4 o0.out (by decide) oy (by decide) HGW.out (Nat.le_refl _) ou open_dk0
  clear g5 q6 t3 n5 hGe s5H q5H d0 hbd hcl hco hR1 hR2 D1
  go_wp2_with fail
  refine cO.mono ?_
  rintro q w5 ⟨ro, rfl, r5, l5, h5, s5⟩
  have b5 : Blk w5 G 37 C0 := s5.blk b5 rfl
  have cQ := q_open h5 o0.out (by decide) oy ou open_dk0
  have l5' := h5.ddc.l
  clear cO h4 D1H
  go_wp2_with ((with_reducible refine wpList_load_blk rfl 37 (.tmp 5) rfl ?_ b5 rowDd l5' ?_); rfl)
  refine cQ.mono ?_
  rintro q w6 ⟨cs6, rfl, h6, q6⟩
  have b6 := b5.keep q6 b5.lt
  have r6 := r5.keep q6
  have l6 := h6.ddc.l
  have o6 := h6.ddc.o
  have hne : ro ≠ G := fun e => by have h1 := b4lt; omega
  clear cQ q6 r5 b5 h5 s5
  go_wp2_with ((with_reducible refine store_row rfl 37 (.tmp 5) _ rfl ?_ ?_ b6 rowDd l6 l5' o6 ?_); rfl; rfl; intro w7 b7 g7; refine RowKit.Hid.out ?_)
  refine Lib.hid ?_
  obtain ⟨h7, r7⟩ := gE_store h6 (fun _ h => h) r6 hne g7 BGH.out
  have D1 : w7.cell? ⟨w.heap.size, 1, none⟩ = some (.slice a m k) := (h7.b.cell (World.block_lt_of_cell? W _ d1W.out)).trans d1W.out
  clear h6 r6 b6 g7 l5' l6 o6 l5 b4lt
  go_wp2_with fail
  go_loopw [6, 7, 8, 49] (fun rv _ _ i wr => ∃ (j ro : Nat) (cs : List Value) (D : DkV), j ≤ m ∧ i = .int .i64 j ∧ rv = .pointer (some ⟨ro, 0, none⟩) ∧ ro ≠ G ∧ D.Ok j ∧ D.By ∧ RollAt wr ro g 0 ∧ Two (gE G ro) W.heap.size W wr g cs D D ∧ Blk wr G 37 cs) (fun _ _ _ i _ => m - (intOf i).toNat)
  case atStart => exact ⟨0, ro, cs6, dk0 R, Nat.zero_le _, rfl, rfl, hne, o0.out, oy, r7, h7, b7⟩
  case round =>
    clear h7 r7 b7 hne D1
    obtain ⟨j, ro, cs, D, hj, rfl, rfl, hne, hOk, hBy, hR, hT, bG⟩ := hrel
    by_cases hlt : j < m
    · have hji : (j : Int) < (m : Int) := Int.ofNat_lt.2 hlt
      have hjb : (m : Int) ≤ 3518437208883 := by have := hszH.out.1; omega
      have HjT := Lib.hid (show j ≤ 3518437208882 ∧ j < 4398046511103 ∧ j + 1 ≤ 4398046511104 by have := hszH.out.1; omega)
      obtain ⟨b, off, o, rfl, ho, hr, _⟩ := (hO1.out.keep hT.b).get j hlt
      have hmem := List.mem_of_getElem? ho
      have HK := Lib.hid (fun w' (q : Below W.heap.size W w') => (hO1.out.keep q).ok o hmem)
      have Hbn := Lib.hid (hszH.out.2 o hmem)
      have hl := hT.ddc.l
      have hol : o.cells.length = 3 := rfl
      have hone := Lib.hid o.one
      have hIr : IsRow Tryz.prog 44 o.cells.length := rowOpR
      obtain ⟨kk, hkk⟩ : ∃ x, o.k = x := ⟨_, rfl⟩
      obtain ⟨N, hNn⟩ : ∃ x, o.n = x := ⟨_, rfl⟩
      have z0 : o.cells[0]? = some (.int .i64 kk) := by rw [← hkk]; rfl
      have z1 : o.cells[1]? = some (.int .i64 N) := by rw [← hNn]; rfl
      have z2 : o.cells[2]? = some (.slice o.ba o.bn o.bc) := rfl
      have HN := Lib.hid (show N < 9223372036854775808 by rw [← hNn]; exact (HK.out wr hT.b).n.2)
      obtain ⟨C, hC⟩ : ∃ C, o.cells = C := ⟨_, rfl⟩
      rw [hC] at hr hol hone hIr z0 z1 z2
      have hZ := zeroOpR
      have hZl : opZR.length = 3 := rfl
      obtain ⟨ZL, hZL⟩ : ∃ z, opZR = z := ⟨_, rfl⟩
      rw [hZL] at hZ hZl
      have hnew := Blk.new wr 44 ZL
      have hB1 := below1 wr (.cells ZL.toArray 44)
      have hltH := Lib.hid hlt
      have TH := Lib.hid hT
      have GH := Lib.hid bG
      have RH := Lib.hid hR
      have OH := Lib.hid hOk
      have YH := Lib.hid hBy
      clear hC hlt hj ho hmem hkk hNn hZL hT bG hR hOk hBy
      go_wp2_with (first
        | ((with_reducible refine wpList_load_part rfl 44 (.tmp 51) rfl ?_ C hr hIr ?_); rfl)
        | (with_reducible refine wpList_alloc_blk rfl 44 rfl hZ ?_)
        | (refine wpList_store_part (cs := C) rfl 44 (.tmp 10) (.tmp 52) rfl rfl rfl hnew hIr ?_ hone.out ?_
           (rw [hol, hZl]; decide)
           intro w5 hk5 hg5
           refine RowKit.Hid.out ?_))
      refine Lib.hid ?_
      rw [overV_all _ _ (by rw [hol, hZl])] at hk5
      have hB5 : Below wr.heap.size wr w5 := hB1.trans (below_of_grown hg5 (Nat.le_refl _) (by rw [size1]; omega))
      have lt5 := hk5.lt
      have h5 : Two (fun b => gE G ro b ∨ b = wr.heap.size) W.heap.size W w5 g cs D D := TH.out.keepE hB5 (fun b hb => hb.imp id (fun hb => by rw [hb]; exact ⟨Nat.le_refl _, lt5⟩))
      have b5 := GH.out.keep hB5 GH.out.lt
      have r5 := RH.out.keep hB5
      obtain ⟨M, hM⟩ : ∃ M, wr.heap.size = M := ⟨_, rfl⟩
      rw [hM] at hk5 h5
      rw [hM]
      have c0 := (hk5.cell 0).trans z0
      have c1 := (hk5.cell 1).trans z1
      have c2 := (hk5.cell 2).trans z2
      clear hnew hB1 hr hg5 hB5 lt5 hM TH GH RH hIr hol hZ hZl
      by_cases k0 : kk = 0
      · subst k0
        obtain ⟨D1, e1, he⟩ : ∃ D1 e1, prD D 0 o.bs = (D1, e1) := ⟨_, _, rfl⟩
        have ok1 := prD_ok OH.out 0 o.bs
        have by1 := prD_by YH.out 0 o.bs (HK.out w5 h5.b).br
        rw [he] at ok1 by1
        have ok1H := Lib.hid ok1
        have by1H := Lib.hid by1
        have heH := Lib.hid he
        have cP := t_put (z := 0) h5 r5 (.inl (.inr rfl)) OH.out HjT.out.2.1 HGW.out (Nat.le_refl _) (HK.out w5 h5.b).b (HK.out w5 h5.b).br Hbn.out he
        clear ok1 by1 he
        go_wp2_with fail
        refine cP.mono ?_
        rintro q w6 ⟨rfl, h6, s6⟩
        have b6 : Blk w6 G 37 cs := s6.blk b5 (.inl (.inl rfl))
        have r6 : RollAt w6 ro g 0 := s6.blk r5 (.inl (.inr rfl))
        have x6 := s6.blk hk5 (.inr rfl)
        clear cP h5 b5 r5 s6 hk5 c0 c1 c2
        have c1 := (x6.cell 1).trans z1
        have c2 := (x6.cell 2).trans z2
        have cQ := q_put h6 OH.out HjT.out.1 (HK.out w6 h6.b).b (HK.out w6 h6.b).br Hbn.out heH.out
        go_wp2_with ((with_reducible refine wpList_load_blk rfl 37 (.tmp 5) rfl ?_ b6 rowDd hl ?_); rfl)
        refine cQ.mono ?_
        rintro q w7 ⟨cs1, rfl, h7, q7⟩
        have b7 := b6.keep q7 b6.lt
        have r7 := r6.keep q7
        have l7 := h7.ddc.l
        have o7 := h7.ddc.o
        clear cQ q7 h6 b6 r6
        go_wp2_with ((with_reducible refine store_row rfl 37 (.tmp 5) _ rfl ?_ ?_ b7 rowDd l7 hl o7 ?_); rfl; rfl; intro w9 b9 g9; refine RowKit.Hid.out ?_)
        refine Lib.hid ?_
        obtain ⟨h9, r9⟩ := gE_store h7 (fun _ h => .inl h) r7 hne g9 BGH.out
        obtain ⟨ro1, rfl⟩ : ∃ r, r = ro := ⟨_, rfl⟩
        have ok1 := ok1H.out
        have by1 := by1H.out
        have hne1 := hne
        clear h7 r7 b7 g9 l7 o7 x6
        clear c1 c2 hl z0 z1 z2 OH YH ok1H by1H heH
        have hee : (e1 != e1) = false := bne_self_eq_false e1
        obtain ⟨ps, hps⟩ : ∃ ps, allF (heldR D1 0) = ps := ⟨_, rfl⟩
        obtain ⟨nn, hnn⟩ : ∃ n, numF (heldR D1 0) = n := ⟨_, rfl⟩
        obtain ⟨NN, hNN⟩ : ∃ n, (heldR D1 0).length = n := ⟨_, rfl⟩
        have hpl := Lib.hid (show ps.length = nn by rw [← hps, ← hnn]; exact allF_len _)
        have hpr := Lib.hid (show ∀ p ∈ ps, ∀ y ∈ p, 0 ≤ y ∧ y < 256 by rw [← hps]; exact allF_range (by1.f 0).held)
        have hpb := Lib.hid (show nn ≤ 1000000000 by rw [← hnn]; exact few20 ok1)
        have l1 := h9.ddc.l
        have row1 : IsRow Tryz.prog 37 cs1.length := by rw [l1]; exact rowDd
        have S0 : Below w9.heap.size w9 w9.drew := (Below.refl _ _).drew
        have CL := Lib.hid (fun w' (q : Below w9.heap.size w9 w') => like20_any (h9.keep q) ok1 HjT.out.2.2)
        have CB := Lib.hid (fun w' (q : Below w9.heap.size w9 w') => t_bodies (z := 0) (h9.keep q) (r9.keep q) ok1 by1 (by decide) HGW.out (Nat.le_refl _) hps)
        have CQ := Lib.hid (fun w' (q : Below w9.heap.size w9 w') => q_bodies (h9.keep q) ok1 HjT.out.2.2 by1 hps)
        have CN := Lib.hid (fun w' (q : Below w9.heap.size w9 w') => t_len (z := 0) (h9.keep q) (r9.keep q) ok1 by1 (by decide) HGW.out (Nat.le_refl _) hnn)
        have CZ := Lib.hid (fun w' (q : Below w9.heap.size w9 w') => t_size (z := 0) (h9.keep q) (r9.keep q) ok1 (by decide) hNN)
        have CD := Lib.hid (fun w' (q : Below w9.heap.size w9 w') => t_dsize (z := 0) (h9.keep q) ok1 (by decide) hNN)
        have XB := Lib.hid (fun w' (q : Below w9.heap.size w9 w') => b9.keep q b9.lt)
        have fin9 := Lib.hid (fun w' (q : Below w9.heap.size w9 w') => (⟨h9.keep q, r9.keep q, b9.keep q b9.lt⟩ : Two (gE G ro1) W.heap.size W w' g cs1 D1 D1 ∧ RollAt w' ro1 g 0 ∧ Blk w' G 37 cs1))
        have OK1 := Lib.hid (show D1.Ok (j + 1) ∧ D1.By ∧ ro1 ≠ G from ⟨ok1, by1, hne1⟩)
        clear hps hnn hNN l1 h9 r9 b9 ok1 by1 hne1
        go_wp2_with fail
        refine region_seqS (fun w' => Below w9.heap.size w9 w') (by kernel_rfl) S0 ?_
        simp only [pairs, Nat.reduceAdd]
        repeat ((first
          | (refine SeqS.take (v := .agg (cs1).toArray) (by first | assumption | trivial) (by kernel_rfl) (by decide +kernel) (by decide +kernel) (yields_blk (by rfl) 37 (.tmp 5) rfl rfl (fun w' h => XB.out w' h) (row1)) ?_)
          | (refine SeqS.take (v := ?_) (by first | assumption | trivial) (by kernel_rfl) (by decide +kernel) (by decide +kernel) (Or.inl ⟨by rfl, ?_⟩) ?_
             rotate_left
             focus
               intro w' hb'
               go_simp
               with_reducible rfl)
          | (refine SeqS.take (v := undef) (by first | assumption | trivial) (by kernel_rfl) (by decide +kernel) (by decide +kernel) (Or.inr ⟨by rfl, rfl⟩) ?_)
          | (refine SeqS.take1 (v := .agg (cs1).toArray) (by first | assumption | trivial) (by kernel_rfl) (by decide +kernel) (by decide +kernel) (yields_blk (by rfl) 37 (.tmp 5) rfl rfl (fun w' h => XB.out w' h) (row1)) ?_)
          | (refine SeqS.take1 (v := ?_) (by first | assumption | trivial) (by kernel_rfl) (by decide +kernel) (by decide +kernel) (Or.inl ⟨by rfl, ?_⟩) ?_
             rotate_left
             focus
               intro w' hb'
               go_simp
               with_reducible rfl)
          | (refine SeqS.take1 (v := undef) (by first | assumption | trivial) (by kernel_rfl) (by decide +kernel) (by decide +kernel) (Or.inr ⟨by rfl, rfl⟩) ?_)
          | (refine SeqS.take2 (v := .agg (cs1).toArray) (by first | assumption | trivial) (by kernel_rfl) (by decide +kernel) (by decide +kernel) (yields_blk (by rfl) 37 (.tmp 5) rfl rfl (fun w' h => XB.out w' h) (row1)) ?_)
          | (refine SeqS.take2 (v := ?_) (by first | assumption | trivial) (by kernel_rfl) (by decide +kernel) (by decide +kernel) (Or.inl ⟨by rfl, ?_⟩) ?_
             rotate_left
             focus
               intro w' hb'
               go_simp
               with_reducible rfl)
          | (refine SeqS.take2 (v := undef) (by first | assumption | trivial) (by kernel_rfl) (by decide +kernel) (by decide +kernel) (Or.inr ⟨by rfl, rfl⟩) ?_)); simp only [Act.put, List.setIfInBounds_toArray, List.set_cons_zero, List.set_cons_succ])
        refine SeqS.alone (by decide +kernel) (by rfl) (fun K hK => ?_)
        go_simp
        go_at_call 19
        refine (CL.out _ S0).mono ?_
        rintro e w1 ⟨rfl, b1⟩
        go_simp
        have S1 : Below w9.heap.size w9 w1 := S0.trans (b1.mono S0.size)
        refine hK _ _ S1 ?_
        clear hK K
        repeat ((first
          | (refine SeqS.take (v := .agg (cs1).toArray) (by first | assumption | trivial) (by kernel_rfl) (by decide +kernel) (by decide +kernel) (yields_blk (by rfl) 37 (.tmp 5) rfl rfl (fun w' h => XB.out w' h) (row1)) ?_)
          | (refine SeqS.take (v := ?_) (by first | assumption | trivial) (by kernel_rfl) (by decide +kernel) (by decide +kernel) (Or.inl ⟨by rfl, ?_⟩) ?_
             rotate_left
             focus
               intro w' hb'
               go_simp
               with_reducible rfl)
          | (refine SeqS.take (v := undef) (by first | assumption | trivial) (by kernel_rfl) (by decide +kernel) (by decide +kernel) (Or.inr ⟨by rfl, rfl⟩) ?_)
          | (refine SeqS.take1 (v := .agg (cs1).toArray) (by first | assumption | trivial) (by kernel_rfl) (by decide +kernel) (by decide +kernel) (yields_blk (by rfl) 37 (.tmp 5) rfl rfl (fun w' h => XB.out w' h) (row1)) ?_)
          | (refine SeqS.take1 (v := ?_) (by first | assumption | trivial) (by kernel_rfl) (by decide +kernel) (by decide +kernel) (Or.inl ⟨by rfl, ?_⟩) ?_
             rotate_left
             focus
               intro w' hb'
               go_simp
               with_reducible rfl)
          | (refine SeqS.take1 (v := undef) (by first | assumption | trivial) (by kernel_rfl) (by decide +kernel) (by decide +kernel) (Or.inr ⟨by rfl, rfl⟩) ?_)
          | (refine SeqS.take2 (v := .agg (cs1).toArray) (by first | assumption | trivial) (by kernel_rfl) (by decide +kernel) (by decide +kernel) (yields_blk (by rfl) 37 (.tmp 5) rfl rfl (fun w' h => XB.out w' h) (row1)) ?_)
          | (refine SeqS.take2 (v := ?_) (by first | assumption | trivial) (by kernel_rfl) (by decide +kernel) (by decide +kernel) (Or.inl ⟨by rfl, ?_⟩) ?_
             rotate_left
             focus
               intro w' hb'
               go_simp
               with_reducible rfl)
          | (refine SeqS.take2 (v := undef) (by first | assumption | trivial) (by kernel_rfl) (by decide +kernel) (by decide +kernel) (Or.inr ⟨by rfl, rfl⟩) ?_)); simp only [Act.put, List.setIfInBounds_toArray, List.set_cons_zero, List.set_cons_succ])
        refine SeqS.alone (by decide +kernel) (by rfl) (fun K hK => ?_)
        go_simp
        go_at_call 21
        refine (CB.out _ S1).mono ?_
        rintro e w2 ⟨v2, rfl, R2, b2⟩
        go_simp
        have S2 : Below w9.heap.size w9 w2 := S1.trans (b2.mono S1.size)
        refine hK _ _ S2 ?_
        clear hK K
        repeat ((first
          | (refine SeqS.take (v := .agg (cs1).toArray) (by first | assumption | trivial) (by kernel_rfl) (by decide +kernel) (by decide +kernel) (yields_blk (by rfl) 37 (.tmp 5) rfl rfl (fun w' h => XB.out w' h) (row1)) ?_)
          | (refine SeqS.take (v := ?_) (by first | assumption | trivial) (by kernel_rfl) (by decide +kernel) (by decide +kernel) (Or.inl ⟨by rfl, ?_⟩) ?_
             rotate_left
             focus
               intro w' hb'
               go_simp
               with_reducible rfl)
          | (refine SeqS.take (v := undef) (by first | assumption | trivial) (by kernel_rfl) (by decide +kernel) (by decide +kernel) (Or.inr ⟨by rfl, rfl⟩) ?_)
          | (refine SeqS.take1 (v := .agg (cs1).toArray) (by first | assumption | trivial) (by kernel_rfl) (by decide +kernel) (by decide +kernel) (yields_blk (by rfl) 37 (.tmp 5) rfl rfl (fun w' h => XB.out w' h) (row1)) ?_)
          | (refine SeqS.take1 (v := ?_) (by first | assumption | trivial) (by kernel_rfl) (by decide +kernel) (by decide +kernel) (Or.inl ⟨by rfl, ?_⟩) ?_
             rotate_left
             focus
               intro w' hb'
               go_simp
               with_reducible rfl)
          | (refine SeqS.take1 (v := undef) (by first | assumption | trivial) (by kernel_rfl) (by decide +kernel) (by decide +kernel) (Or.inr ⟨by rfl, rfl⟩) ?_)
          | (refine SeqS.take2 (v := .agg (cs1).toArray) (by first | assumption | trivial) (by kernel_rfl) (by decide +kernel) (by decide +kernel) (yields_blk (by rfl) 37 (.tmp 5) rfl rfl (fun w' h => XB.out w' h) (row1)) ?_)
          | (refine SeqS.take2 (v := ?_) (by first | assumption | trivial) (by kernel_rfl) (by decide +kernel) (by decide +kernel) (Or.inl ⟨by rfl, ?_⟩) ?_
             rotate_left
             focus
               intro w' hb'
               go_simp
               with_reducible rfl)
          | (refine SeqS.take2 (v := undef) (by first | assumption | trivial) (by kernel_rfl) (by decide +kernel) (by decide +kernel) (Or.inr ⟨by rfl, rfl⟩) ?_)); simp only [Act.put, List.setIfInBounds_toArray, List.set_cons_zero, List.set_cons_succ])
        refine SeqS.alone (by decide +kernel) (by rfl) (fun K hK => ?_)
        go_simp
        go_at_call 22
        refine (CQ.out _ S2).mono ?_
        rintro e w3 ⟨v3, rfl, R3, b3⟩
        go_simp
        have S3 : Below w9.heap.size w9 w3 := S2.trans (b3.mono S2.size)
        refine hK _ _ S3 ?_
        clear hK K
        obtain ⟨a2, c2, e2, P2⟩ := (R2.keep b3).parts
        obtain ⟨a3, c3, e3, P3⟩ := R3.parts
        rw [hpl.out] at e2 e3 P2 P3
        subst e2; subst e3
        have CS := Lib.hid (r19Same_any a2 a3 nn c2 c3 ps w3 P2 P3 hpr.out hpb.out)
        clear R2 R3 P2 P3
        repeat ((first
          | (refine SeqS.take (v := .agg (cs1).toArray) (by first | assumption | trivial) (by kernel_rfl) (by decide +kernel) (by decide +kernel) (yields_blk (by rfl) 37 (.tmp 5) rfl rfl (fun w' h => XB.out w' h) (row1)) ?_)
          | (refine SeqS.take (v := ?_) (by first | assumption | trivial) (by kernel_rfl) (by decide +kernel) (by decide +kernel) (Or.inl ⟨by rfl, ?_⟩) ?_
             rotate_left
             focus
               intro w' hb'
               go_simp
               with_reducible rfl)
          | (refine SeqS.take (v := undef) (by first | assumption | trivial) (by kernel_rfl) (by decide +kernel) (by decide +kernel) (Or.inr ⟨by rfl, rfl⟩) ?_)
          | (refine SeqS.take1 (v := .agg (cs1).toArray) (by first | assumption | trivial) (by kernel_rfl) (by decide +kernel) (by decide +kernel) (yields_blk (by rfl) 37 (.tmp 5) rfl rfl (fun w' h => XB.out w' h) (row1)) ?_)
          | (refine SeqS.take1 (v := ?_) (by first | assumption | trivial) (by kernel_rfl) (by decide +kernel) (by decide +kernel) (Or.inl ⟨by rfl, ?_⟩) ?_
             rotate_left
             focus
               intro w' hb'
               go_simp
               with_reducible rfl)
          | (refine SeqS.take1 (v := undef) (by first | assumption | trivial) (by kernel_rfl) (by decide +kernel) (by decide +kernel) (Or.inr ⟨by rfl, rfl⟩) ?_)
          | (refine SeqS.take2 (v := .agg (cs1).toArray) (by first | assumption | trivial) (by kernel_rfl) (by decide +kernel) (by decide +kernel) (yields_blk (by rfl) 37 (.tmp 5) rfl rfl (fun w' h => XB.out w' h) (row1)) ?_)
          | (refine SeqS.take2 (v := ?_) (by first | assumption | trivial) (by kernel_rfl) (by decide +kernel) (by decide +kernel) (Or.inl ⟨by rfl, ?_⟩) ?_
             rotate_left
             focus
               intro w' hb'
               go_simp
               with_reducible rfl)
          | (refine SeqS.take2 (v := undef) (by first | assumption | trivial) (by kernel_rfl) (by decide +kernel) (by decide +kernel) (Or.inr ⟨by rfl, rfl⟩) ?_)); simp only [Act.put, List.setIfInBounds_toArray, List.set_cons_zero, List.set_cons_succ])
        refine SeqS.alone (by decide +kernel) (by rfl) (fun K hK => ?_)
        go_simp
        go_at_call 20
        refine (CS.out).mono ?_
        rintro e w4 ⟨rfl, b4⟩
        go_simp
        have S4 : Below w9.heap.size w9 w4 := S3.trans (b4.mono S3.size)
        refine hK _ _ S4 ?_
        clear hK K
        repeat ((first
          | (refine SeqS.take (v := .agg (cs1).toArray) (by first | assumption | trivial) (by kernel_rfl) (by decide +kernel) (by decide +kernel) (yields_blk (by rfl) 37 (.tmp 5) rfl rfl (fun w' h => XB.out w' h) (row1)) ?_)
          | (refine SeqS.take (v := ?_) (by first | assumption | trivial) (by kernel_rfl) (by decide +kernel) (by decide +kernel) (Or.inl ⟨by rfl, ?_⟩) ?_
             rotate_left
             focus
               intro w' hb'
               go_simp
               with_reducible rfl)
          | (refine SeqS.take (v := undef) (by first | assumption | trivial) (by kernel_rfl) (by decide +kernel) (by decide +kernel) (Or.inr ⟨by rfl, rfl⟩) ?_)
          | (refine SeqS.take1 (v := .agg (cs1).toArray) (by first | assumption | trivial) (by kernel_rfl) (by decide +kernel) (by decide +kernel) (yields_blk (by rfl) 37 (.tmp 5) rfl rfl (fun w' h => XB.out w' h) (row1)) ?_)
          | (refine SeqS.take1 (v := ?_) (by first | assumption | trivial) (by kernel_rfl) (by decide +kernel) (by decide +kernel) (Or.inl ⟨by rfl, ?_⟩) ?_
             rotate_left
             focus
               intro w' hb'
               go_simp
               with_reducible rfl)
          | (refine SeqS.take1 (v := undef) (by first | assumption | trivial) (by kernel_rfl) (by decide +kernel) (by decide +kernel) (Or.inr ⟨by rfl, rfl⟩) ?_)
          | (refine SeqS.take2 (v := .agg (cs1).toArray) (by first | assumption | trivial) (by kernel_rfl) (by decide +kernel) (by decide +kernel) (yields_blk (by rfl) 37 (.tmp 5) rfl rfl (fun w' h => XB.out w' h) (row1)) ?_)
          | (refine SeqS.take2 (v := ?_) (by first | assumption | trivial) (by kernel_rfl) (by decide +kernel) (by decide +kernel) (Or.inl ⟨by rfl, ?_⟩) ?_
             rotate_left
             focus
               intro w' hb'
               go_simp
               with_reducible rfl)
          | (refine SeqS.take2 (v := undef) (by first | assumption | trivial) (by kernel_rfl) (by decide +kernel) (by decide +kernel) (Or.inr ⟨by rfl, rfl⟩) ?_)); simp only [Act.put, List.setIfInBounds_toArray, List.set_cons_zero, List.set_cons_succ])
        refine SeqS.alone (by decide +kernel) (by rfl) (fun K hK => ?_)
        go_simp
        go_at_call 23
        refine (CN.out _ S4).mono ?_
        rintro e w5 ⟨rfl, b5⟩
        go_simp
        have S5 : Below w9.heap.size w9 w5 := S4.trans (b5.mono S4.size)
        refine hK _ _ S5 ?_
        clear hK K
        repeat ((first
          | (refine SeqS.take (v := .agg (cs1).toArray) (by first | assumption | trivial) (by kernel_rfl) (by decide +kernel) (by decide +kernel) (yields_blk (by rfl) 37 (.tmp 5) rfl rfl (fun w' h => XB.out w' h) (row1)) ?_)
          | (refine SeqS.take (v := ?_) (by first | assumption | trivial) (by kernel_rfl) (by decide +kernel) (by decide +kernel) (Or.inl ⟨by rfl, ?_⟩) ?_
             rotate_left
             focus
               intro w' hb'
               go_simp
               with_reducible rfl)
          | (refine SeqS.take (v := undef) (by first | assumption | trivial) (by kernel_rfl) (by decide +kernel) (by decide +kernel) (Or.inr ⟨by rfl, rfl⟩) ?_)
          | (refine SeqS.take1 (v := .agg (cs1).toArray) (by first | assumption | trivial) (by kernel_rfl) (by decide +kernel) (by decide +kernel) (yields_blk (by rfl) 37 (.tmp 5) rfl rfl (fun w' h => XB.out w' h) (row1)) ?_)
          | (refine SeqS.take1 (v := ?_) (by first | assumption | trivial) (by kernel_rfl) (by decide +kernel) (by decide +kernel) (Or.inl ⟨by rfl, ?_⟩) ?_
             rotate_left
             focus
               intro w' hb'
               go_simp
               with_reducible rfl)
          | (refine SeqS.take1 (v := undef) (by first | assumption | trivial) (by kernel_rfl) (by decide +kernel) (by decide +kernel) (Or.inr ⟨by rfl, rfl⟩) ?_)
          | (refine SeqS.take2 (v := .agg (cs1).toArray) (by first | assumption | trivial) (by kernel_rfl) (by decide +kernel) (by decide +kernel) (yields_blk (by rfl) 37 (.tmp 5) rfl rfl (fun w' h => XB.out w' h) (row1)) ?_)
          | (refine SeqS.take2 (v := ?_) (by first | assumption | trivial) (by kernel_rfl) (by decide +kernel) (by decide +kernel) (Or.inl ⟨by rfl, ?_⟩) ?_
             rotate_left
             focus
               intro w' hb'
               go_simp
               with_reducible rfl)
          | (refine SeqS.take2 (v := undef) (by first | assumption | trivial) (by kernel_rfl) (by decide +kernel) (by decide +kernel) (Or.inr ⟨by rfl, rfl⟩) ?_)); simp only [Act.put, List.setIfInBounds_toArray, List.set_cons_zero, List.set_cons_succ])
        refine SeqS.alone (by decide +kernel) (by rfl) (fun K hK => ?_)
        go_simp
        go_at_call 22
        refine (CQ.out _ S5).mono ?_
        rintro e w6 ⟨v6, rfl, R6, b6⟩
        go_simp
        have S6 : Below w9.heap.size w9 w6 := S5.trans (b6.mono S5.size)
        refine hK _ _ S6 ?_
        clear hK K
        obtain ⟨a6, c6, e6, P6⟩ := R6.parts
        rw [hpl.out] at e6
        subst e6
        clear R6 P6
        repeat ((first
          | (refine SeqS.take (v := .agg (cs1).toArray) (by first | assumption | trivial) (by kernel_rfl) (by decide +kernel) (by decide +kernel) (yields_blk (by rfl) 37 (.tmp 5) rfl rfl (fun w' h => XB.out w' h) (row1)) ?_)
          | (refine SeqS.take (v := ?_) (by first | assumption | trivial) (by kernel_rfl) (by decide +kernel) (by decide +kernel) (Or.inl ⟨by rfl, ?_⟩) ?_
             rotate_left
             focus
               intro w' hb'
               go_simp
               with_reducible rfl)
          | (refine SeqS.take (v := undef) (by first | assumption | trivial) (by kernel_rfl) (by decide +kernel) (by decide +kernel) (Or.inr ⟨by rfl, rfl⟩) ?_)
          | (refine SeqS.take1 (v := .agg (cs1).toArray) (by first | assumption | trivial) (by kernel_rfl) (by decide +kernel) (by decide +kernel) (yields_blk (by rfl) 37 (.tmp 5) rfl rfl (fun w' h => XB.out w' h) (row1)) ?_)
          | (refine SeqS.take1 (v := ?_) (by first | assumption | trivial) (by kernel_rfl) (by decide +kernel) (by decide +kernel) (Or.inl ⟨by rfl, ?_⟩) ?_
             rotate_left
             focus
               intro w' hb'
               go_simp
               with_reducible rfl)
          | (refine SeqS.take1 (v := undef) (by first | assumption | trivial) (by kernel_rfl) (by decide +kernel) (by decide +kernel) (Or.inr ⟨by rfl, rfl⟩) ?_)
          | (refine SeqS.take2 (v := .agg (cs1).toArray) (by first | assumption | trivial) (by kernel_rfl) (by decide +kernel) (by decide +kernel) (yields_blk (by rfl) 37 (.tmp 5) rfl rfl (fun w' h => XB.out w' h) (row1)) ?_)
          | (refine SeqS.take2 (v := ?_) (by first | assumption | trivial) (by kernel_rfl) (by decide +kernel) (by decide +kernel) (Or.inl ⟨by rfl, ?_⟩) ?_
             rotate_left
             focus
               intro w' hb'
               go_simp
               with_reducible rfl)
          | (refine SeqS.take2 (v := undef) (by first | assumption | trivial) (by kernel_rfl) (by decide +kernel) (by decide +kernel) (Or.inr ⟨by rfl, rfl⟩) ?_)); simp only [Act.put, List.setIfInBounds_toArray, List.set_cons_zero, List.set_cons_succ])
        refine SeqS.alone (by decide +kernel) (by rfl) (fun K hK => ?_)
        go_simp
        go_at_call 24
        refine (CZ.out _ S6).mono ?_
        rintro e w7 ⟨rfl, b7⟩
        go_simp
        have S7 : Below w9.heap.size w9 w7 := S6.trans (b7.mono S6.size)
        refine hK _ _ S7 ?_
        clear hK K
        repeat ((first
          | (refine SeqS.take (v := .agg (cs1).toArray) (by first | assumption | trivial) (by kernel_rfl) (by decide +kernel) (by decide +kernel) (yields_blk (by rfl) 37 (.tmp 5) rfl rfl (fun w' h => XB.out w' h) (row1)) ?_)
          | (refine SeqS.take (v := ?_) (by first | assumption | trivial) (by kernel_rfl) (by decide +kernel) (by decide +kernel) (Or.inl ⟨by rfl, ?_⟩) ?_
             rotate_left
             focus
               intro w' hb'
               go_simp
               with_reducible rfl)
          | (refine SeqS.take (v := undef) (by first | assumption | trivial) (by kernel_rfl) (by decide +kernel) (by decide +kernel) (Or.inr ⟨by rfl, rfl⟩) ?_)
          | (refine SeqS.take1 (v := .agg (cs1).toArray) (by first | assumption | trivial) (by kernel_rfl) (by decide +kernel) (by decide +kernel) (yields_blk (by rfl) 37 (.tmp 5) rfl rfl (fun w' h => XB.out w' h) (row1)) ?_)
          | (refine SeqS.take1 (v := ?_) (by first | assumption | trivial) (by kernel_rfl) (by decide +kernel) (by decide +kernel) (Or.inl ⟨by rfl, ?_⟩) ?_
             rotate_left
             focus
               intro w' hb'
               go_simp
               with_reducible rfl)
          | (refine SeqS.take1 (v := undef) (by first | assumption | trivial) (by kernel_rfl) (by decide +kernel) (by decide +kernel) (Or.inr ⟨by rfl, rfl⟩) ?_)
          | (refine SeqS.take2 (v := .agg (cs1).toArray) (by first | assumption | trivial) (by kernel_rfl) (by decide +kernel) (by decide +kernel) (yields_blk (by rfl) 37 (.tmp 5) rfl rfl (fun w' h => XB.out w' h) (row1)) ?_)
          | (refine SeqS.take2 (v := ?_) (by first | assumption | trivial) (by kernel_rfl) (by decide +kernel) (by decide +kernel) (Or.inl ⟨by rfl, ?_⟩) ?_
             rotate_left
             focus
               intro w' hb'
               go_simp
               with_reducible rfl)
          | (refine SeqS.take2 (v := undef) (by first | assumption | trivial) (by kernel_rfl) (by decide +kernel) (by decide +kernel) (Or.inr ⟨by rfl, rfl⟩) ?_)); simp only [Act.put, List.setIfInBounds_toArray, List.set_cons_zero, List.set_cons_succ])
        refine SeqS.alone (by decide +kernel) (by rfl) (fun K hK => ?_)
        go_simp
        go_at_call 25
        refine (CD.out _ S7).mono ?_
        rintro e w8 ⟨rfl, b8⟩
        go_simp
        have S8 : Below w9.heap.size w9 w8 := S7.trans (b8.mono S7.size)
        refine hK _ _ S8 ?_
        clear hK K
        repeat ((first
          | (refine SeqS.take (v := .agg (cs1).toArray) (by first | assumption | trivial) (by kernel_rfl) (by decide +kernel) (by decide +kernel) (yields_blk (by rfl) 37 (.tmp 5) rfl rfl (fun w' h => XB.out w' h) (row1)) ?_)
          | (refine SeqS.take (v := ?_) (by first | assumption | trivial) (by kernel_rfl) (by decide +kernel) (by decide +kernel) (Or.inl ⟨by rfl, ?_⟩) ?_
             rotate_left
             focus
               intro w' hb'
               go_simp
               with_reducible rfl)
          | (refine SeqS.take (v := undef) (by first | assumption | trivial) (by kernel_rfl) (by decide +kernel) (by decide +kernel) (Or.inr ⟨by rfl, rfl⟩) ?_)
          | (refine SeqS.take1 (v := .agg (cs1).toArray) (by first | assumption | trivial) (by kernel_rfl) (by decide +kernel) (by decide +kernel) (yields_blk (by rfl) 37 (.tmp 5) rfl rfl (fun w' h => XB.out w' h) (row1)) ?_)
          | (refine SeqS.take1 (v := ?_) (by first | assumption | trivial) (by kernel_rfl) (by decide +kernel) (by decide +kernel) (Or.inl ⟨by rfl, ?_⟩) ?_
             rotate_left
             focus
               intro w' hb'
               go_simp
               with_reducible rfl)
          | (refine SeqS.take1 (v := undef) (by first | assumption | trivial) (by kernel_rfl) (by decide +kernel) (by decide +kernel) (Or.inr ⟨by rfl, rfl⟩) ?_)
          | (refine SeqS.take2 (v := .agg (cs1).toArray) (by first | assumption | trivial) (by kernel_rfl) (by decide +kernel) (by decide +kernel) (yields_blk (by rfl) 37 (.tmp 5) rfl rfl (fun w' h => XB.out w' h) (row1)) ?_)
          | (refine SeqS.take2 (v := ?_) (by first | assumption | trivial) (by kernel_rfl) (by decide +kernel) (by decide +kernel) (Or.inl ⟨by rfl, ?_⟩) ?_
             rotate_left
             focus
               intro w' hb'
               go_simp
               with_reducible rfl)
          | (refine SeqS.take2 (v := undef) (by first | assumption | trivial) (by kernel_rfl) (by decide +kernel) (by decide +kernel) (Or.inr ⟨by rfl, rfl⟩) ?_)); simp only [Act.put, List.setIfInBounds_toArray, List.set_cons_zero, List.set_cons_succ])
        refine SeqS.done (by decide +kernel) ?_
        obtain ⟨hz1, hz2, hz3⟩ := fin9.out _ S8
        clear b1 b2 b3 b4 b5 b6 b7 b8 S0 S1 S2 S3 S4 S5 S6 S7 CL CB CQ CN CZ CD XB CS hee
        go_wp2_with fail
        exact ⟨⟨j + 1, ro1, cs1, D1, hltH.out, by congr 1, rfl, OK1.out.2.2, OK1.out.1, OK1.out.2.1, hz2, hz1, hz3⟩, by simp only [intOf]; have := hltH.out; omega⟩
      by_cases k1 : kk = 1
      · subst k1
        obtain ⟨D1, e1, he⟩ : ∃ D1 e1, keD D 0 0 = (D1, e1) := ⟨_, _, rfl⟩
        have ok1 := keD_ok OH.out 0 0
        have by1 := keD_by YH.out 0 0
        rw [he] at ok1 by1
        have ok1H := Lib.hid ok1
        have by1H := Lib.hid by1
        have heH := Lib.hid he
        have cP := t_clear (z := 0) h5 r5 (.inl (.inr rfl)) OH.out HjT.out.2.1 he
        clear ok1 by1 he
        go_wp2_with fail
        refine cP.mono ?_
        rintro q w6 ⟨rfl, h6, s6⟩
        have b6 : Blk w6 G 37 cs := s6.blk b5 (.inl (.inl rfl))
        have r6 : RollAt w6 ro g 0 := s6.blk r5 (.inl (.inr rfl))
        have x6 := s6.blk hk5 (.inr rfl)
        clear cP h5 b5 r5 s6 hk5 c0 c1 c2
        have c1 := (x6.cell 1).trans z1
        have c2 := (x6.cell 2).trans z2
        have cQ := q_clear h6 OH.out HjT.out.1 heH.out
        go_wp2_with ((with_reducible refine wpList_load_blk rfl 37 (.tmp 5) rfl ?_ b6 rowDd hl ?_); rfl)
        refine cQ.mono ?_
        rintro q w7 ⟨cs1, rfl, h7, q7⟩
        have b7 := b6.keep q7 b6.lt
        have r7 := r6.keep q7
        have l7 := h7.ddc.l
        have o7 := h7.ddc.o
        clear cQ q7 h6 b6 r6
        go_wp2_with ((with_reducible refine store_row rfl 37 (.tmp 5) _ rfl ?_ ?_ b7 rowDd l7 hl o7 ?_); rfl; rfl; intro w9 b9 g9; refine RowKit.Hid.out ?_)
        refine Lib.hid ?_
        obtain ⟨h9, r9⟩ := gE_store h7 (fun _ h => .inl h) r7 hne g9 BGH.out
        obtain ⟨ro1, rfl⟩ : ∃ r, r = ro := ⟨_, rfl⟩
        have ok1 := ok1H.out
        have by1 := by1H.out
        have hne1 := hne
        clear h7 r7 b7 g9 l7 o7 x6
        clear c1 c2 hl z0 z1 z2 OH YH ok1H by1H heH k0
        have hee : (e1 != e1) = false := bne_self_eq_false e1
        obtain ⟨ps, hps⟩ : ∃ ps, allF (heldR D1 0) = ps := ⟨_, rfl⟩
        obtain ⟨nn, hnn⟩ : ∃ n, numF (heldR D1 0) = n := ⟨_, rfl⟩
        obtain ⟨NN, hNN⟩ : ∃ n, (heldR D1 0).length = n := ⟨_, rfl⟩
        have hpl := Lib.hid (show ps.length = nn by rw [← hps, ← hnn]; exact allF_len _)
        have hpr := Lib.hid (show ∀ p ∈ ps, ∀ y ∈ p, 0 ≤ y ∧ y < 256 by rw [← hps]; exact allF_range (by1.f 0).held)
        have hpb := Lib.hid (show nn ≤ 1000000000 by rw [← hnn]; exact few20 ok1)
        have l1 := h9.ddc.l
        have row1 : IsRow Tryz.prog 37 cs1.length := by rw [l1]; exact rowDd
        have S0 : Below w9.heap.size w9 w9.drew := (Below.refl _ _).drew
        have CL := Lib.hid (fun w' (q : Below w9.heap.size w9 w') => like20_any (h9.keep q) ok1 HjT.out.2.2)
        have CB := Lib.hid (fun w' (q : Below w9.heap.size w9 w') => t_bodies (z := 0) (h9.keep q) (r9.keep q) ok1 by1 (by decide) HGW.out (Nat.le_refl _) hps)
        have CQ := Lib.hid (fun w' (q : Below w9.heap.size w9 w') => q_bodies (h9.keep q) ok1 HjT.out.2.2 by1 hps)
        have CN := Lib.hid (fun w' (q : Below w9.heap.size w9 w') => t_len (z := 0) (h9.keep q) (r9.keep q) ok1 by1 (by decide) HGW.out (Nat.le_refl _) hnn)
        have CZ := Lib.hid (fun w' (q : Below w9.heap.size w9 w') => t_size (z := 0) (h9.keep q) (r9.keep q) ok1 (by decide) hNN)
        have CD := Lib.hid (fun w' (q : Below w9.heap.size w9 w') => t_dsize (z := 0) (h9.keep q) ok1 (by decide) hNN)
        have XB := Lib.hid (fun w' (q : Below w9.heap.size w9 w') => b9.keep q b9.lt)
        have fin9 := Lib.hid (fun w' (q : Below w9.heap.size w9 w') => (⟨h9.keep q, r9.keep q, b9.keep q b9.lt⟩ : Two (gE G ro1) W.heap.size W w' g cs1 D1 D1 ∧ RollAt w' ro1 g 0 ∧ Blk w' G 37 cs1))
        have OK1 := Lib.hid (show D1.Ok (j + 1) ∧ D1.By ∧ ro1 ≠ G from ⟨ok1, by1, hne1⟩)
        clear hps hnn hNN l1 h9 r9 b9 ok1 by1 hne1
        go_wp2_with fail
        refine region_seqS (fun w' => Below w9.heap.size w9 w') (by kernel_rfl) S0 ?_
        simp only [pairs, Nat.reduceAdd]
        repeat ((first
          | (refine SeqS.take (v := .agg (cs1).toArray) (by first | assumption | trivial) (by kernel_rfl) (by decide +kernel) (by decide +kernel) (yields_blk (by rfl) 37 (.tmp 5) rfl rfl (fun w' h => XB.out w' h) (row1)) ?_)
          | (refine SeqS.take (v := ?_) (by first | assumption | trivial) (by kernel_rfl) (by decide +kernel) (by decide +kernel) (Or.inl ⟨by rfl, ?_⟩) ?_
             rotate_left
             focus
               intro w' hb'
               go_simp
               with_reducible rfl)
          | (refine SeqS.take (v := undef) (by first | assumption | trivial) (by kernel_rfl) (by decide +kernel) (by decide +kernel) (Or.inr ⟨by rfl, rfl⟩) ?_)
          | (refine SeqS.take1 (v := .agg (cs1).toArray) (by first | assumption | trivial) (by kernel_rfl) (by decide +kernel) (by decide +kernel) (yields_blk (by rfl) 37 (.tmp 5) rfl rfl (fun w' h => XB.out w' h) (row1)) ?_)
          | (refine SeqS.take1 (v := ?_) (by first | assumption | trivial) (by kernel_rfl) (by decide +kernel) (by decide +kernel) (Or.inl ⟨by rfl, ?_⟩) ?_
             rotate_left
             focus
               intro w' hb'
               go_simp
               with_reducible rfl)
          | (refine SeqS.take1 (v := undef) (by first | assumption | trivial) (by kernel_rfl) (by decide +kernel) (by decide +kernel) (Or.inr ⟨by rfl, rfl⟩) ?_)
          | (refine SeqS.take2 (v := .agg (cs1).toArray) (by first | assumption | trivial) (by kernel_rfl) (by decide +kernel) (by decide +kernel) (yields_blk (by rfl) 37 (.tmp 5) rfl rfl (fun w' h => XB.out w' h) (row1)) ?_)
          | (refine SeqS.take2 (v := ?_) (by first | assumption | trivial) (by kernel_rfl) (by decide +kernel) (by decide +kernel) (Or.inl ⟨by rfl, ?_⟩) ?_
             rotate_left
             focus
               intro w' hb'
               go_simp
               with_reducible rfl)
          | (refine SeqS.take2 (v := undef) (by first | assumption | trivial) (by kernel_rfl) (by decide +kernel) (by decide +kernel) (Or.inr ⟨by rfl, rfl⟩) ?_)); simp only [Act.put, List.setIfInBounds_toArray, List.set_cons_zero, List.set_cons_succ])
        refine SeqS.alone (by decide +kernel) (by rfl) (fun K hK => ?_)
        go_simp
        go_at_call 19
        refine (CL.out _ S0).mono ?_
        rintro e w1 ⟨rfl, b1⟩
        go_simp
        have S1 : Below w9.heap.size w9 w1 := S0.trans (b1.mono S0.size)
        refine hK _ _ S1 ?_
        clear hK K
        repeat ((first
          | (refine SeqS.take (v := .agg (cs1).toArray) (by first | assumption | trivial) (by kernel_rfl) (by decide +kernel) (by decide +kernel) (yields_blk (by rfl) 37 (.tmp 5) rfl rfl (fun w' h => XB.out w' h) (row1)) ?_)
          | (refine SeqS.take (v := ?_) (by first | assumption | trivial) (by kernel_rfl) (by decide +kernel) (by decide +kernel) (Or.inl ⟨by rfl, ?_⟩) ?_
             rotate_left
             focus
               intro w' hb'
               go_simp
               with_reducible rfl)
          | (refine SeqS.take (v := undef) (by first | assumption | trivial) (by kernel_rfl) (by decide +kernel) (by decide +kernel) (Or.inr ⟨by rfl, rfl⟩) ?_)
          | (refine SeqS.take1 (v := .agg (cs1).toArray) (by first | assumption | trivial) (by kernel_rfl) (by decide +kernel) (by decide +kernel) (yields_blk (by rfl) 37 (.tmp 5) rfl rfl (fun w' h => XB.out w' h) (row1)) ?_)
          | (refine SeqS.take1 (v := ?_) (by first | assumption | trivial) (by kernel_rfl) (by decide +kernel) (by decide +kernel) (Or.inl ⟨by rfl, ?_⟩) ?_
             rotate_left
             focus
               intro w' hb'
               go_simp
               with_reducible rfl)
          | (refine SeqS.take1 (v := undef) (by first | assumption | trivial) (by kernel_rfl) (by decide +kernel) (by decide +kernel) (Or.inr ⟨by rfl, rfl⟩) ?_)
          | (refine SeqS.take2 (v := .agg (cs1).toArray) (by first | assumption | trivial) (by kernel_rfl) (by decide +kernel) (by decide +kernel) (yields_blk (by rfl) 37 (.tmp 5) rfl rfl (fun w' h => XB.out w' h) (row1)) ?_)
          | (refine SeqS.take2 (v := ?_) (by first | assumption | trivial) (by kernel_rfl) (by decide +kernel) (by decide +kernel) (Or.inl ⟨by rfl, ?_⟩) ?_
             rotate_left
             focus
               intro w' hb'
               go_simp
               with_reducible rfl)
          | (refine SeqS.take2 (v := undef) (by first | assumption | trivial) (by kernel_rfl) (by decide +kernel) (by decide +kernel) (Or.inr ⟨by rfl, rfl⟩) ?_)); simp only [Act.put, List.setIfInBounds_toArray, List.set_cons_zero, List.set_cons_succ])
        refine SeqS.alone (by decide +kernel) (by rfl) (fun K hK => ?_)
        go_simp
        go_at_call 21
        refine (CB.out _ S1).mono ?_
        rintro e w2 ⟨v2, rfl, R2, b2⟩
        go_simp
        have S2 : Below w9.heap.size w9 w2 := S1.trans (b2.mono S1.size)
        refine hK _ _ S2 ?_
        clear hK K
        repeat ((first
          | (refine SeqS.take (v := .agg (cs1).toArray) (by first | assumption | trivial) (by kernel_rfl) (by decide +kernel) (by decide +kernel) (yields_blk (by rfl) 37 (.tmp 5) rfl rfl (fun w' h => XB.out w' h) (row1)) ?_)
          | (refine SeqS.take (v := ?_) (by first | assumption | trivial) (by kernel_rfl) (by decide +kernel) (by decide +kernel) (Or.inl ⟨by rfl, ?_⟩) ?_
             rotate_left
             focus
               intro w' hb'
               go_simp
               with_reducible rfl)
          | (refine SeqS.take (v := undef) (by first | assumption | trivial) (by kernel_rfl) (by decide +kernel) (by decide +kernel) (Or.inr ⟨by rfl, rfl⟩) ?_)
          | (refine SeqS.take1 (v := .agg (cs1).toArray) (by first | assumption | trivial) (by kernel_rfl) (by decide +kernel) (by decide +kernel) (yields_blk (by rfl) 37 (.tmp 5) rfl rfl (fun w' h => XB.out w' h) (row1)) ?_)
          | (refine SeqS.take1 (v := ?_) (by first | assumption | trivial) (by kernel_rfl) (by decide +kernel) (by decide +kernel) (Or.inl ⟨by rfl, ?_⟩) ?_
             rotate_left
             focus
               intro w' hb'
               go_simp
               with_reducible rfl)
          | (refine SeqS.take1 (v := undef) (by first | assumption | trivial) (by kernel_rfl) (by decide +kernel) (by decide +kernel) (Or.inr ⟨by rfl, rfl⟩) ?_)
          | (refine SeqS.take2 (v := .agg (cs1).toArray) (by first | assumption | trivial) (by kernel_rfl) (by decide +kernel) (by decide +kernel) (yields_blk (by rfl) 37 (.tmp 5) rfl rfl (fun w' h => XB.out w' h) (row1)) ?_)
          | (refine SeqS.take2 (v := ?_) (by first | assumption | trivial) (by kernel_rfl) (by decide +kernel) (by decide +kernel) (Or.inl ⟨by rfl, ?_⟩) ?_
             rotate_left
             focus
               intro w' hb'
               go_simp
               with_reducible rfl)
          | (refine SeqS.take2 (v := undef) (by first | assumption | trivial) (by kernel_rfl) (by decide +kernel) (by decide +kernel) (Or.inr ⟨by rfl, rfl⟩) ?_)); simp only [Act.put, List.setIfInBounds_toArray, List.set_cons_zero, List.set_cons_succ])
        refine SeqS.alone (by decide +kernel) (by rfl) (fun K hK => ?_)
        go_simp
        go_at_call 22
        refine (CQ.out _ S2).mono ?_
        rintro e w3 ⟨v3, rfl, R3, b3⟩
        go_simp
        have S3 : Below w9.heap.size w9 w3 := S2.trans (b3.mono S2.size)
        refine hK _ _ S3 ?_
        clear hK K
        obtain ⟨a2, c2, e2, P2⟩ := (R2.keep b3).parts
        obtain ⟨a3, c3, e3, P3⟩ := R3.parts
        rw [hpl.out] at e2 e3 P2 P3
        subst e2; subst e3
        have CS := Lib.hid (r19Same_any a2 a3 nn c2 c3 ps w3 P2 P3 hpr.out hpb.out)
        clear R2 R3 P2 P3
        repeat ((first
          | (refine SeqS.take (v := .agg (cs1).toArray) (by first | assumption | trivial) (by kernel_rfl) (by decide +kernel) (by decide +kernel) (yields_blk (by rfl) 37 (.tmp 5) rfl rfl (fun w' h => XB.out w' h) (row1)) ?_)
          | (refine SeqS.take (v := ?_) (by first | assumption | trivial) (by kernel_rfl) (by decide +kernel) (by decide +kernel) (Or.inl ⟨by rfl, ?_⟩) ?_
             rotate_left
             focus
               intro w' hb'
               go_simp
               with_reducible rfl)
          | (refine SeqS.take (v := undef) (by first | assumption | trivial) (by kernel_rfl) (by decide +kernel) (by decide +kernel) (Or.inr ⟨by rfl, rfl⟩) ?_)
          | (refine SeqS.take1 (v := .agg (cs1).toArray) (by first | assumption | trivial) (by kernel_rfl) (by decide +kernel) (by decide +kernel) (yields_blk (by rfl) 37 (.tmp 5) rfl rfl (fun w' h => XB.out w' h) (row1)) ?_)
          | (refine SeqS.take1 (v := ?_) (by first | assumption | trivial) (by kernel_rfl) (by decide +kernel) (by decide +kernel) (Or.inl ⟨by rfl, ?_⟩) ?_
             rotate_left
             focus
               intro w' hb'
               go_simp
               with_reducible rfl)
          | (refine SeqS.take1 (v := undef) (by first | assumption | trivial) (by kernel_rfl) (by decide +kernel) (by decide +kernel) (Or.inr ⟨by rfl, rfl⟩) ?_)
          | (refine SeqS.take2 (v := .agg (cs1).toArray) (by first | assumption | trivial) (by kernel_rfl) (by decide +kernel) (by decide +kernel) (yields_blk (by rfl) 37 (.tmp 5) rfl rfl (fun w' h => XB.out w' h) (row1)) ?_)
          | (refine SeqS.take2 (v := ?_) (by first | assumption | trivial) (by kernel_rfl) (by decide +kernel) (by decide +kernel) (Or.inl ⟨by rfl, ?_⟩) ?_
             rotate_left
             focus
               intro w' hb'
               go_simp
               with_reducible rfl)
          | (refine SeqS.take2 (v := undef) (by first | assumption | trivial) (by kernel_rfl) (by decide +kernel) (by decide +kernel) (Or.inr ⟨by rfl, rfl⟩) ?_)); simp only [Act.put, List.setIfInBounds_toArray, List.set_cons_zero, List.set_cons_succ])
        refine SeqS.alone (by decide +kernel) (by rfl) (fun K hK => ?_)
        go_simp
        go_at_call 20
        refine (CS.out).mono ?_
        rintro e w4 ⟨rfl, b4⟩
        go_simp
        have S4 : Below w9.heap.size w9 w4 := S3.trans (b4.mono S3.size)
        refine hK _ _ S4 ?_
        clear hK K
        repeat ((first
          | (refine SeqS.take (v := .agg (cs1).toArray) (by first | assumption | trivial) (by kernel_rfl) (by decide +kernel) (by decide +kernel) (yields_blk (by rfl) 37 (.tmp 5) rfl rfl (fun w' h => XB.out w' h) (row1)) ?_)
          | (refine SeqS.take (v := ?_) (by first | assumption | trivial) (by kernel_rfl) (by decide +kernel) (by decide +kernel) (Or.inl ⟨by rfl, ?_⟩) ?_
             rotate_left
             focus
               intro w' hb'
               go_simp
               with_reducible rfl)
          | (refine SeqS.take (v := undef) (by first | assumption | trivial) (by kernel_rfl) (by decide +kernel) (by decide +kernel) (Or.inr ⟨by rfl, rfl⟩) ?_)
          | (refine SeqS.take1 (v := .agg (cs1).toArray) (by first | assumption | trivial) (by kernel_rfl) (by decide +kernel) (by decide +kernel) (yields_blk (by rfl) 37 (.tmp 5) rfl rfl (fun w' h => XB.out w' h) (row1)) ?_)
          | (refine SeqS.take1 (v := ?_) (by first | assumption | trivial) (by kernel_rfl) (by decide +kernel) (by decide +kernel) (Or.inl ⟨by rfl, ?_⟩) ?_
             rotate_left
             focus
               intro w' hb'
               go_simp
               with_reducible rfl)
          | (refine SeqS.take1 (v := undef) (by first | assumption | trivial) (by kernel_rfl) (by decide +kernel) (by decide +kernel) (Or.inr ⟨by rfl, rfl⟩) ?_)
          | (refine SeqS.take2 (v := .agg (cs1).toArray) (by first | assumption | trivial) (by kernel_rfl) (by decide +kernel) (by decide +kernel) (yields_blk (by rfl) 37 (.tmp 5) rfl rfl (fun w' h => XB.out w' h) (row1)) ?_)
          | (refine SeqS.take2 (v := ?_) (by first | assumption | trivial) (by kernel_rfl) (by decide +kernel) (by decide +kernel) (Or.inl ⟨by rfl, ?_⟩) ?_
             rotate_left
             focus
               intro w' hb'
               go_simp
               with_reducible rfl)
          | (refine SeqS.take2 (v := undef) (by first | assumption | trivial) (by kernel_rfl) (by decide +kernel) (by decide +kernel) (Or.inr ⟨by rfl, rfl⟩) ?_)); simp only [Act.put, List.setIfInBounds_toArray, List.set_cons_zero, List.set_cons_succ])
        refine SeqS.alone (by decide +kernel) (by rfl) (fun K hK => ?_)
        go_simp
        go_at_call 23
        refine (CN.out _ S4).mono ?_
        rintro e w5 ⟨rfl, b5⟩
        go_simp
        have S5 : Below w9.heap.size w9 w5 := S4.trans (b5.mono S4.size)
        refine hK _ _ S5 ?_
        clear hK K
        repeat ((first
          | (refine SeqS.take (v := .agg (cs1).toArray) (by first | assumption | trivial) (by kernel_rfl) (by decide +kernel) (by decide +kernel) (yields_blk (by rfl) 37 (.tmp 5) rfl rfl (fun w' h => XB.out w' h) (row1)) ?_)
          | (refine SeqS.take (v := ?_) (by first | assumption | trivial) (by kernel_rfl) (by decide +kernel) (by decide +kernel) (Or.inl ⟨by rfl, ?_⟩) ?_
             rotate_left
             focus
               intro w' hb'
               go_simp
               with_reducible rfl)
          | (refine SeqS.take (v := undef) (by first | assumption | trivial) (by kernel_rfl) (by decide +kernel) (by decide +kernel) (Or.inr ⟨by rfl, rfl⟩) ?_)
          | (refine SeqS.take1 (v := .agg (cs1).toArray) (by first | assumption | trivial) (by kernel_rfl) (by decide +kernel) (by decide +kernel) (yields_blk (by rfl) 37 (.tmp 5) rfl rfl (fun w' h => XB.out w' h) (row1)) ?_)
          | (refine SeqS.take1 (v := ?_) (by first | assumption | trivial) (by kernel_rfl) (by decide +kernel) (by decide +kernel) (Or.inl ⟨by rfl, ?_⟩) ?_
             rotate_left
             focus
               intro w' hb'
               go_simp
               with_reducible rfl)
          | (refine SeqS.take1 (v := undef) (by first | assumption | trivial) (by kernel_rfl) (by decide +kernel) (by decide +kernel) (Or.inr ⟨by rfl, rfl⟩) ?_)
          | (refine SeqS.take2 (v := .agg (cs1).toArray) (by first | assumption | trivial) (by kernel_rfl) (by decide +kernel) (by decide +kernel) (yields_blk (by rfl) 37 (.tmp 5) rfl rfl (fun w' h => XB.out w' h) (row1)) ?_)
          | (refine SeqS.take2 (v := ?_) (by first | assumption | trivial) (by kernel_rfl) (by decide +kernel) (by decide +kernel) (Or.inl ⟨by rfl, ?_⟩) ?_
             rotate_left
             focus
               intro w' hb'
               go_simp
               with_reducible rfl)
          | (refine SeqS.take2 (v := undef) (by first | assumption | trivial) (by kernel_rfl) (by decide +kernel) (by decide +kernel) (Or.inr ⟨by rfl, rfl⟩) ?_)); simp only [Act.put, List.setIfInBounds_toArray, List.set_cons_zero, List.set_cons_succ])
        refine SeqS.alone (by decide +kernel) (by rfl) (fun K hK => ?_)
        go_simp
        go_at_call 22
        refine (CQ.out _ S5).mono ?_
        rintro e w6 ⟨v6, rfl, R6, b6⟩
        go_simp
        have S6 : Below w9.heap.size w9 w6 := S5.trans (b6.mono S5.size)
        refine hK _ _ S6 ?_
        clear hK K
        obtain ⟨a6, c6, e6, P6⟩ := R6.parts
        rw [hpl.out] at e6
        subst e6
        clear R6 P6
        repeat ((first
          | (refine SeqS.take (v := .agg (cs1).toArray) (by first | assumption | trivial) (by kernel_rfl) (by decide +kernel) (by decide +kernel) (yields_blk (by rfl) 37 (.tmp 5) rfl rfl (fun w' h => XB.out w' h) (row1)) ?_)
          | (refine SeqS.take (v := ?_) (by first | assumption | trivial) (by kernel_rfl) (by decide +kernel) (by decide +kernel) (Or.inl ⟨by rfl, ?_⟩) ?_
             rotate_left
             focus
               intro w' hb'
               go_simp
               with_reducible rfl)
          | (refine SeqS.take (v := undef) (by first | assumption | trivial) (by kernel_rfl) (by decide +kernel) (by decide +kernel) (Or.inr ⟨by rfl, rfl⟩) ?_)
          | (refine SeqS.take1 (v := .agg (cs1).toArray) (by first | assumption | trivial) (by kernel_rfl) (by decide +kernel) (by decide +kernel) (yields_blk (by rfl) 37 (.tmp 5) rfl rfl (fun w' h => XB.out w' h) (row1)) ?_)
          | (refine SeqS.take1 (v := ?_) (by first | assumption | trivial) (by kernel_rfl) (by decide +kernel) (by decide +kernel) (Or.inl ⟨by rfl, ?_⟩) ?_
             rotate_left
             focus
               intro w' hb'
               go_simp
               with_reducible rfl)
          | (refine SeqS.take1 (v := undef) (by first | assumption | trivial) (by kernel_rfl) (by decide +kernel) (by decide +kernel) (Or.inr ⟨by rfl, rfl⟩) ?_)
          | (refine SeqS.take2 (v := .agg (cs1).toArray) (by first | assumption | trivial) (by kernel_rfl) (by decide +kernel) (by decide +kernel) (yields_blk (by rfl) 37 (.tmp 5) rfl rfl (fun w' h => XB.out w' h) (row1)) ?_)
          | (refine SeqS.take2 (v := ?_) (by first | assumption | trivial) (by kernel_rfl) (by decide +kernel) (by decide +kernel) (Or.inl ⟨by rfl, ?_⟩) ?_
             rotate_left
             focus
               intro w' hb'
               go_simp
               with_reducible rfl)
          | (refine SeqS.take2 (v := undef) (by first | assumption | trivial) (by kernel_rfl) (by decide +kernel) (by decide +kernel) (Or.inr ⟨by rfl, rfl⟩) ?_)); simp only [Act.put, List.setIfInBounds_toArray, List.set_cons_zero, List.set_cons_succ])
        refine SeqS.alone (by decide +kernel) (by rfl) (fun K hK => ?_)
        go_simp
        go_at_call 24
        refine (CZ.out _ S6).mono ?_
        rintro e w7 ⟨rfl, b7⟩
        go_simp
        have S7 : Below w9.heap.size w9 w7 := S6.trans (b7.mono S6.size)
        refine hK _ _ S7 ?_
        clear hK K
        repeat ((first
          | (refine SeqS.take (v := .agg (cs1).toArray) (by first | assumption | trivial) (by kernel_rfl) (by decide +kernel) (by decide +kernel) (yields_blk (by rfl) 37 (.tmp 5) rfl rfl (fun w' h => XB.out w' h) (row1)) ?_)
          | (refine SeqS.take (v := ?_) (by first | assumption | trivial) (by kernel_rfl) (by decide +kernel) (by decide +kernel) (Or.inl ⟨by rfl, ?_⟩) ?_
             rotate_left
             focus
               intro w' hb'
               go_simp
               with_reducible rfl)
          | (refine SeqS.take (v := undef) (by first | assumption | trivial) (by kernel_rfl) (by decide +kernel) (by decide +kernel) (Or.inr ⟨by rfl, rfl⟩) ?_)
          | (refine SeqS.take1 (v := .agg (cs1).toArray) (by first | assumption | trivial) (by kernel_rfl) (by decide +kernel) (by decide +kernel) (yields_blk (by rfl) 37 (.tmp 5) rfl rfl (fun w' h => XB.out w' h) (row1)) ?_)
          | (refine SeqS.take1 (v := ?_) (by first | assumption | trivial) (by kernel_rfl) (by decide +kernel) (by decide +kernel) (Or.inl ⟨by rfl, ?_⟩) ?_
             rotate_left
             focus
               intro w' hb'
               go_simp
               with_reducible rfl)
          | (refine SeqS.take1 (v := undef) (by first | assumption | trivial) (by kernel_rfl) (by decide +kernel) (by decide +kernel) (Or.inr ⟨by rfl, rfl⟩) ?_)
          | (refine SeqS.take2 (v := .agg (cs1).toArray) (by first | assumption | trivial) (by kernel_rfl) (by decide +kernel) (by decide +kernel) (yields_blk (by rfl) 37 (.tmp 5) rfl rfl (fun w' h => XB.out w' h) (row1)) ?_)
          | (refine SeqS.take2 (v := ?_) (by first | assumption | trivial) (by kernel_rfl) (by decide +kernel) (by decide +kernel) (Or.inl ⟨by rfl, ?_⟩) ?_
             rotate_left
             focus
               intro w' hb'
               go_simp
               with_reducible rfl)
          | (refine SeqS.take2 (v := undef) (by first | assumption | trivial) (by kernel_rfl) (by decide +kernel) (by decide +kernel) (Or.inr ⟨by rfl, rfl⟩) ?_)); simp only [Act.put, List.setIfInBounds_toArray, List.set_cons_zero, List.set_cons_succ])
        refine SeqS.alone (by decide +kernel) (by rfl) (fun K hK => ?_)
        go_simp
        go_at_call 25
        refine (CD.out _ S7).mono ?_
        rintro e w8 ⟨rfl, b8⟩
        go_simp
        have S8 : Below w9.heap.size w9 w8 := S7.trans (b8.mono S7.size)
        refine hK _ _ S8 ?_
        clear hK K
        repeat ((first
          | (refine SeqS.take (v := .agg (cs1).toArray) (by first | assumption | trivial) (by kernel_rfl) (by decide +kernel) (by decide +kernel) (yields_blk (by rfl) 37 (.tmp 5) rfl rfl (fun w' h => XB.out w' h) (row1)) ?_)
          | (refine SeqS.take (v := ?_) (by first | assumption | trivial) (by kernel_rfl) (by decide +kernel) (by decide +kernel) (Or.inl ⟨by rfl, ?_⟩) ?_
             rotate_left
             focus
               intro w' hb'
               go_simp
               with_reducible rfl)
          | (refine SeqS.take (v := undef) (by first | assumption | trivial) (by kernel_rfl) (by decide +kernel) (by decide +kernel) (Or.inr ⟨by rfl, rfl⟩) ?_)
          | (refine SeqS.take1 (v := .agg (cs1).toArray) (by first | assumption | trivial) (by kernel_rfl) (by decide +kernel) (by decide +kernel) (yields_blk (by rfl) 37 (.tmp 5) rfl rfl (fun w' h => XB.out w' h) (row1)) ?_)
          | (refine SeqS.take1 (v := ?_) (by first | assumption | trivial) (by kernel_rfl) (by decide +kernel) (by decide +kernel) (Or.inl ⟨by rfl, ?_⟩) ?_
             rotate_left
             focus
               intro w' hb'
               go_simp
               with_reducible rfl)
          | (refine SeqS.take1 (v := undef) (by first | assumption | trivial) (by kernel_rfl) (by decide +kernel) (by decide +kernel) (Or.inr ⟨by rfl, rfl⟩) ?_)
          | (refine SeqS.take2 (v := .agg (cs1).toArray) (by first | assumption | trivial) (by kernel_rfl) (by decide +kernel) (by decide +kernel) (yields_blk (by rfl) 37 (.tmp 5) rfl rfl (fun w' h => XB.out w' h) (row1)) ?_)
          | (refine SeqS.take2 (v := ?_) (by first | assumption | trivial) (by kernel_rfl) (by decide +kernel) (by decide +kernel) (Or.inl ⟨by rfl, ?_⟩) ?_
             rotate_left
             focus
               intro w' hb'
               go_simp
               with_reducible rfl)
          | (refine SeqS.take2 (v := undef) (by first | assumption | trivial) (by kernel_rfl) (by decide +kernel) (by decide +kernel) (Or.inr ⟨by rfl, rfl⟩) ?_)); simp only [Act.put, List.setIfInBounds_toArray, List.set_cons_zero, List.set_cons_succ])
        refine SeqS.done (by decide +kernel) ?_
        obtain ⟨hz1, hz2, hz3⟩ := fin9.out _ S8
        clear b1 b2 b3 b4 b5 b6 b7 b8 S0 S1 S2 S3 S4 S5 S6 S7 CL CB CQ CN CZ CD XB CS hee
        go_wp2_with fail
        exact ⟨⟨j + 1, ro1, cs1, D1, hltH.out, by congr 1, rfl, OK1.out.2.2, OK1.out.1, OK1.out.2.1, hz2, hz1, hz3⟩, by simp only [intOf]; have := hltH.out; omega⟩
      by_cases k2 : kk = 2
      · subst k2
        obtain ⟨D1, e1, he⟩ : ∃ D1 e1, apD D 0 o.bs = (D1, e1) := ⟨_, _, rfl⟩
        have ok1 := apD_ok OH.out 0 o.bs
        have by1 := apD_by YH.out 0 o.bs (HK.out w5 h5.b).br
        rw [he] at ok1 by1
        have ok1H := Lib.hid ok1
        have by1H := Lib.hid by1
        have heH := Lib.hid he
        have cP := c_append 0 h5 OH.out (Nat.lt_of_lt_of_le HjT.out.2.1 (by decide)) (HK.out w5 h5.b).b
        rw [he] at cP
        dsimp only at cP
        clear ok1 by1 he
        go_wp2_with fail
        refine cP.mono ?_
        rintro q w6 ⟨rfl, h6, s6⟩
        have b6 : Blk w6 G 37 cs := s6.blk b5 (.inl (.inl rfl))
        have r6 : RollAt w6 ro g 0 := s6.blk r5 (.inl (.inr rfl))
        have x6 := s6.blk hk5 (.inr rfl)
        clear cP h5 b5 r5 s6 hk5 c0 c1 c2
        have c1 := (x6.cell 1).trans z1
        have c2 := (x6.cell 2).trans z2
        have cQ := r_append 0 h6 OH.out HjT.out.1 (HK.out w6 h6.b).b Hbn.out
        rw [heH.out] at cQ
        dsimp only at cQ
        go_wp2_with ((with_reducible refine wpList_load_blk rfl 37 (.tmp 5) rfl ?_ b6 rowDd hl ?_); rfl)
        refine cQ.mono ?_
        rintro q w7 ⟨cs1, rfl, h7, q7⟩
        have b7 := b6.keep q7 b6.lt
        have r7 := r6.keep q7
        have l7 := h7.ddc.l
        have o7 := h7.ddc.o
        clear cQ q7 h6 b6 r6
        go_wp2_with ((with_reducible refine store_row rfl 37 (.tmp 5) _ rfl ?_ ?_ b7 rowDd l7 hl o7 ?_); rfl; rfl; intro w9 b9 g9; refine RowKit.Hid.out ?_)
        refine Lib.hid ?_
        obtain ⟨h9, r9⟩ := gE_store h7 (fun _ h => .inl h) r7 hne g9 BGH.out
        obtain ⟨ro1, rfl⟩ : ∃ r, r = ro := ⟨_, rfl⟩
        have ok1 := ok1H.out
        have by1 := by1H.out
        have hne1 := hne
        clear h7 r7 b7 g9 l7 o7 x6
        clear c1 c2 hl z0 z1 z2 OH YH ok1H by1H heH k0 k1
        have hee : (e1 != e1) = false := bne_self_eq_false e1
        obtain ⟨ps, hps⟩ : ∃ ps, allF (heldR D1 0) = ps := ⟨_, rfl⟩
        obtain ⟨nn, hnn⟩ : ∃ n, numF (heldR D1 0) = n := ⟨_, rfl⟩
        obtain ⟨NN, hNN⟩ : ∃ n, (heldR D1 0).length = n := ⟨_, rfl⟩
        have hpl := Lib.hid (show ps.length = nn by rw [← hps, ← hnn]; exact allF_len _)
        have hpr := Lib.hid (show ∀ p ∈ ps, ∀ y ∈ p, 0 ≤ y ∧ y < 256 by rw [← hps]; exact allF_range (by1.f 0).held)
        have hpb := Lib.hid (show nn ≤ 1000000000 by rw [← hnn]; exact few20 ok1)
        have l1 := h9.ddc.l
        have row1 : IsRow Tryz.prog 37 cs1.length := by rw [l1]; exact rowDd
        have S0 : Below w9.heap.size w9 w9.drew := (Below.refl _ _).drew
        have CL := Lib.hid (fun w' (q : Below w9.heap.size w9 w') => like20_any (h9.keep q) ok1 HjT.out.2.2)
        have CB := Lib.hid (fun w' (q : Below w9.heap.size w9 w') => t_bodies (z := 0) (h9.keep q) (r9.keep q) ok1 by1 (by decide) HGW.out (Nat.le_refl _) hps)
        have CQ := Lib.hid (fun w' (q : Below w9.heap.size w9 w') => q_bodies (h9.keep q) ok1 HjT.out.2.2 by1 hps)
        have CN := Lib.hid (fun w' (q : Below w9.heap.size w9 w') => t_len (z := 0) (h9.keep q) (r9.keep q) ok1 by1 (by decide) HGW.out (Nat.le_refl _) hnn)
        have CZ := Lib.hid (fun w' (q : Below w9.heap.size w9 w') => t_size (z := 0) (h9.keep q) (r9.keep q) ok1 (by decide) hNN)
        have CD := Lib.hid (fun w' (q : Below w9.heap.size w9 w') => t_dsize (z := 0) (h9.keep q) ok1 (by decide) hNN)
        have XB := Lib.hid (fun w' (q : Below w9.heap.size w9 w') => b9.keep q b9.lt)
        have fin9 := Lib.hid (fun w' (q : Below w9.heap.size w9 w') => (⟨h9.keep q, r9.keep q, b9.keep q b9.lt⟩ : Two (gE G ro1) W.heap.size W w' g cs1 D1 D1 ∧ RollAt w' ro1 g 0 ∧ Blk w' G 37 cs1))
        have OK1 := Lib.hid (show D1.Ok (j + 1) ∧ D1.By ∧ ro1 ≠ G from ⟨ok1, by1, hne1⟩)
        clear hps hnn hNN l1 h9 r9 b9 ok1 by1 hne1
        go_wp2_with fail
        refine region_seqS (fun w' => Below w9.heap.size w9 w') (by kernel_rfl) S0 ?_
        simp only [pairs, Nat.reduceAdd]
        repeat ((first
          | (refine SeqS.take (v := .agg (cs1).toArray) (by first | assumption | trivial) (by kernel_rfl) (by decide +kernel) (by decide +kernel) (yields_blk (by rfl) 37 (.tmp 5) rfl rfl (fun w' h => XB.out w' h) (row1)) ?_)
          | (refine SeqS.take (v := ?_) (by first | assumption | trivial) (by kernel_rfl) (by decide +kernel) (by decide +kernel) (Or.inl ⟨by rfl, ?_⟩) ?_
             rotate_left
             focus
               intro w' hb'
               go_simp
               with_reducible rfl)
          | (refine SeqS.take (v := undef) (by first | assumption | trivial) (by kernel_rfl) (by decide +kernel) (by decide +kernel) (Or.inr ⟨by rfl, rfl⟩) ?_)
          | (refine SeqS.take1 (v := .agg (cs1).toArray) (by first | assumption | trivial) (by kernel_rfl) (by decide +kernel) (by decide +kernel) (yields_blk (by rfl) 37 (.tmp 5) rfl rfl (fun w' h => XB.out w' h) (row1)) ?_)
          | (refine SeqS.take1 (v := ?_) (by first | assumption | trivial) (by kernel_rfl) (by decide +kernel) (by decide +kernel) (Or.inl ⟨by rfl, ?_⟩) ?_
             rotate_left
             focus
               intro w' hb'
               go_simp
               with_reducible rfl)
          | (refine SeqS.take1 (v := undef) (by first | assumption | trivial) (by kernel_rfl) (by decide +kernel) (by decide +kernel) (Or.inr ⟨by rfl, rfl⟩) ?_)
          | (refine SeqS.take2 (v := .agg (cs1).toArray) (by first | assumption | trivial) (by kernel_rfl) (by decide +kernel) (by decide +kernel) (yields_blk (by rfl) 37 (.tmp 5) rfl rfl (fun w' h => XB.out w' h) (row1)) ?_)
          | (refine SeqS.take2 (v := ?_) (by first | assumption | trivial) (by kernel_rfl) (by decide +kernel) (by decide +kernel) (Or.inl ⟨by rfl, ?_⟩) ?_
             rotate_left
             focus
               intro w' hb'
               go_simp
               with_reducible rfl)
          | (refine SeqS.take2 (v := undef) (by first | assumption | trivial) (by kernel_rfl) (by decide +kernel) (by decide +kernel) (Or.inr ⟨by rfl, rfl⟩) ?_)); simp only [Act.put, List.setIfInBounds_toArray, List.set_cons_zero, List.set_cons_succ])
        refine SeqS.alone (by decide +kernel) (by rfl) (fun K hK => ?_)
        go_simp
        go_at_call 19
        refine (CL.out _ S0).mono ?_
        rintro e w1 ⟨rfl, b1⟩
        go_simp
        have S1 : Below w9.heap.size w9 w1 := S0.trans (b1.mono S0.size)
        refine hK _ _ S1 ?_
        clear hK K
        repeat ((first
          | (refine SeqS.take (v := .agg (cs1).toArray) (by first | assumption | trivial) (by kernel_rfl) (by decide +kernel) (by decide +kernel) (yields_blk (by rfl) 37 (.tmp 5) rfl rfl (fun w' h => XB.out w' h) (row1)) ?_)
          | (refine SeqS.take (v := ?_) (by first | assumption | trivial) (by kernel_rfl) (by decide +kernel) (by decide +kernel) (Or.inl ⟨by rfl, ?_⟩) ?_
             rotate_left
             focus
               intro w' hb'
               go_simp
               with_reducible rfl)
          | (refine SeqS.take (v := undef) (by first | assumption | trivial) (by kernel_rfl) (by decide +kernel) (by decide +kernel) (Or.inr ⟨by rfl, rfl⟩) ?_)
          | (refine SeqS.take1 (v := .agg (cs1).toArray) (by first | assumption | trivial) (by kernel_rfl) (by decide +kernel) (by decide +kernel) (yields_blk (by rfl) 37 (.tmp 5) rfl rfl (fun w' h => XB.out w' h) (row1)) ?_)
          | (refine SeqS.take1 (v := ?_) (by first | assumption | trivial) (by kernel_rfl) (by decide +kernel) (by decide +kernel) (Or.inl ⟨by rfl, ?_⟩) ?_
             rotate_left
             focus
               intro w' hb'
               go_simp
               with_reducible rfl)
          | (refine SeqS.take1 (v := undef) (by first | assumption | trivial) (by kernel_rfl) (by decide +kernel) (by decide +kernel) (Or.inr ⟨by rfl, rfl⟩) ?_)
          | (refine SeqS.take2 (v := .agg (cs1).toArray) (by first | assumption | trivial) (by kernel_rfl) (by decide +kernel) (by decide +kernel) (yields_blk (by rfl) 37 (.tmp 5) rfl rfl (fun w' h => XB.out w' h) (row1)) ?_)
          | (refine SeqS.take2 (v := ?_) (by first | assumption | trivial) (by kernel_rfl) (by decide +kernel) (by decide +kernel) (Or.inl ⟨by rfl, ?_⟩) ?_
             rotate_left
             focus
               intro w' hb'
               go_simp
               with_reducible rfl)
          | (refine SeqS.take2 (v := undef) (by first | assumption | trivial) (by kernel_rfl) (by decide +kernel) (by decide +kernel) (Or.inr ⟨by rfl, rfl⟩) ?_)); simp only [Act.put, List.setIfInBounds_toArray, List.set_cons_zero, List.set_cons_succ])
        refine SeqS.alone (by decide +kernel) (by rfl) (fun K hK => ?_)
        go_simp
        go_at_call 21
        refine (CB.out _ S1).mono ?_
        rintro e w2 ⟨v2, rfl, R2, b2⟩
        go_simp
        have S2 : Below w9.heap.size w9 w2 := S1.trans (b2.mono S1.size)
        refine hK _ _ S2 ?_
        clear hK K
        repeat ((first
          | (refine SeqS.take (v := .agg (cs1).toArray) (by first | assumption | trivial) (by kernel_rfl) (by decide +kernel) (by decide +kernel) (yields_blk (by rfl) 37 (.tmp 5) rfl rfl (fun w' h => XB.out w' h) (row1)) ?_)
          | (refine SeqS.take (v := ?_) (by first | assumption | trivial) (by kernel_rfl) (by decide +kernel) (by decide +kernel) (Or.inl ⟨by rfl, ?_⟩) ?_
             rotate_left
             focus
               intro w' hb'
               go_simp
               with_reducible rfl)
          | (refine SeqS.take (v := undef) (by first | assumption | trivial) (by kernel_rfl) (by decide +kernel) (by decide +kernel) (Or.inr ⟨by rfl, rfl⟩) ?_)
          | (refine SeqS.take1 (v := .agg (cs1).toArray) (by first | assumption | trivial) (by kernel_rfl) (by decide +kernel) (by decide +kernel) (yields_blk (by rfl) 37 (.tmp 5) rfl rfl (fun w' h => XB.out w' h) (row1)) ?_)
          | (refine SeqS.take1 (v := ?_) (by first | assumption | trivial) (by kernel_rfl) (by decide +kernel) (by decide +kernel) (Or.inl ⟨by rfl, ?_⟩) ?_
             rotate_left
             focus
               intro w' hb'
               go_simp
               with_reducible rfl)
          | (refine SeqS.take1 (v := undef) (by first | assumption | trivial) (by kernel_rfl) (by decide +kernel) (by decide +kernel) (Or.inr ⟨by rfl, rfl⟩) ?_)
          | (refine SeqS.take2 (v := .agg (cs1).toArray) (by first | assumption | trivial) (by kernel_rfl) (by decide +kernel) (by decide +kernel) (yields_blk (by rfl) 37 (.tmp 5) rfl rfl (fun w' h => XB.out w' h) (row1)) ?_)
          | (refine SeqS.take2 (v := ?_) (by first | assumption | trivial) (by kernel_rfl) (by decide +kernel) (by decide +kernel) (Or.inl ⟨by rfl, ?_⟩) ?_
             rotate_left
             focus
               intro w' hb'
               go_simp
               with_reducible rfl)
          | (refine SeqS.take2 (v := undef) (by first | assumption | trivial) (by kernel_rfl) (by decide +kernel) (by decide +kernel) (Or.inr ⟨by rfl, rfl⟩) ?_)); simp only [Act.put, List.setIfInBounds_toArray, List.set_cons_zero, List.set_cons_succ])
        refine SeqS.alone (by decide +kernel) (by rfl) (fun K hK => ?_)
        go_simp
        go_at_call 22
        refine (CQ.out _ S2).mono ?_
        rintro e w3 ⟨v3, rfl, R3, b3⟩
        go_simp
        have S3 : Below w9.heap.size w9 w3 := S2.trans (b3.mono S2.size)
        refine hK _ _ S3 ?_
        clear hK K
        obtain ⟨a2, c2, e2, P2⟩ := (R2.keep b3).parts
        obtain ⟨a3, c3, e3, P3⟩ := R3.parts
        rw [hpl.out] at e2 e3 P2 P3
        subst e2; subst e3
        have CS := Lib.hid (r19Same_any a2 a3 nn c2 c3 ps w3 P2 P3 hpr.out hpb.out)
        clear R2 R3 P2 P3
        repeat ((first
          | (refine SeqS.take (v := .agg (cs1).toArray) (by first | assumption | trivial) (by kernel_rfl) (by decide +kernel) (by decide +kernel) (yields_blk (by rfl) 37 (.tmp 5) rfl rfl (fun w' h => XB.out w' h) (row1)) ?_)
          | (refine SeqS.take (v := ?_) (by first | assumption | trivial) (by kernel_rfl) (by decide +kernel) (by decide +kernel) (Or.inl ⟨by rfl, ?_⟩) ?_
             rotate_left
             focus
               intro w' hb'
               go_simp
               with_reducible rfl)
          | (refine SeqS.take (v := undef) (by first | assumption | trivial) (by kernel_rfl) (by decide +kernel) (by decide +kernel) (Or.inr ⟨by rfl, rfl⟩) ?_)
          | (refine SeqS.take1 (v := .agg (cs1).toArray) (by first | assumption | trivial) (by kernel_rfl) (by decide +kernel) (by decide +kernel) (yields_blk (by rfl) 37 (.tmp 5) rfl rfl (fun w' h => XB.out w' h) (row1)) ?_)
          | (refine SeqS.take1 (v := ?_) (by first | assumption | trivial) (by kernel_rfl) (by decide +kernel) (by decide +kernel) (Or.inl ⟨by rfl, ?_⟩) ?_
             rotate_left
             focus
               intro w' hb'
               go_simp
               with_reducible rfl)
          | (refine SeqS.take1 (v := undef) (by first | assumption | trivial) (by kernel_rfl) (by decide +kernel) (by decide +kernel) (Or.inr ⟨by rfl, rfl⟩) ?_)
          | (refine SeqS.take2 (v := .agg (cs1).toArray) (by first | assumption | trivial) (by kernel_rfl) (by decide +kernel) (by decide +kernel) (yields_blk (by rfl) 37 (.tmp 5) rfl rfl (fun w' h => XB.out w' h) (row1)) ?_)
          | (refine SeqS.take2 (v := ?_) (by first | assumption | trivial) (by kernel_rfl) (by decide +kernel) (by decide +kernel) (Or.inl ⟨by rfl, ?_⟩) ?_
             rotate_left
             focus
               intro w' hb'
               go_simp
               with_reducible rfl)
          | (refine SeqS.take2 (v := undef) (by first | assumption | trivial) (by kernel_rfl) (by decide +kernel) (by decide +kernel) (Or.inr ⟨by rfl, rfl⟩) ?_)); simp only [Act.put, List.setIfInBounds_toArray, List.set_cons_zero, List.set_cons_succ])
        refine SeqS.alone (by decide +kernel) (by rfl) (fun K hK => ?_)
        go_simp
        go_at_call 20
        refine (CS.out).mono ?_
        rintro e w4 ⟨rfl, b4⟩
        go_simp
        have S4 : Below w9.heap.size w9 w4 := S3.trans (b4.mono S3.size)
        refine hK _ _ S4 ?_
        clear hK K
        repeat ((first
          | (refine SeqS.take (v := .agg (cs1).toArray) (by first | assumption | trivial) (by kernel_rfl) (by decide +kernel) (by decide +kernel) (yields_blk (by rfl) 37 (.tmp 5) rfl rfl (fun w' h => XB.out w' h) (row1)) ?_)
          | (refine SeqS.take (v := ?_) (by first | assumption | trivial) (by kernel_rfl) (by decide +kernel) (by decide +kernel) (Or.inl ⟨by rfl, ?_⟩) ?_
             rotate_left
             focus
               intro w' hb'
               go_simp
               with_reducible rfl)
          | (refine SeqS.take (v := undef) (by first | assumption | trivial) (by kernel_rfl) (by decide +kernel) (by decide +kernel) (Or.inr ⟨by rfl, rfl⟩) ?_)
          | (refine SeqS.take1 (v := .agg (cs1).toArray) (by first | assumption | trivial) (by kernel_rfl) (by decide +kernel) (by decide +kernel) (yields_blk (by rfl) 37 (.tmp 5) rfl rfl (fun w' h => XB.out w' h) (row1)) ?_)
          | (refine SeqS.take1 (v := ?_) (by first | assumption | trivial) (by kernel_rfl) (by decide +kernel) (by decide +kernel) (Or.inl ⟨by rfl, ?_⟩) ?_
             rotate_left
             focus
               intro w' hb'
               go_simp
               with_reducible rfl)
          | (refine SeqS.take1 (v := undef) (by first | assumption | trivial) (by kernel_rfl) (by decide +kernel) (by decide +kernel) (Or.inr ⟨by rfl, rfl⟩) ?_)
          | (refine SeqS.take2 (v := .agg (cs1).toArray) (by first | assumption | trivial) (by kernel_rfl) (by decide +kernel) (by decide +kernel) (yields_blk (by rfl) 37 (.tmp 5) rfl rfl (fun w' h => XB.out w' h) (row1)) ?_)
          | (refine SeqS.take2 (v := ?_) (by first | assumption | trivial) (by kernel_rfl) (by decide +kernel) (by decide +kernel) (Or.inl ⟨by rfl, ?_⟩) ?_
             rotate_left
             focus
               intro w' hb'
               go_simp
               with_reducible rfl)
          | (refine SeqS.take2 (v := undef) (by first | assumption | trivial) (by kernel_rfl) (by decide +kernel) (by decide +kernel) (Or.inr ⟨by rfl, rfl⟩) ?_)); simp only [Act.put, List.setIfInBounds_toArray, List.set_cons_zero, List.set_cons_succ])
        refine SeqS.alone (by decide +kernel) (by rfl) (fun K hK => ?_)
        go_simp
        go_at_call 23
        refine (CN.out _ S4).mono ?_
        rintro e w5 ⟨rfl, b5⟩
        go_simp
        have S5 : Below w9.heap.size w9 w5 := S4.trans (b5.mono S4.size)
        refine hK _ _ S5 ?_
        clear hK K
        repeat ((first
          | (refine SeqS.take (v := .agg (cs1).toArray) (by first | assumption | trivial) (by kernel_rfl) (by decide +kernel) (by decide +kernel) (yields_blk (by rfl) 37 (.tmp 5) rfl rfl (fun w' h => XB.out w' h) (row1)) ?_)
          | (refine SeqS.take (v := ?_) (by first | assumption | trivial) (by kernel_rfl) (by decide +kernel) (by decide +kernel) (Or.inl ⟨by rfl, ?_⟩) ?_
             rotate_left
             focus
               intro w' hb'
               go_simp
               with_reducible rfl)
          | (refine SeqS.take (v := undef) (by first | assumption | trivial) (by kernel_rfl) (by decide +kernel) (by decide +kernel) (Or.inr ⟨by rfl, rfl⟩) ?_)
          | (refine SeqS.take1 (v := .agg (cs1).toArray) (by first | assumption | trivial) (by kernel_rfl) (by decide +kernel) (by decide +kernel) (yields_blk (by rfl) 37 (.tmp 5) rfl rfl (fun w' h => XB.out w' h) (row1)) ?_)
          | (refine SeqS.take1 (v := ?_) (by first | assumption | trivial) (by kernel_rfl) (by decide +kernel) (by decide +kernel) (Or.inl ⟨by rfl, ?_⟩) ?_
             rotate_left
             focus
               intro w' hb'
               go_simp
               with_reducible rfl)
          | (refine SeqS.take1 (v := undef) (by first | assumption | trivial) (by kernel_rfl) (by decide +kernel) (by decide +kernel) (Or.inr ⟨by rfl, rfl⟩) ?_)
          | (refine SeqS.take2 (v := .agg (cs1).toArray) (by first | assumption | trivial) (by kernel_rfl) (by decide +kernel) (by decide +kernel) (yields_blk (by rfl) 37 (.tmp 5) rfl rfl (fun w' h => XB.out w' h) (row1)) ?_)
          | (refine SeqS.take2 (v := ?_) (by first | assumption | trivial) (by kernel_rfl) (by decide +kernel) (by decide +kernel) (Or.inl ⟨by rfl, ?_⟩) ?_
             rotate_left
             focus
               intro w' hb'
               go_simp
               with_reducible rfl)
          | (refine SeqS.take2 (v := undef) (by first | assumption | trivial) (by kernel_rfl) (by decide +kernel) (by decide +kernel) (Or.inr ⟨by rfl, rfl⟩) ?_)); simp only [Act.put, List.setIfInBounds_toArray, List.set_cons_zero, List.set_cons_succ])
        refine SeqS.alone (by decide +kernel) (by rfl) (fun K hK => ?_)
        go_simp
        go_at_call 22
        refine (CQ.out _ S5).mono ?_
        rintro e w6 ⟨v6, rfl, R6, b6⟩
        go_simp
        have S6 : Below w9.heap.size w9 w6 := S5.trans (b6.mono S5.size)
        refine hK _ _ S6 ?_
        clear hK K
        obtain ⟨a6, c6, e6, P6⟩ := R6.parts
        rw [hpl.out] at e6
        subst e6
        clear R6 P6
        repeat ((first
          | (refine SeqS.take (v := .agg (cs1).toArray) (by first | assumption | trivial) (by kernel_rfl) (by decide +kernel) (by decide +kernel) (yields_blk (by rfl) 37 (.tmp 5) rfl rfl (fun w' h => XB.out w' h) (row1)) ?_)
          | (refine SeqS.take (v := ?_) (by first | assumption | trivial) (by kernel_rfl) (by decide +kernel) (by decide +kernel) (Or.inl ⟨by rfl, ?_⟩) ?_
             rotate_left
             focus
               intro w' hb'
               go_simp
               with_reducible rfl)
          | (refine SeqS.take (v := undef) (by first | assumption | trivial) (by kernel_rfl) (by decide +kernel) (by decide +kernel) (Or.inr ⟨by rfl, rfl⟩) ?_)
          | (refine SeqS.take1 (v := .agg (cs1).toArray) (by first | assumption | trivial) (by kernel_rfl) (by decide +kernel) (by decide +kernel) (yields_blk (by rfl) 37 (.tmp 5) rfl rfl (fun w' h => XB.out w' h) (row1)) ?_)
          | (refine SeqS.take1 (v := ?_) (by first | assumption | trivial) (by kernel_rfl) (by decide +kernel) (by decide +kernel) (Or.inl ⟨by rfl, ?_⟩) ?_
             rotate_left
             focus
               intro w' hb'
               go_simp
               with_reducible rfl)
          | (refine SeqS.take1 (v := undef) (by first | assumption | trivial) (by kernel_rfl) (by decide +kernel) (by decide +kernel) (Or.inr ⟨by rfl, rfl⟩) ?_)
          | (refine SeqS.take2 (v := .agg (cs1).toArray) (by first | assumption | trivial) (by kernel_rfl) (by decide +kernel) (by decide +kernel) (yields_blk (by rfl) 37 (.tmp 5) rfl rfl (fun w' h => XB.out w' h) (row1)) ?_)
          | (refine SeqS.take2 (v := ?_) (by first | assumption | trivial) (by kernel_rfl) (by decide +kernel) (by decide +kernel) (Or.inl ⟨by rfl, ?_⟩) ?_
             rotate_left
             focus
               intro w' hb'
               go_simp
               with_reducible rfl)
          | (refine SeqS.take2 (v := undef) (by first | assumption | trivial) (by kernel_rfl) (by decide +kernel) (by decide +kernel) (Or.inr ⟨by rfl, rfl⟩) ?_)); simp only [Act.put, List.setIfInBounds_toArray, List.set_cons_zero, List.set_cons_succ])
        refine SeqS.alone (by decide +kernel) (by rfl) (fun K hK => ?_)
        go_simp
        go_at_call 24
        refine (CZ.out _ S6).mono ?_
        rintro e w7 ⟨rfl, b7⟩
        go_simp
        have S7 : Below w9.heap.size w9 w7 := S6.trans (b7.mono S6.size)
        refine hK _ _ S7 ?_
        clear hK K
        repeat ((first
          | (refine SeqS.take (v := .agg (cs1).toArray) (by first | assumption | trivial) (by kernel_rfl) (by decide +kernel) (by decide +kernel) (yields_blk (by rfl) 37 (.tmp 5) rfl rfl (fun w' h => XB.out w' h) (row1)) ?_)
          | (refine SeqS.take (v := ?_) (by first | assumption | trivial) (by kernel_rfl) (by decide +kernel) (by decide +kernel) (Or.inl ⟨by rfl, ?_⟩) ?_
             rotate_left
             focus
               intro w' hb'
               go_simp
               with_reducible rfl)
          | (refine SeqS.take (v := undef) (by first | assumption | trivial) (by kernel_rfl) (by decide +kernel) (by decide +kernel) (Or.inr ⟨by rfl, rfl⟩) ?_)
          | (refine SeqS.take1 (v := .agg (cs1).toArray) (by first | assumption | trivial) (by kernel_rfl) (by decide +kernel) (by decide +kernel) (yields_blk (by rfl) 37 (.tmp 5) rfl rfl (fun w' h => XB.out w' h) (row1)) ?_)
          | (refine SeqS.take1 (v := ?_) (by first | assumption | trivial) (by kernel_rfl) (by decide +kernel) (by decide +kernel) (Or.inl ⟨by rfl, ?_⟩) ?_
             rotate_left
             focus
               intro w' hb'
               go_simp
               with_reducible rfl)
          | (refine SeqS.take1 (v := undef) (by first | assumption | trivial) (by kernel_rfl) (by decide +kernel) (by decide +kernel) (Or.inr ⟨by rfl, rfl⟩) ?_)
          | (refine SeqS.take2 (v := .agg (cs1).toArray) (by first | assumption | trivial) (by kernel_rfl) (by decide +kernel) (by decide +kernel) (yields_blk (by rfl) 37 (.tmp 5) rfl rfl (fun w' h => XB.out w' h) (row1)) ?_)
          | (refine SeqS.take2 (v := ?_) (by first | assumption | trivial) (by kernel_rfl) (by decide +kernel) (by decide +kernel) (Or.inl ⟨by rfl, ?_⟩) ?_
             rotate_left
             focus
               intro w' hb'
               go_simp
               with_reducible rfl)
          | (refine SeqS.take2 (v := undef) (by first | assumption | trivial) (by kernel_rfl) (by decide +kernel) (by decide +kernel) (Or.inr ⟨by rfl, rfl⟩) ?_)); simp only [Act.put, List.setIfInBounds_toArray, List.set_cons_zero, List.set_cons_succ])
        refine SeqS.alone (by decide +kernel) (by rfl) (fun K hK => ?_)
        go_simp
        go_at_call 25
        refine (CD.out _ S7).mono ?_
        rintro e w8 ⟨rfl, b8⟩
        go_simp
        have S8 : Below w9.heap.size w9 w8 := S7.trans (b8.mono S7.size)
        refine hK _ _ S8 ?_
        clear hK K
        repeat ((first
          | (refine SeqS.take (v := .agg (cs1).toArray) (by first | assumption | trivial) (by kernel_rfl) (by decide +kernel) (by decide +kernel) (yields_blk (by rfl) 37 (.tmp 5) rfl rfl (fun w' h => XB.out w' h) (row1)) ?_)
          | (refine SeqS.take (v := ?_) (by first | assumption | trivial) (by kernel_rfl) (by decide +kernel) (by decide +kernel) (Or.inl ⟨by rfl, ?_⟩) ?_
             rotate_left
             focus
               intro w' hb'
               go_simp
               with_reducible rfl)
          | (refine SeqS.take (v := undef) (by first | assumption | trivial) (by kernel_rfl) (by decide +kernel) (by decide +kernel) (Or.inr ⟨by rfl, rfl⟩) ?_)
          | (refine SeqS.take1 (v := .agg (cs1).toArray) (by first | assumption | trivial) (by kernel_rfl) (by decide +kernel) (by decide +kernel) (yields_blk (by rfl) 37 (.tmp 5) rfl rfl (fun w' h => XB.out w' h) (row1)) ?_)
          | (refine SeqS.take1 (v := ?_) (by first | assumption | trivial) (by kernel_rfl) (by decide +kernel) (by decide +kernel) (Or.inl ⟨by rfl, ?_⟩) ?_
             rotate_left
             focus
               intro w' hb'
               go_simp
               with_reducible rfl)
          | (refine SeqS.take1 (v := undef) (by first | assumption | trivial) (by kernel_rfl) (by decide +kernel) (by decide +kernel) (Or.inr ⟨by rfl, rfl⟩) ?_)
          | (refine SeqS.take2 (v := .agg (cs1).toArray) (by first | assumption | trivial) (by kernel_rfl) (by decide +kernel) (by decide +kernel) (yields_blk (by rfl) 37 (.tmp 5) rfl rfl (fun w' h => XB.out w' h) (row1)) ?_)
          | (refine SeqS.take2 (v := ?_) (by first | assumption | trivial) (by kernel_rfl) (by decide +kernel) (by decide +kernel) (Or.inl ⟨by rfl, ?_⟩) ?_
             rotate_left
             focus
               intro w' hb'
               go_simp
               with_reducible rfl)
          | (refine SeqS.take2 (v := undef) (by first | assumption | trivial) (by kernel_rfl) (by decide +kernel) (by decide +kernel) (Or.inr ⟨by rfl, rfl⟩) ?_)); simp only [Act.put, List.setIfInBounds_toArray, List.set_cons_zero, List.set_cons_succ])
        refine SeqS.done (by decide +kernel) ?_
        obtain ⟨hz1, hz2, hz3⟩ := fin9.out _ S8
        clear b1 b2 b3 b4 b5 b6 b7 b8 S0 S1 S2 S3 S4 S5 S6 S7 CL CB CQ CN CZ CD XB CS hee
        go_wp2_with fail
        exact ⟨⟨j + 1, ro1, cs1, D1, hltH.out, by congr 1, rfl, OK1.out.2.2, OK1.out.1, OK1.out.2.1, hz2, hz1, hz3⟩, by simp only [intOf]; have := hltH.out; omega⟩
      by_cases k3 : kk = 3
      · subst k3
        obtain ⟨D1, he⟩ : ∃ D1, armD D N = D1 := ⟨_, rfl⟩
        obtain ⟨e1, he1⟩ : ∃ e : Int, e = 0 := ⟨_, rfl⟩
        have ok1 := (armD_ok OH.out N HN.out).more (Nat.le_succ j)
        have by1 := armD_by YH.out N
        rw [he] at ok1 by1
        have ok1H := Lib.hid ok1
        have by1H := Lib.hid by1
        have cP := c_arm N h5 OH.out
        have heH := Lib.hid he
        rw [he] at cP
        clear ok1 by1 he he1
        go_wp2_with fail
        refine cP.mono ?_
        rintro q w6 ⟨rfl, h6, s6⟩
        have b6 : Blk w6 G 37 cs := s6.blk b5 (.inl (.inl rfl))
        have r6 : RollAt w6 ro g 0 := s6.blk r5 (.inl (.inr rfl))
        have x6 := s6.blk hk5 (.inr rfl)
        clear cP h5 b5 r5 s6 hk5 c0 c1 c2
        have c1 := (x6.cell 1).trans z1
        have c2 := (x6.cell 2).trans z2
        have cQ := r_arm N h6
        rw [heH.out] at cQ
        go_wp2_with ((with_reducible refine wpList_load_blk rfl 37 (.tmp 5) rfl ?_ b6 rowDd hl ?_); rfl)
        refine cQ.mono ?_
        rintro q w7 ⟨cs1, rfl, h7, q7⟩
        have b7 := b6.keep q7 b6.lt
        have r7 := r6.keep q7
        have l7 := h7.ddc.l
        have o7 := h7.ddc.o
        clear cQ q7 h6 b6 r6
        go_wp2_with ((with_reducible refine store_row rfl 37 (.tmp 5) _ rfl ?_ ?_ b7 rowDd l7 hl o7 ?_); rfl; rfl; intro w9 b9 g9; refine RowKit.Hid.out ?_)
        refine Lib.hid ?_
        obtain ⟨h9, r9⟩ := gE_store h7 (fun _ h => .inl h) r7 hne g9 BGH.out
        obtain ⟨ro1, rfl⟩ : ∃ r, r = ro := ⟨_, rfl⟩
        have ok1 := ok1H.out
        have by1 := by1H.out
        have hne1 := hne
        clear h7 r7 b7 g9 l7 o7 x6
        clear c1 c2 hl z0 z1 z2 OH YH ok1H by1H heH k0 k1 k2
        have hee : (e1 != e1) = false := bne_self_eq_false e1
        obtain ⟨ps, hps⟩ : ∃ ps, allF (heldR D1 0) = ps := ⟨_, rfl⟩
        obtain ⟨nn, hnn⟩ : ∃ n, numF (heldR D1 0) = n := ⟨_, rfl⟩
        obtain ⟨NN, hNN⟩ : ∃ n, (heldR D1 0).length = n := ⟨_, rfl⟩
        have hpl := Lib.hid (show ps.length = nn by rw [← hps, ← hnn]; exact allF_len _)
        have hpr := Lib.hid (show ∀ p ∈ ps, ∀ y ∈ p, 0 ≤ y ∧ y < 256 by rw [← hps]; exact allF_range (by1.f 0).held)
        have hpb := Lib.hid (show nn ≤ 1000000000 by rw [← hnn]; exact few20 ok1)
        have l1 := h9.ddc.l
        have row1 : IsRow Tryz.prog 37 cs1.length := by rw [l1]; exact rowDd
        have S0 : Below w9.heap.size w9 w9.drew := (Below.refl _ _).drew
        have CL := Lib.hid (fun w' (q : Below w9.heap.size w9 w') => like20_any (h9.keep q) ok1 HjT.out.2.2)
        have CB := Lib.hid (fun w' (q : Below w9.heap.size w9 w') => t_bodies (z := 0) (h9.keep q) (r9.keep q) ok1 by1 (by decide) HGW.out (Nat.le_refl _) hps)
        have CQ := Lib.hid (fun w' (q : Below w9.heap.size w9 w') => q_bodies (h9.keep q) ok1 HjT.out.2.2 by1 hps)
        have CN := Lib.hid (fun w' (q : Below w9.heap.size w9 w') => t_len (z := 0) (h9.keep q) (r9.keep q) ok1 by1 (by decide) HGW.out (Nat.le_refl _) hnn)
        have CZ := Lib.hid (fun w' (q : Below w9.heap.size w9 w') => t_size (z := 0) (h9.keep q) (r9.keep q) ok1 (by decide) hNN)
        have CD := Lib.hid (fun w' (q : Below w9.heap.size w9 w') => t_dsize (z := 0) (h9.keep q) ok1 (by decide) hNN)
        have XB := Lib.hid (fun w' (q : Below w9.heap.size w9 w') => b9.keep q b9.lt)
        have fin9 := Lib.hid (fun w' (q : Below w9.heap.size w9 w') => (⟨h9.keep q, r9.keep q, b9.keep q b9.lt⟩ : Two (gE G ro1) W.heap.size W w' g cs1 D1 D1 ∧ RollAt w' ro1 g 0 ∧ Blk w' G 37 cs1))
        have OK1 := Lib.hid (show D1.Ok (j + 1) ∧ D1.By ∧ ro1 ≠ G from ⟨ok1, by1, hne1⟩)
        clear hps hnn hNN l1 h9 r9 b9 ok1 by1 hne1
        go_wp2_with fail
        refine region_seqS (fun w' => Below w9.heap.size w9 w') (by kernel_rfl) S0 ?_
        simp only [pairs, Nat.reduceAdd]
        repeat ((first
          | (refine SeqS.take (v := .agg (cs1).toArray) (by first | assumption | trivial) (by kernel_rfl) (by decide +kernel) (by decide +kernel) (yields_blk (by rfl) 37 (.tmp 5) rfl rfl (fun w' h => XB.out w' h) (row1)) ?_)
          | (refine SeqS.take (v := ?_) (by first | assumption | trivial) (by kernel_rfl) (by decide +kernel) (by decide +kernel) (Or.inl ⟨by rfl, ?_⟩) ?_
             rotate_left
             focus
               intro w' hb'
               go_simp
               with_reducible rfl)
          | (refine SeqS.take (v := undef) (by first | assumption | trivial) (by kernel_rfl) (by decide +kernel) (by decide +kernel) (Or.inr ⟨by rfl, rfl⟩) ?_)
          | (refine SeqS.take1 (v := .agg (cs1).toArray) (by first | assumption | trivial) (by kernel_rfl) (by decide +kernel) (by decide +kernel) (yields_blk (by rfl) 37 (.tmp 5) rfl rfl (fun w' h => XB.out w' h) (row1)) ?_)
          | (refine SeqS.take1 (v := ?_) (by first | assumption | trivial) (by kernel_rfl) (by decide +kernel) (by decide +kernel) (Or.inl ⟨by rfl, ?_⟩) ?_
             rotate_left
             focus
               intro w' hb'
               go_simp
               with_reducible rfl)
          | (refine SeqS.take1 (v := undef) (by first | assumption | trivial) (by kernel_rfl) (by decide +kernel) (by decide +kernel) (Or.inr ⟨by rfl, rfl⟩) ?_)
          | (refine SeqS.take2 (v := .agg (cs1).toArray) (by first | assumption | trivial) (by kernel_rfl) (by decide +kernel) (by decide +kernel) (yields_blk (by rfl) 37 (.tmp 5) rfl rfl (fun w' h => XB.out w' h) (row1)) ?_)
          | (refine SeqS.take2 (v := ?_) (by first | assumption | trivial) (by kernel_rfl) (by decide +kernel) (by decide +kernel) (Or.inl ⟨by rfl, ?_⟩) ?_
             rotate_left
             focus
               intro w' hb'
               go_simp
               with_reducible rfl)
          | (refine SeqS.take2 (v := undef) (by first | assumption | trivial) (by kernel_rfl) (by decide +kernel) (by decide +kernel) (Or.inr ⟨by rfl, rfl⟩) ?_)); simp only [Act.put, List.setIfInBounds_toArray, List.set_cons_zero, List.set_cons_succ])
        refine SeqS.alone (by decide +kernel) (by rfl) (fun K hK => ?_)
        go_simp
        go_at_call 19
        refine (CL.out _ S0).mono ?_
        rintro e w1 ⟨rfl, b1⟩
        go_simp
        have S1 : Below w9.heap.size w9 w1 := S0.trans (b1.mono S0.size)
        refine hK _ _ S1 ?_
        clear hK K
        repeat ((first
          | (refine SeqS.take (v := .agg (cs1).toArray) (by first | assumption | trivial) (by kernel_rfl) (by decide +kernel) (by decide +kernel) (yields_blk (by rfl) 37 (.tmp 5) rfl rfl (fun w' h => XB.out w' h) (row1)) ?_)
          | (refine SeqS.take (v := ?_) (by first | assumption | trivial) (by kernel_rfl) (by decide +kernel) (by decide +kernel) (Or.inl ⟨by rfl, ?_⟩) ?_
             rotate_left
             focus
               intro w' hb'
               go_simp
               with_reducible rfl)
          | (refine SeqS.take (v := undef) (by first | assumption | trivial) (by kernel_rfl) (by decide +kernel) (by decide +kernel) (Or.inr ⟨by rfl, rfl⟩) ?_)
          | (refine SeqS.take1 (v := .agg (cs1).toArray) (by first | assumption | trivial) (by kernel_rfl) (by decide +kernel) (by decide +kernel) (yields_blk (by rfl) 37 (.tmp 5) rfl rfl (fun w' h => XB.out w' h) (row1)) ?_)
          | (refine SeqS.take1 (v := ?_) (by first | assumption | trivial) (by kernel_rfl) (by decide +kernel) (by decide +kernel) (Or.inl ⟨by rfl, ?_⟩) ?_
             rotate_left
             focus
               intro w' hb'
               go_simp
               with_reducible rfl)
          | (refine SeqS.take1 (v := undef) (by first | assumption | trivial) (by kernel_rfl) (by decide +kernel) (by decide +kernel) (Or.inr ⟨by rfl, rfl⟩) ?_)
          | (refine SeqS.take2 (v := .agg (cs1).toArray) (by first | assumption | trivial) (by kernel_rfl) (by decide +kernel) (by decide +kernel) (yields_blk (by rfl) 37 (.tmp 5) rfl rfl (fun w' h => XB.out w' h) (row1)) ?_)
          | (refine SeqS.take2 (v := ?_) (by first | assumption | trivial) (by kernel_rfl) (by decide +kernel) (by decide +kernel) (Or.inl ⟨by rfl, ?_⟩) ?_
             rotate_left
             focus
               intro w' hb'
               go_simp
               with_reducible rfl)
          | (refine SeqS.take2 (v := undef) (by first | assumption | trivial) (by kernel_rfl) (by decide +kernel) (by decide +kernel) (Or.inr ⟨by rfl, rfl⟩) ?_)); simp only [Act.put, List.setIfInBounds_toArray, List.set_cons_zero, List.set_cons_succ])
        refine SeqS.alone (by decide +kernel) (by rfl) (fun K hK => ?_)
        go_simp
        go_at_call 21
        refine (CB.out _ S1).mono ?_
        rintro e w2 ⟨v2, rfl, R2, b2⟩
        go_simp
        have S2 : Below w9.heap.size w9 w2 := S1.trans (b2.mono S1.size)
        refine hK _ _ S2 ?_
        clear hK K
        repeat ((first
          | (refine SeqS.take (v := .agg (cs1).toArray) (by first | assumption | trivial) (by kernel_rfl) (by decide +kernel) (by decide +kernel) (yields_blk (by rfl) 37 (.tmp 5) rfl rfl (fun w' h => XB.out w' h) (row1)) ?_)
          | (refine SeqS.take (v := ?_) (by first | assumption | trivial) (by kernel_rfl) (by decide +kernel) (by decide +kernel) (Or.inl ⟨by rfl, ?_⟩) ?_
             rotate_left
             focus
               intro w' hb'
               go_simp
               with_reducible rfl)
          | (refine SeqS.take (v := undef) (by first | assumption | trivial) (by kernel_rfl) (by decide +kernel) (by decide +kernel) (Or.inr ⟨by rfl, rfl⟩) ?_)
          | (refine SeqS.take1 (v := .agg (cs1).toArray) (by first | assumption | trivial) (by kernel_rfl) (by decide +kernel) (by decide +kernel) (yields_blk (by rfl) 37 (.tmp 5) rfl rfl (fun w' h => XB.out w' h) (row1)) ?_)
          | (refine SeqS.take1 (v := ?_) (by first | assumption | trivial) (by kernel_rfl) (by decide +kernel) (by decide +kernel) (Or.inl ⟨by rfl, ?_⟩) ?_
             rotate_left
             focus
               intro w' hb'
               go_simp
               with_reducible rfl)
          | (refine SeqS.take1 (v := undef) (by first | assumption | trivial) (by kernel_rfl) (by decide +kernel) (by decide +kernel) (Or.inr ⟨by rfl, rfl⟩) ?_)
          | (refine SeqS.take2 (v := .agg (cs1).toArray) (by first | assumption | trivial) (by kernel_rfl) (by decide +kernel) (by decide +kernel) (yields_blk (by rfl) 37 (.tmp 5) rfl rfl (fun w' h => XB.out w' h) (row1)) ?_)
          | (refine SeqS.take2 (v := ?_) (by first | assumption | trivial) (by kernel_rfl) (by decide +kernel) (by decide +kernel) (Or.inl ⟨by rfl, ?_⟩) ?_
             rotate_left
             focus
               intro w' hb'
               go_simp
               with_reducible rfl)
          | (refine SeqS.take2 (v := undef) (by first | assumption | trivial) (by kernel_rfl) (by decide +kernel) (by decide +kernel) (Or.inr ⟨by rfl, rfl⟩) ?_)); simp only [Act.put, List.setIfInBounds_toArray, List.set_cons_zero, List.set_cons_succ])
        refine SeqS.alone (by decide +kernel) (by rfl) (fun K hK => ?_)
        go_simp
        go_at_call 22
        refine (CQ.out _ S2).mono ?_
        rintro e w3 ⟨v3, rfl, R3, b3⟩
        go_simp
        have S3 : Below w9.heap.size w9 w3 := S2.trans (b3.mono S2.size)
        refine hK _ _ S3 ?_
        clear hK K
        obtain ⟨a2, c2, e2, P2⟩ := (R2.keep b3).parts
        obtain ⟨a3, c3, e3, P3⟩ := R3.parts
        rw [hpl.out] at e2 e3 P2 P3
        subst e2; subst e3
        have CS := Lib.hid (r19Same_any a2 a3 nn c2 c3 ps w3 P2 P3 hpr.out hpb.out)
        clear R2 R3 P2 P3
        repeat ((first
          | (refine SeqS.take (v := .agg (cs1).toArray) (by first | assumption | trivial) (by kernel_rfl) (by decide +kernel) (by decide +kernel) (yields_blk (by rfl) 37 (.tmp 5) rfl rfl (fun w' h => XB.out w' h) (row1)) ?_)
          | (refine SeqS.take (v := ?_) (by first | assumption | trivial) (by kernel_rfl) (by decide +kernel) (by decide +kernel) (Or.inl ⟨by rfl, ?_⟩) ?_
             rotate_left
             focus
               intro w' hb'
               go_simp
               with_reducible rfl)
          | (refine SeqS.take (v := undef) (by first | assumption | trivial) (by kernel_rfl) (by decide +kernel) (by decide +kernel) (Or.inr ⟨by rfl, rfl⟩) ?_)
          | (refine SeqS.take1 (v := .agg (cs1).toArray) (by first | assumption | trivial) (by kernel_rfl) (by decide +kernel) (by decide +kernel) (yields_blk (by rfl) 37 (.tmp 5) rfl rfl (fun w' h => XB.out w' h) (row1)) ?_)
          | (refine SeqS.take1 (v := ?_) (by first | assumption | trivial) (by kernel_rfl) (by decide +kernel) (by decide +kernel) (Or.inl ⟨by rfl, ?_⟩) ?_
             rotate_left
             focus
               intro w' hb'
               go_simp
               with_reducible rfl)
          | (refine SeqS.take1 (v := undef) (by first | assumption | trivial) (by kernel_rfl) (by decide +kernel) (by decide +kernel) (Or.inr ⟨by rfl, rfl⟩) ?_)
          | (refine SeqS.take2 (v := .agg (cs1).toArray) (by first | assumption | trivial) (by kernel_rfl) (by decide +kernel) (by decide +kernel) (yields_blk (by rfl) 37 (.tmp 5) rfl rfl (fun w' h => XB.out w' h) (row1)) ?_)
          | (refine SeqS.take2 (v := ?_) (by first | assumption | trivial) (by kernel_rfl) (by decide +kernel) (by decide +kernel) (Or.inl ⟨by rfl, ?_⟩) ?_
             rotate_left
             focus
               intro w' hb'
               go_simp
               with_reducible rfl)
          | (refine SeqS.take2 (v := undef) (by first | assumption | trivial) (by kernel_rfl) (by decide +kernel) (by decide +kernel) (Or.inr ⟨by rfl, rfl⟩) ?_)); simp only [Act.put, List.setIfInBounds_toArray, List.set_cons_zero, List.set_cons_succ])
        refine SeqS.alone (by decide +kernel) (by rfl) (fun K hK => ?_)
        go_simp
        go_at_call 20
        refine (CS.out).mono ?_
        rintro e w4 ⟨rfl, b4⟩
        go_simp
        have S4 : Below w9.heap.size w9 w4 := S3.trans (b4.mono S3.size)
        refine hK _ _ S4 ?_
        clear hK K
        repeat ((first
          | (refine SeqS.take (v := .agg (cs1).toArray) (by first | assumption | trivial) (by kernel_rfl) (by decide +kernel) (by decide +kernel) (yields_blk (by rfl) 37 (.tmp 5) rfl rfl (fun w' h => XB.out w' h) (row1)) ?_)
          | (refine SeqS.take (v := ?_) (by first | assumption | trivial) (by kernel_rfl) (by decide +kernel) (by decide +kernel) (Or.inl ⟨by rfl, ?_⟩) ?_
             rotate_left
             focus
               intro w' hb'
               go_simp
               with_reducible rfl)
          | (refine SeqS.take (v := undef) (by first | assumption | trivial) (by kernel_rfl) (by decide +kernel) (by decide +kernel) (Or.inr ⟨by rfl, rfl⟩) ?_)
          | (refine SeqS.take1 (v := .agg (cs1).toArray) (by first | assumption | trivial) (by kernel_rfl) (by decide +kernel) (by decide +kernel) (yields_blk (by rfl) 37 (.tmp 5) rfl rfl (fun w' h => XB.out w' h) (row1)) ?_)
          | (refine SeqS.take1 (v := ?_) (by first | assumption | trivial) (by kernel_rfl) (by decide +kernel) (by decide +kernel) (Or.inl ⟨by rfl, ?_⟩) ?_
             rotate_left
             focus
               intro w' hb'
               go_simp
               with_reducible rfl)
          | (refine SeqS.take1 (v := undef) (by first | assumption | trivial) (by kernel_rfl) (by decide +kernel) (by decide +kernel) (Or.inr ⟨by rfl, rfl⟩) ?_)
          | (refine SeqS.take2 (v := .agg (cs1).toArray) (by first | assumption | trivial) (by kernel_rfl) (by decide +kernel) (by decide +kernel) (yields_blk (by rfl) 37 (.tmp 5) rfl rfl (fun w' h => XB.out w' h) (row1)) ?_)
          | (refine SeqS.take2 (v := ?_) (by first | assumption | trivial) (by kernel_rfl) (by decide +kernel) (by decide +kernel) (Or.inl ⟨by rfl, ?_⟩) ?_
             rotate_left
             focus
               intro w' hb'
               go_simp
               with_reducible rfl)
          | (refine SeqS.take2 (v := undef) (by first | assumption | trivial) (by kernel_rfl) (by decide +kernel) (by decide +kernel) (Or.inr ⟨by rfl, rfl⟩) ?_)); simp only [Act.put, List.setIfInBounds_toArray, List.set_cons_zero, List.set_cons_succ])
        refine SeqS.alone (by decide +kernel) (by rfl) (fun K hK => ?_)
        go_simp
        go_at_call 23
        refine (CN.out _ S4).mono ?_
        rintro e w5 ⟨rfl, b5⟩
        go_simp
        have S5 : Below w9.heap.size w9 w5 := S4.trans (b5.mono S4.size)
        refine hK _ _ S5 ?_
        clear hK K
        repeat ((first
          | (refine SeqS.take (v := .agg (cs1).toArray) (by first | assumption | trivial) (by kernel_rfl) (by decide +kernel) (by decide +kernel) (yields_blk (by rfl) 37 (.tmp 5) rfl rfl (fun w' h => XB.out w' h) (row1)) ?_)
          | (refine SeqS.take (v := ?_) (by first | assumption | trivial) (by kernel_rfl) (by decide +kernel) (by decide +kernel) (Or.inl ⟨by rfl, ?_⟩) ?_
             rotate_left
             focus
               intro w' hb'
               go_simp
               with_reducible rfl)
          | (refine SeqS.take (v := undef) (by first | assumption | trivial) (by kernel_rfl) (by decide +kernel) (by decide +kernel) (Or.inr ⟨by rfl, rfl⟩) ?_)
          | (refine SeqS.take1 (v := .agg (cs1).toArray) (by first | assumption | trivial) (by kernel_rfl) (by decide +kernel) (by decide +kernel) (yields_blk (by rfl) 37 (.tmp 5) rfl rfl (fun w' h => XB.out w' h) (row1)) ?_)
          | (refine SeqS.take1 (v := ?_) (by first | assumption | trivial) (by kernel_rfl) (by decide +kernel) (by decide +kernel) (Or.inl ⟨by rfl, ?_⟩) ?_
             rotate_left
             focus
               intro w' hb'
               go_simp
               with_reducible rfl)
          | (refine SeqS.take1 (v := undef) (by first | assumption | trivial) (by kernel_rfl) (by decide +kernel) (by decide +kernel) (Or.inr ⟨by rfl, rfl⟩) ?_)
          | (refine SeqS.take2 (v := .agg (cs1).toArray) (by first | assumption | trivial) (by kernel_rfl) (by decide +kernel) (by decide +kernel) (yields_blk (by rfl) 37 (.tmp 5) rfl rfl (fun w' h => XB.out w' h) (row1)) ?_)
          | (refine SeqS.take2 (v := ?_) (by first | assumption | trivial) (by kernel_rfl) (by decide +kernel) (by decide +kernel) (Or.inl ⟨by rfl, ?_⟩) ?_
             rotate_left
             focus
               intro w' hb'
               go_simp
               with_reducible rfl)
          | (refine SeqS.take2 (v := undef) (by first | assumption | trivial) (by kernel_rfl) (by decide +kernel) (by decide +kernel) (Or.inr ⟨by rfl, rfl⟩) ?_)); simp only [Act.put, List.setIfInBounds_toArray, List.set_cons_zero, List.set_cons_succ])
        refine SeqS.alone (by decide +kernel) (by rfl) (fun K hK => ?_)
        go_simp
        go_at_call 22
        refine (CQ.out _ S5).mono ?_
        rintro e w6 ⟨v6, rfl, R6, b6⟩
        go_simp
        have S6 : Below w9.heap.size w9 w6 := S5.trans (b6.mono S5.size)
        refine hK _ _ S6 ?_
        clear hK K
        obtain ⟨a6, c6, e6, P6⟩ := R6.parts
        rw [hpl.out] at e6
        subst e6
        clear R6 P6
        repeat ((first
          | (refine SeqS.take (v := .agg (cs1).toArray) (by first | assumption | trivial) (by kernel_rfl) (by decide +kernel) (by decide +kernel) (yields_blk (by rfl) 37 (.tmp 5) rfl rfl (fun w' h => XB.out w' h) (row1)) ?_)
          | (refine SeqS.take (v := ?_) (by first | assumption | trivial) (by kernel_rfl) (by decide +kernel) (by decide +kernel) (Or.inl ⟨by rfl, ?_⟩) ?_
             rotate_left
             focus
               intro w' hb'
               go_simp
               with_reducible rfl)
          | (refine SeqS.take (v := undef) (by first | assumption | trivial) (by kernel_rfl) (by decide +kernel) (by decide +kernel) (Or.inr ⟨by rfl, rfl⟩) ?_)
          | (refine SeqS.take1 (v := .agg (cs1).toArray) (by first | assumption | trivial) (by kernel_rfl) (by decide +kernel) (by decide +kernel) (yields_blk (by rfl) 37 (.tmp 5) rfl rfl (fun w' h => XB.out w' h) (row1)) ?_)
          | (refine SeqS.take1 (v := ?_) (by first | assumption | trivial) (by kernel_rfl) (by decide +kernel) (by decide +kernel) (Or.inl ⟨by rfl, ?_⟩) ?_
             rotate_left
             focus
               intro w' hb'
               go_simp
               with_reducible rfl)
          | (refine SeqS.take1 (v := undef) (by first | assumption | trivial) (by kernel_rfl) (by decide +kernel) (by decide +kernel) (Or.inr ⟨by rfl, rfl⟩) ?_)
          | (refine SeqS.take2 (v := .agg (cs1).toArray) (by first | assumption | trivial) (by kernel_rfl) (by decide +kernel) (by decide +kernel) (yields_blk (by rfl) 37 (.tmp 5) rfl rfl (fun w' h => XB.out w' h) (row1)) ?_)
          | (refine SeqS.take2 (v := ?_) (by first | assumption | trivial) (by kernel_rfl) (by decide +kernel) (by decide +kernel) (Or.inl ⟨by rfl, ?_⟩) ?_
             rotate_left
             focus
               intro w' hb'
               go_simp
               with_reducible rfl)
          | (refine SeqS.take2 (v := undef) (by first | assumption | trivial) (by kernel_rfl) (by decide +kernel) (by decide +kernel) (Or.inr ⟨by rfl, rfl⟩) ?_)); simp only [Act.put, List.setIfInBounds_toArray, List.set_cons_zero, List.set_cons_succ])
        refine SeqS.alone (by decide +kernel) (by rfl) (fun K hK => ?_)
        go_simp
        go_at_call 24
        refine (CZ.out _ S6).mono ?_
        rintro e w7 ⟨rfl, b7⟩
        go_simp
        have S7 : Below w9.heap.size w9 w7 := S6.trans (b7.mono S6.size)
        refine hK _ _ S7 ?_
        clear hK K
        repeat ((first
          | (refine SeqS.take (v := .agg (cs1).toArray) (by first | assumption | trivial) (by kernel_rfl) (by decide +kernel) (by decide +kernel) (yields_blk (by rfl) 37 (.tmp 5) rfl rfl (fun w' h => XB.out w' h) (row1)) ?_)
          | (refine SeqS.take (v := ?_) (by first | assumption | trivial) (by kernel_rfl) (by decide +kernel) (by decide +kernel) (Or.inl ⟨by rfl, ?_⟩) ?_
             rotate_left
             focus
               intro w' hb'
               go_simp
               with_reducible rfl)
          | (refine SeqS.take (v := undef) (by first | assumption | trivial) (by kernel_rfl) (by decide +kernel) (by decide +kernel) (Or.inr ⟨by rfl, rfl⟩) ?_)
          | (refine SeqS.take1 (v := .agg (cs1).toArray) (by first | assumption | trivial) (by kernel_rfl) (by decide +kernel) (by decide +kernel) (yields_blk (by rfl) 37 (.tmp 5) rfl rfl (fun w' h => XB.out w' h) (row1)) ?_)
          | (refine SeqS.take1 (v := ?_) (by first | assumption | trivial) (by kernel_rfl) (by decide +kernel) (by decide +kernel) (Or.inl ⟨by rfl, ?_⟩) ?_
             rotate_left
             focus
               intro w' hb'
               go_simp
               with_reducible rfl)
          | (refine SeqS.take1 (v := undef) (by first | assumption | trivial) (by kernel_rfl) (by decide +kernel) (by decide +kernel) (Or.inr ⟨by rfl, rfl⟩) ?_)
          | (refine SeqS.take2 (v := .agg (cs1).toArray) (by first | assumption | trivial) (by kernel_rfl) (by decide +kernel) (by decide +kernel) (yields_blk (by rfl) 37 (.tmp 5) rfl rfl (fun w' h => XB.out w' h) (row1)) ?_)
          | (refine SeqS.take2 (v := ?_) (by first | assumption | trivial) (by kernel_rfl) (by decide +kernel) (by decide +kernel) (Or.inl ⟨by rfl, ?_⟩) ?_
             rotate_left
             focus
               intro w' hb'
               go_simp
               with_reducible rfl)
          | (refine SeqS.take2 (v := undef) (by first | assumption | trivial) (by kernel_rfl) (by decide +kernel) (by decide +kernel) (Or.inr ⟨by rfl, rfl⟩) ?_)); simp only [Act.put, List.setIfInBounds_toArray, List.set_cons_zero, List.set_cons_succ])
        refine SeqS.alone (by decide +kernel) (by rfl) (fun K hK => ?_)
        go_simp
        go_at_call 25
        refine (CD.out _ S7).mono ?_
        rintro e w8 ⟨rfl, b8⟩
        go_simp
        have S8 : Below w9.heap.size w9 w8 := S7.trans (b8.mono S7.size)
        refine hK _ _ S8 ?_
        clear hK K
        repeat ((first
          | (refine SeqS.take (v := .agg (cs1).toArray) (by first | assumption | trivial) (by kernel_rfl) (by decide +kernel) (by decide +kernel) (yields_blk (by rfl) 37 (.tmp 5) rfl rfl (fun w' h => XB.out w' h) (row1)) ?_)
          | (refine SeqS.take (v := ?_) (by first | assumption | trivial) (by kernel_rfl) (by decide +kernel) (by decide +kernel) (Or.inl ⟨by rfl, ?_⟩) ?_
             rotate_left
             focus
               intro w' hb'
               go_simp
               with_reducible rfl)
          | (refine SeqS.take (v := undef) (by first | assumption | trivial) (by kernel_rfl) (by decide +kernel) (by decide +kernel) (Or.inr ⟨by rfl, rfl⟩) ?_)
          | (refine SeqS.take1 (v := .agg (cs1).toArray) (by first | assumption | trivial) (by kernel_rfl) (by decide +kernel) (by decide +kernel) (yields_blk (by rfl) 37 (.tmp 5) rfl rfl (fun w' h => XB.out w' h) (row1)) ?_)
          | (refine SeqS.take1 (v := ?_) (by first | assumption | trivial) (by kernel_rfl) (by decide +kernel) (by decide +kernel) (Or.inl ⟨by rfl, ?_⟩) ?_
             rotate_left
             focus
               intro w' hb'
               go_simp
               with_reducible rfl)
          | (refine SeqS.take1 (v := undef) (by first | assumption | trivial) (by kernel_rfl) (by decide +kernel) (by decide +kernel) (Or.inr ⟨by rfl, rfl⟩) ?_)
          | (refine SeqS.take2 (v := .agg (cs1).toArray) (by first | assumption | trivial) (by kernel_rfl) (by decide +kernel) (by decide +kernel) (yields_blk (by rfl) 37 (.tmp 5) rfl rfl (fun w' h => XB.out w' h) (row1)) ?_)
          | (refine SeqS.take2 (v := ?_) (by first | assumption | trivial) (by kernel_rfl) (by decide +kernel) (by decide +kernel) (Or.inl ⟨by rfl, ?_⟩) ?_
             rotate_left
             focus
               intro w' hb'
               go_simp
               with_reducible rfl)
          | (refine SeqS.take2 (v := undef) (by first | assumption | trivial) (by kernel_rfl) (by decide +kernel) (by decide +kernel) (Or.inr ⟨by rfl, rfl⟩) ?_)); simp only [Act.put, List.setIfInBounds_toArray, List.set_cons_zero, List.set_cons_succ])
        refine SeqS.done (by decide +kernel) ?_
        obtain ⟨hz1, hz2, hz3⟩ := fin9.out _ S8
        clear b1 b2 b3 b4 b5 b6 b7 b8 S0 S1 S2 S3 S4 S5 S6 S7 CL CB CQ CN CZ CD XB CS hee
        go_wp2_with fail
        exact ⟨⟨j + 1, ro1, cs1, D1, hltH.out, by congr 1, rfl, OK1.out.2.2, OK1.out.1, OK1.out.2.1, hz2, hz1, hz3⟩, by simp only [intOf]; have := hltH.out; omega⟩
      by_cases k4 : kk = 4
      · subst k4
        obtain ⟨DC, hDC⟩ : ∃ DC, crD D [N] = DC := ⟨_, rfl⟩
        have okC := crD_ok OH.out [N]
        have byC := crD_by YH.out [N]
        rw [hDC] at okC byC
        have dnC : DC.down = false := by rw [← hDC]; rfl
        have fuC : DC.fuse = 0 := by rw [← hDC]; rfl
        have zC := mdD_none fuC dnC (z := 0) (by decide)
        obtain ⟨D1, e0, he⟩ : ∃ D1 e1, mdD DC 0 = (D1, e1) := ⟨_, _, rfl⟩
        rw [he] at zC
        dsimp only at zC
        subst zC
        have ok1 := mdD_ok okC 0
        have by1 := mdD_by byC 0
        rw [he] at ok1 by1
        obtain ⟨e1, he1⟩ : ∃ e : Int, e = 0 := ⟨_, rfl⟩
        have ok1H := Lib.hid ok1
        have by1H := Lib.hid by1
        have heH := Lib.hid he
        have okCH := Lib.hid okC
        have byCH := Lib.hid byC
        have dnCH := Lib.hid dnC
        have hDCH := Lib.hid hDC
        have q5 := below1 w5 (.cells #[.int .i64 N] 3)
        have I5 := row_ints w5 3 .i64 [N]
        have h5n : Two (fun b => (gE G ro b ∨ b = M) ∨ b = w5.heap.size) W.heap.size W _ g cs D D := h5.keepE q5 (fun b hb => hb.imp id (fun hb => by rw [hb, size1]; exact ⟨Nat.le_refl _, Nat.lt_succ_self _⟩))
        have cP := t_crash h5n OH.out (Nat.lt_of_lt_of_le HjT.out.2.1 (by decide)) I5 (fun x hx _ => by injection hx with hx; rw [← hx]; exact .inr rfl)
        rw [hDC] at cP
        have b5n := Lib.hid (b5.keep q5 b5.lt)
        have r5n := Lib.hid (r5.keep q5)
        have x5n := Lib.hid (hk5.keep q5 hk5.lt)
        clear ok1 by1 he okC byC dnC fuC hDC he1 h5 b5 r5 hk5 q5 I5 h5n
        go_wp2_with fail
        refine cP.mono ?_
        rintro q w6 ⟨rfl, h6, s6⟩
        have b6 : Blk w6 G 37 cs := s6.blk b5n.out (.inl (.inl (.inl rfl)))
        have x6 := s6.blk x5n.out (.inl (.inr rfl))
        have c1 := (x6.cell 1).trans z1
        have q6 := below1 w6 (.cells #[.int .i64 N] 3)
        have I6 := row_ints w6 3 .i64 [N]
        have cQ := r_crash (h6.keep q6) OH.out (Nat.le_trans (Nat.le_succ j) HjT.out.2.2) I6
        rw [hDCH.out] at cQ
        have b6n := Lib.hid (b6.keep q6 b6.lt)
        clear cP h6 s6 b5n r5n x5n x6 c0 c2 q6 I6
        go_wp2_with ((with_reducible refine wpList_load_blk rfl 37 (.tmp 5) rfl ?_ b6 rowDd hl ?_); rfl)
        refine cQ.mono ?_
        rintro q w7 ⟨cs7, rfl, h7, q7⟩
        have b7 := b6n.out.keep q7 b6n.out.lt
        have l7 := h7.ddc.l
        have o7 := h7.ddc.o
        clear cQ q7 b6 b6n
        go_wp2_with ((with_reducible refine store_row rfl 37 (.tmp 5) _ rfl ?_ ?_ b7 rowDd l7 hl o7 ?_); rfl; rfl; intro w8 b8 g8; refine RowKit.Hid.out ?_)
        refine Lib.hid ?_
        have h8 : Two (fun b => b = G) W.heap.size W w8 g cs7 DC DC := (h7.grown g8 (.inl (.inl (.inl rfl))) BGH.out).less (fun b hb => .inl (.inl (.inl hb)))
        have cO := t_open (z := 0) h8 okCH.out HjT.out.2.1 byCH.out (by decide) HGW.out (Nat.le_refl _) dnCH.out heH.out
        have b8lt := b8.lt
        clear h7 b7 g8 h8
        go_wp2_with fail
        refine cO.mono ?_
        rintro q w10 ⟨ro1, rfl, r10, l10, h10, s10⟩
        have b10 : Blk w10 G 37 cs7 := s10.blk b8 rfl
        have hne1 : ro1 ≠ G := fun e => by omega
        have cQ := q_open h10 okCH.out HjT.out.1 byCH.out dnCH.out heH.out
        clear cO s10 b8 b8lt l10
        go_wp2_with ((with_reducible refine wpList_load_blk rfl 37 (.tmp 5) rfl ?_ b10 rowDd l7 ?_); rfl)
        refine cQ.mono ?_
        rintro q w11 ⟨cs1, rfl, h11, q11⟩
        have b11 := b10.keep q11 b10.lt
        have r11 := r10.keep q11
        have l11 := h11.ddc.l
        have o11 := h11.ddc.o
        clear cQ q11 h10 b10 r10
        go_wp2_with ((with_reducible refine store_row rfl 37 (.tmp 5) _ rfl ?_ ?_ b11 rowDd l11 l7 o11 ?_); rfl; rfl; intro w9 b9 g9; refine RowKit.Hid.out ?_)
        refine Lib.hid ?_
        obtain ⟨h9, r9⟩ := gE_store h11 (fun _ h => h) r11 hne1 g9 BGH.out
        have ok1 := ok1H.out
        have by1 := by1H.out
        clear h11 b11 r11 g9 l11 o11 l7 o7 c1 hl z0 z1 z2 OH YH ok1H by1H heH okCH byCH dnCH hDCH k0 k1 k2 k3
        have hee : (e1 != e1) = false := bne_self_eq_false e1
        obtain ⟨ps, hps⟩ : ∃ ps, allF (heldR D1 0) = ps := ⟨_, rfl⟩
        obtain ⟨nn, hnn⟩ : ∃ n, numF (heldR D1 0) = n := ⟨_, rfl⟩
        obtain ⟨NN, hNN⟩ : ∃ n, (heldR D1 0).length = n := ⟨_, rfl⟩
        have hpl := Lib.hid (show ps.length = nn by rw [← hps, ← hnn]; exact allF_len _)
        have hpr := Lib.hid (show ∀ p ∈ ps, ∀ y ∈ p, 0 ≤ y ∧ y < 256 by rw [← hps]; exact allF_range (by1.f 0).held)
        have hpb := Lib.hid (show nn ≤ 1000000000 by rw [← hnn]; exact few20 ok1)
        have l1 := h9.ddc.l
        have row1 : IsRow Tryz.prog 37 cs1.length := by rw [l1]; exact rowDd
        have S0 : Below w9.heap.size w9 w9.drew := (Below.refl _ _).drew
        have CL := Lib.hid (fun w' (q : Below w9.heap.size w9 w') => like20_any (h9.keep q) ok1 HjT.out.2.2)
        have CB := Lib.hid (fun w' (q : Below w9.heap.size w9 w') => t_bodies (z := 0) (h9.keep q) (r9.keep q) ok1 by1 (by decide) HGW.out (Nat.le_refl _) hps)
        have CQ := Lib.hid (fun w' (q : Below w9.heap.size w9 w') => q_bodies (h9.keep q) ok1 HjT.out.2.2 by1 hps)
        have CN := Lib.hid (fun w' (q : Below w9.heap.size w9 w') => t_len (z := 0) (h9.keep q) (r9.keep q) ok1 by1 (by decide) HGW.out (Nat.le_refl _) hnn)
        have CZ := Lib.hid (fun w' (q : Below w9.heap.size w9 w') => t_size (z := 0) (h9.keep q) (r9.keep q) ok1 (by decide) hNN)
        have CD := Lib.hid (fun w' (q : Below w9.heap.size w9 w') => t_dsize (z := 0) (h9.keep q) ok1 (by decide) hNN)
        have XB := Lib.hid (fun w' (q : Below w9.heap.size w9 w') => b9.keep q b9.lt)
        have fin9 := Lib.hid (fun w' (q : Below w9.heap.size w9 w') => (⟨h9.keep q, r9.keep q, b9.keep q b9.lt⟩ : Two (gE G ro1) W.heap.size W w' g cs1 D1 D1 ∧ RollAt w' ro1 g 0 ∧ Blk w' G 37 cs1))
        have OK1 := Lib.hid (show D1.Ok (j + 1) ∧ D1.By ∧ ro1 ≠ G from ⟨ok1, by1, hne1⟩)
        clear hps hnn hNN l1 h9 r9 b9 ok1 by1 hne1
        go_wp2_with fail
        refine region_seqS (fun w' => Below w9.heap.size w9 w') (by kernel_rfl) S0 ?_
        simp only [pairs, Nat.reduceAdd]
        repeat ((first
          | (refine SeqS.take (v := .agg (cs1).toArray) (by first | assumption | trivial) (by kernel_rfl) (by decide +kernel) (by decide +kernel) (yields_blk (by rfl) 37 (.tmp 5) rfl rfl (fun w' h => XB.out w' h) (row1)) ?_)
          | (refine SeqS.take (v := ?_) (by first | assumption | trivial) (by kernel_rfl) (by decide +kernel) (by decide +kernel) (Or.inl ⟨by rfl, ?_⟩) ?_
             rotate_left
             focus
               intro w' hb'
               go_simp
               with_reducible rfl)
          | (refine SeqS.take (v := undef) (by first | assumption | trivial) (by kernel_rfl) (by decide +kernel) (by decide +kernel) (Or.inr ⟨by rfl, rfl⟩) ?_)
          | (refine SeqS.take1 (v := .agg (cs1).toArray) (by first | assumption | trivial) (by kernel_rfl) (by decide +kernel) (by decide +kernel) (yields_blk (by rfl) 37 (.tmp 5) rfl rfl (fun w' h => XB.out w' h) (row1)) ?_)
          | (refine SeqS.take1 (v := ?_) (by first | assumption | trivial) (by kernel_rfl) (by decide +kernel) (by decide +kernel) (Or.inl ⟨by rfl, ?_⟩) ?_
             rotate_left
             focus
               intro w' hb'
               go_simp
               with_reducible rfl)
          | (refine SeqS.take1 (v := undef) (by first | assumption | trivial) (by kernel_rfl) (by decide +kernel) (by decide +kernel) (Or.inr ⟨by rfl, rfl⟩) ?_)
          | (refine SeqS.take2 (v := .agg (cs1).toArray) (by first | assumption | trivial) (by kernel_rfl) (by decide +kernel) (by decide +kernel) (yields_blk (by rfl) 37 (.tmp 5) rfl rfl (fun w' h => XB.out w' h) (row1)) ?_)
          | (refine SeqS.take2 (v := ?_) (by first | assumption | trivial) (by kernel_rfl) (by decide +kernel) (by decide +kernel) (Or.inl ⟨by rfl, ?_⟩) ?_
             rotate_left
             focus
               intro w' hb'
               go_simp
               with_reducible rfl)
          | (refine SeqS.take2 (v := undef) (by first | assumption | trivial) (by kernel_rfl) (by decide +kernel) (by decide +kernel) (Or.inr ⟨by rfl, rfl⟩) ?_)); simp only [Act.put, List.setIfInBounds_toArray, List.set_cons_zero, List.set_cons_succ])
        refine SeqS.alone (by decide +kernel) (by rfl) (fun K hK => ?_)
        go_simp
        go_at_call 19
        refine (CL.out _ S0).mono ?_
        rintro e w1 ⟨rfl, b1⟩
        go_simp
        have S1 : Below w9.heap.size w9 w1 := S0.trans (b1.mono S0.size)
        refine hK _ _ S1 ?_
        clear hK K
        repeat ((first
          | (refine SeqS.take (v := .agg (cs1).toArray) (by first | assumption | trivial) (by kernel_rfl) (by decide +kernel) (by decide +kernel) (yields_blk (by rfl) 37 (.tmp 5) rfl rfl (fun w' h => XB.out w' h) (row1)) ?_)
          | (refine SeqS.take (v := ?_) (by first | assumption | trivial) (by kernel_rfl) (by decide +kernel) (by decide +kernel) (Or.inl ⟨by rfl, ?_⟩) ?_
             rotate_left
             focus
               intro w' hb'
               go_simp
               with_reducible rfl)
          | (refine SeqS.take (v := undef) (by first | assumption | trivial) (by kernel_rfl) (by decide +kernel) (by decide +kernel) (Or.inr ⟨by rfl, rfl⟩) ?_)
          | (refine SeqS.take1 (v := .agg (cs1).toArray) (by first | assumption | trivial) (by kernel_rfl) (by decide +kernel) (by decide +kernel) (yields_blk (by rfl) 37 (.tmp 5) rfl rfl (fun w' h => XB.out w' h) (row1)) ?_)
          | (refine SeqS.take1 (v := ?_) (by first | assumption | trivial) (by kernel_rfl) (by decide +kernel) (by decide +kernel) (Or.inl ⟨by rfl, ?_⟩) ?_
             rotate_left
             focus
               intro w' hb'
               go_simp
               with_reducible rfl)
          | (refine SeqS.take1 (v := undef) (by first | assumption | trivial) (by kernel_rfl) (by decide +kernel) (by decide +kernel) (Or.inr ⟨by rfl, rfl⟩) ?_)
          | (refine SeqS.take2 (v := .agg (cs1).toArray) (by first | assumption | trivial) (by kernel_rfl) (by decide +kernel) (by decide +kernel) (yields_blk (by rfl) 37 (.tmp 5) rfl rfl (fun w' h => XB.out w' h) (row1)) ?_)
          | (refine SeqS.take2 (v := ?_) (by first | assumption | trivial) (by kernel_rfl) (by decide +kernel) (by decide +kernel) (Or.inl ⟨by rfl, ?_⟩) ?_
             rotate_left
             focus
               intro w' hb'
               go_simp
               with_reducible rfl)
          | (refine SeqS.take2 (v := undef) (by first | assumption | trivial) (by kernel_rfl) (by decide +kernel) (by decide +kernel) (Or.inr ⟨by rfl, rfl⟩) ?_)); simp only [Act.put, List.setIfInBounds_toArray, List.set_cons_zero, List.set_cons_succ])
        refine SeqS.alone (by decide +kernel) (by rfl) (fun K hK => ?_)
        go_simp
        go_at_call 21
        refine (CB.out _ S1).mono ?_
        rintro e w2 ⟨v2, rfl, R2, b2⟩
        go_simp
        have S2 : Below w9.heap.size w9 w2 := S1.trans (b2.mono S1.size)
        refine hK _ _ S2 ?_
        clear hK K
        repeat ((first
          | (refine SeqS.take (v := .agg (cs1).toArray) (by first | assumption | trivial) (by kernel_rfl) (by decide +kernel) (by decide +kernel) (yields_blk (by rfl) 37 (.tmp 5) rfl rfl (fun w' h => XB.out w' h) (row1)) ?_)
          | (refine SeqS.take (v := ?_) (by first | assumption | trivial) (by kernel_rfl) (by decide +kernel) (by decide +kernel) (Or.inl ⟨by rfl, ?_⟩) ?_
             rotate_left
             focus
               intro w' hb'
               go_simp
               with_reducible rfl)
          | (refine SeqS.take (v := undef) (by first | assumption | trivial) (by kernel_rfl) (by decide +kernel) (by decide +kernel) (Or.inr ⟨by rfl, rfl⟩) ?_)
          | (refine SeqS.take1 (v := .agg (cs1).toArray) (by first | assumption | trivial) (by kernel_rfl) (by decide +kernel) (by decide +kernel) (yields_blk (by rfl) 37 (.tmp 5) rfl rfl (fun w' h => XB.out w' h) (row1)) ?_)
          | (refine SeqS.take1 (v := ?_) (by first | assumption | trivial) (by kernel_rfl) (by decide +kernel) (by decide +kernel) (Or.inl ⟨by rfl, ?_⟩) ?_
             rotate_left
             focus
               intro w' hb'
               go_simp
               with_reducible rfl)
          | (refine SeqS.take1 (v := undef) (by first | assumption | trivial) (by kernel_rfl) (by decide +kernel) (by decide +kernel) (Or.inr ⟨by rfl, rfl⟩) ?_)
          | (refine SeqS.take2 (v := .agg (cs1).toArray) (by first | assumption | trivial) (by kernel_rfl) (by decide +kernel) (by decide +kernel) (yields_blk (by rfl) 37 (.tmp 5) rfl rfl (fun w' h => XB.out w' h) (row1)) ?_)
          | (refine SeqS.take2 (v := ?_) (by first | assumption | trivial) (by kernel_rfl) (by decide +kernel) (by decide +kernel) (Or.inl ⟨by rfl, ?_⟩) ?_
             rotate_left
             focus
               intro w' hb'
               go_simp
               with_reducible rfl)
          | (refine SeqS.take2 (v := undef) (by first | assumption | trivial) (by kernel_rfl) (by decide +kernel) (by decide +kernel) (Or.inr ⟨by rfl, rfl⟩) ?_)); simp only [Act.put, List.setIfInBounds_toArray, List.set_cons_zero, List.set_cons_succ])
        refine SeqS.alone (by decide +kernel) (by rfl) (fun K hK => ?_)
        go_simp
        go_at_call 22
        refine (CQ.out _ S2).mono ?_
        rintro e w3 ⟨v3, rfl, R3, b3⟩
        go_simp
        have S3 : Below w9.heap.size w9 w3 := S2.trans (b3.mono S2.size)
        refine hK _ _ S3 ?_
        clear hK K
        obtain ⟨a2, c2, e2, P2⟩ := (R2.keep b3).parts
        obtain ⟨a3, c3, e3, P3⟩ := R3.parts
        rw [hpl.out] at e2 e3 P2 P3
        subst e2; subst e3
        have CS := Lib.hid (r19Same_any a2 a3 nn c2 c3 ps w3 P2 P3 hpr.out hpb.out)
        clear R2 R3 P2 P3
        repeat ((first
          | (refine SeqS.take (v := .agg (cs1).toArray) (by first | assumption | trivial) (by kernel_rfl) (by decide +kernel) (by decide +kernel) (yields_blk (by rfl) 37 (.tmp 5) rfl rfl (fun w' h => XB.out w' h) (row1)) ?_)
          | (refine SeqS.take (v := ?_) (by first | assumption | trivial) (by kernel_rfl) (by decide +kernel) (by decide +kernel) (Or.inl ⟨by rfl, ?_⟩) ?_
             rotate_left
             focus
               intro w' hb'
               go_simp
               with_reducible rfl)
          | (refine SeqS.take (v := undef) (by first | assumption | trivial) (by kernel_rfl) (by decide +kernel) (by decide +kernel) (Or.inr ⟨by rfl, rfl⟩) ?_)
          | (refine SeqS.take1 (v := .agg (cs1).toArray) (by first | assumption | trivial) (by kernel_rfl) (by decide +kernel) (by decide +kernel) (yields_blk (by rfl) 37 (.tmp 5) rfl rfl (fun w' h => XB.out w' h) (row1)) ?_)
          | (refine SeqS.take1 (v := ?_) (by first | assumption | trivial) (by kernel_rfl) (by decide +kernel) (by decide +kernel) (Or.inl ⟨by rfl, ?_⟩) ?_
             rotate_left
             focus
               intro w' hb'
               go_simp
               with_reducible rfl)
          | (refine SeqS.take1 (v := undef) (by first | assumption | trivial) (by kernel_rfl) (by decide +kernel) (by decide +kernel) (Or.inr ⟨by rfl, rfl⟩) ?_)
          | (refine SeqS.take2 (v := .agg (cs1).toArray) (by first | assumption | trivial) (by kernel_rfl) (by decide +kernel) (by decide +kernel) (yields_blk (by rfl) 37 (.tmp 5) rfl rfl (fun w' h => XB.out w' h) (row1)) ?_)
          | (refine SeqS.take2 (v := ?_) (by first | assumption | trivial) (by kernel_rfl) (by decide +kernel) (by decide +kernel) (Or.inl ⟨by rfl, ?_⟩) ?_
             rotate_left
             focus
               intro w' hb'
               go_simp
               with_reducible rfl)
          | (refine SeqS.take2 (v := undef) (by first | assumption | trivial) (by kernel_rfl) (by decide +kernel) (by decide +kernel) (Or.inr ⟨by rfl, rfl⟩) ?_)); simp only [Act.put, List.setIfInBounds_toArray, List.set_cons_zero, List.set_cons_succ])
        refine SeqS.alone (by decide +kernel) (by rfl) (fun K hK => ?_)
        go_simp
        go_at_call 20
        refine (CS.out).mono ?_
        rintro e w4 ⟨rfl, b4⟩
        go_simp
        have S4 : Below w9.heap.size w9 w4 := S3.trans (b4.mono S3.size)
        refine hK _ _ S4 ?_
        clear hK K
        repeat ((first
          | (refine SeqS.take (v := .agg (cs1).toArray) (by first | assumption | trivial) (by kernel_rfl) (by decide +kernel) (by decide +kernel) (yields_blk (by rfl) 37 (.tmp 5) rfl rfl (fun w' h => XB.out w' h) (row1)) ?_)
          | (refine SeqS.take (v := ?_) (by first | assumption | trivial) (by kernel_rfl) (by decide +kernel) (by decide +kernel) (Or.inl ⟨by rfl, ?_⟩) ?_
             rotate_left
             focus
               intro w' hb'
               go_simp
               with_reducible rfl)
          | (refine SeqS.take (v := undef) (by first | assumption | trivial) (by kernel_rfl) (by decide +kernel) (by decide +kernel) (Or.inr ⟨by rfl, rfl⟩) ?_)
          | (refine SeqS.take1 (v := .agg (cs1).toArray) (by first | assumption | trivial) (by kernel_rfl) (by decide +kernel) (by decide +kernel) (yields_blk (by rfl) 37 (.tmp 5) rfl rfl (fun w' h => XB.out w' h) (row1)) ?_)
          | (refine SeqS.take1 (v := ?_) (by first | assumption | trivial) (by kernel_rfl) (by decide +kernel) (by decide +kernel) (Or.inl ⟨by rfl, ?_⟩) ?_
             rotate_left
             focus
               intro w' hb'
               go_simp
               with_reducible rfl)
          | (refine SeqS.take1 (v := undef) (by first | assumption | trivial) (by kernel_rfl) (by decide +kernel) (by decide +kernel) (Or.inr ⟨by rfl, rfl⟩) ?_)
          | (refine SeqS.take2 (v := .agg (cs1).toArray) (by first | assumption | trivial) (by kernel_rfl) (by decide +kernel) (by decide +kernel) (yields_blk (by rfl) 37 (.tmp 5) rfl rfl (fun w' h => XB.out w' h) (row1)) ?_)
          | (refine SeqS.take2 (v := ?_) (by first | assumption | trivial) (by kernel_rfl) (by decide +kernel) (by decide +kernel) (Or.inl ⟨by rfl, ?_⟩) ?_
             rotate_left
             focus
               intro w' hb'
               go_simp
               with_reducible rfl)
          | (refine SeqS.take2 (v := undef) (by first | assumption | trivial) (by kernel_rfl) (by decide +kernel) (by decide +kernel) (Or.inr ⟨by rfl, rfl⟩) ?_)); simp only [Act.put, List.setIfInBounds_toArray, List.set_cons_zero, List.set_cons_succ])
        refine SeqS.alone (by decide +kernel) (by rfl) (fun K hK => ?_)
        go_simp
        go_at_call 23
        refine (CN.out _ S4).mono ?_
        rintro e w5 ⟨rfl, b5⟩
        go_simp
        have S5 : Below w9.heap.size w9 w5 := S4.trans (b5.mono S4.size)
        refine hK _ _ S5 ?_
        clear hK K
        repeat ((first
          | (refine SeqS.take (v := .agg (cs1).toArray) (by first | assumption | trivial) (by kernel_rfl) (by decide +kernel) (by decide +kernel) (yields_blk (by rfl) 37 (.tmp 5) rfl rfl (fun w' h => XB.out w' h) (row1)) ?_)
          | (refine SeqS.take (v := ?_) (by first | assumption | trivial) (by kernel_rfl) (by decide +kernel) (by decide +kernel) (Or.inl ⟨by rfl, ?_⟩) ?_
             rotate_left
             focus
               intro w' hb'
               go_simp
               with_reducible rfl)
          | (refine SeqS.take (v := undef) (by first | assumption | trivial) (by kernel_rfl) (by decide +kernel) (by decide +kernel) (Or.inr ⟨by rfl, rfl⟩) ?_)
          | (refine SeqS.take1 (v := .agg (cs1).toArray) (by first | assumption | trivial) (by kernel_rfl) (by decide +kernel) (by decide +kernel) (yields_blk (by rfl) 37 (.tmp 5) rfl rfl (fun w' h => XB.out w' h) (row1)) ?_)
          | (refine SeqS.take1 (v := ?_) (by first | assumption | trivial) (by kernel_rfl) (by decide +kernel) (by decide +kernel) (Or.inl ⟨by rfl, ?_⟩) ?_
             rotate_left
             focus
               intro w' hb'
               go_simp
               with_reducible rfl)
          | (refine SeqS.take1 (v := undef) (by first | assumption | trivial) (by kernel_rfl) (by decide +kernel) (by decide +kernel) (Or.inr ⟨by rfl, rfl⟩) ?_)
          | (refine SeqS.take2 (v := .agg (cs1).toArray) (by first | assumption | trivial) (by kernel_rfl) (by decide +kernel) (by decide +kernel) (yields_blk (by rfl) 37 (.tmp 5) rfl rfl (fun w' h => XB.out w' h) (row1)) ?_)
          | (refine SeqS.take2 (v := ?_) (by first | assumption | trivial) (by kernel_rfl) (by decide +kernel) (by decide +kernel) (Or.inl ⟨by rfl, ?_⟩) ?_
             rotate_left
             focus
               intro w' hb'
               go_simp
               with_reducible rfl)
          | (refine SeqS.take2 (v := undef) (by first | assumption | trivial) (by kernel_rfl) (by decide +kernel) (by decide +kernel) (Or.inr ⟨by rfl, rfl⟩) ?_)); simp only [Act.put, List.setIfInBounds_toArray, List.set_cons_zero, List.set_cons_succ])
        refine SeqS.alone (by decide +kernel) (by rfl) (fun K hK => ?_)
        go_simp
        go_at_call 22
        refine (CQ.out _ S5).mono ?_
        rintro e w6 ⟨v6, rfl, R6, b6⟩
        go_simp
        have S6 : Below w9.heap.size w9 w6 := S5.trans (b6.mono S5.size)
        refine hK _ _ S6 ?_
        clear hK K
        obtain ⟨a6, c6, e6, P6⟩ := R6.parts
        rw [hpl.out] at e6
        subst e6
        clear R6 P6
        repeat ((first
          | (refine SeqS.take (v := .agg (cs1).toArray) (by first | assumption | trivial) (by kernel_rfl) (by decide +kernel) (by decide +kernel) (yields_blk (by rfl) 37 (.tmp 5) rfl rfl (fun w' h => XB.out w' h) (row1)) ?_)
          | (refine SeqS.take (v := ?_) (by first | assumption | trivial) (by kernel_rfl) (by decide +kernel) (by decide +kernel) (Or.inl ⟨by rfl, ?_⟩) ?_
             rotate_left
             focus
               intro w' hb'
               go_simp
               with_reducible rfl)
          | (refine SeqS.take (v := undef) (by first | assumption | trivial) (by kernel_rfl) (by decide +kernel) (by decide +kernel) (Or.inr ⟨by rfl, rfl⟩) ?_)
          | (refine SeqS.take1 (v := .agg (cs1).toArray) (by first | assumption | trivial) (by kernel_rfl) (by decide +kernel) (by decide +kernel) (yields_blk (by rfl) 37 (.tmp 5) rfl rfl (fun w' h => XB.out w' h) (row1)) ?_)
          | (refine SeqS.take1 (v := ?_) (by first | assumption | trivial) (by kernel_rfl) (by decide +kernel) (by decide +kernel) (Or.inl ⟨by rfl, ?_⟩) ?_
             rotate_left
             focus
               intro w' hb'
               go_simp
               with_reducible rfl)
          | (refine SeqS.take1 (v := undef) (by first | assumption | trivial) (by kernel_rfl) (by decide +kernel) (by decide +kernel) (Or.inr ⟨by rfl, rfl⟩) ?_)
          | (refine SeqS.take2 (v := .agg (cs1).toArray) (by first | assumption | trivial) (by kernel_rfl) (by decide +kernel) (by decide +kernel) (yields_blk (by rfl) 37 (.tmp 5) rfl rfl (fun w' h => XB.out w' h) (row1)) ?_)
          | (refine SeqS.take2 (v := ?_) (by first | assumption | trivial) (by kernel_rfl) (by decide +kernel) (by decide +kernel) (Or.inl ⟨by rfl, ?_⟩) ?_
             rotate_left
             focus
               intro w' hb'
               go_simp
               with_reducible rfl)
          | (refine SeqS.take2 (v := undef) (by first | assumption | trivial) (by kernel_rfl) (by decide +kernel) (by decide +kernel) (Or.inr ⟨by rfl, rfl⟩) ?_)); simp only [Act.put, List.setIfInBounds_toArray, List.set_cons_zero, List.set_cons_succ])
        refine SeqS.alone (by decide +kernel) (by rfl) (fun K hK => ?_)
        go_simp
        go_at_call 24
        refine (CZ.out _ S6).mono ?_
        rintro e w7 ⟨rfl, b7⟩
        go_simp
        have S7 : Below w9.heap.size w9 w7 := S6.trans (b7.mono S6.size)
        refine hK _ _ S7 ?_
        clear hK K
        repeat ((first
          | (refine SeqS.take (v := .agg (cs1).toArray) (by first | assumption | trivial) (by kernel_rfl) (by decide +kernel) (by decide +kernel) (yields_blk (by rfl) 37 (.tmp 5) rfl rfl (fun w' h => XB.out w' h) (row1)) ?_)
          | (refine SeqS.take (v := ?_) (by first | assumption | trivial) (by kernel_rfl) (by decide +kernel) (by decide +kernel) (Or.inl ⟨by rfl, ?_⟩) ?_
             rotate_left
             focus
               intro w' hb'
               go_simp
               with_reducible rfl)
          | (refine SeqS.take (v := undef) (by first | assumption | trivial) (by kernel_rfl) (by decide +kernel) (by decide +kernel) (Or.inr ⟨by rfl, rfl⟩) ?_)
          | (refine SeqS.take1 (v := .agg (cs1).toArray) (by first | assumption | trivial) (by kernel_rfl) (by decide +kernel) (by decide +kernel) (yields_blk (by rfl) 37 (.tmp 5) rfl rfl (fun w' h => XB.out w' h) (row1)) ?_)
          | (refine SeqS.take1 (v := ?_) (by first | assumption | trivial) (by kernel_rfl) (by decide +kernel) (by decide +kernel) (Or.inl ⟨by rfl, ?_⟩) ?_
             rotate_left
             focus
               intro w' hb'
               go_simp
               with_reducible rfl)
          | (refine SeqS.take1 (v := undef) (by first | assumption | trivial) (by kernel_rfl) (by decide +kernel) (by decide +kernel) (Or.inr ⟨by rfl, rfl⟩) ?_)
          | (refine SeqS.take2 (v := .agg (cs1).toArray) (by first | assumption | trivial) (by kernel_rfl) (by decide +kernel) (by decide +kernel) (yields_blk (by rfl) 37 (.tmp 5) rfl rfl (fun w' h => XB.out w' h) (row1)) ?_)
          | (refine SeqS.take2 (v := ?_) (by first | assumption | trivial) (by kernel_rfl) (by decide +kernel) (by decide +kernel) (Or.inl ⟨by rfl, ?_⟩) ?_
             rotate_left
             focus
               intro w' hb'
               go_simp
               with_reducible rfl)
          | (refine SeqS.take2 (v := undef) (by first | assumption | trivial) (by kernel_rfl) (by decide +kernel) (by decide +kernel) (Or.inr ⟨by rfl, rfl⟩) ?_)); simp only [Act.put, List.setIfInBounds_toArray, List.set_cons_zero, List.set_cons_succ])
        refine SeqS.alone (by decide +kernel) (by rfl) (fun K hK => ?_)
        go_simp
        go_at_call 25
        refine (CD.out _ S7).mono ?_
        rintro e w8 ⟨rfl, b8⟩
        go_simp
        have S8 : Below w9.heap.size w9 w8 := S7.trans (b8.mono S7.size)
        refine hK _ _ S8 ?_
        clear hK K
        repeat ((first
          | (refine SeqS.take (v := .agg (cs1).toArray) (by first | assumption | trivial) (by kernel_rfl) (by decide +kernel) (by decide +kernel) (yields_blk (by rfl) 37 (.tmp 5) rfl rfl (fun w' h => XB.out w' h) (row1)) ?_)
          | (refine SeqS.take (v := ?_) (by first | assumption | trivial) (by kernel_rfl) (by decide +kernel) (by decide +kernel) (Or.inl ⟨by rfl, ?_⟩) ?_
             rotate_left
             focus
               intro w' hb'
               go_simp
               with_reducible rfl)
          | (refine SeqS.take (v := undef) (by first | assumption | trivial) (by kernel_rfl) (by decide +kernel) (by decide +kernel) (Or.inr ⟨by rfl, rfl⟩) ?_)
          | (refine SeqS.take1 (v := .agg (cs1).toArray) (by first | assumption | trivial) (by kernel_rfl) (by decide +kernel) (by decide +kernel) (yields_blk (by rfl) 37 (.tmp 5) rfl rfl (fun w' h => XB.out w' h) (row1)) ?_)
          | (refine SeqS.take1 (v := ?_) (by first | assumption | trivial) (by kernel_rfl) (by decide +kernel) (by decide +kernel) (Or.inl ⟨by rfl, ?_⟩) ?_
             rotate_left
             focus
               intro w' hb'
               go_simp
               with_reducible rfl)
          | (refine SeqS.take1 (v := undef) (by first | assumption | trivial) (by kernel_rfl) (by decide +kernel) (by decide +kernel) (Or.inr ⟨by rfl, rfl⟩) ?_)
          | (refine SeqS.take2 (v := .agg (cs1).toArray) (by first | assumption | trivial) (by kernel_rfl) (by decide +kernel) (by decide +kernel) (yields_blk (by rfl) 37 (.tmp 5) rfl rfl (fun w' h => XB.out w' h) (row1)) ?_)
          | (refine SeqS.take2 (v := ?_) (by first | assumption | trivial) (by kernel_rfl) (by decide +kernel) (by decide +kernel) (Or.inl ⟨by rfl, ?_⟩) ?_
             rotate_left
             focus
               intro w' hb'
               go_simp
               with_reducible rfl)
          | (refine SeqS.take2 (v := undef) (by first | assumption | trivial) (by kernel_rfl) (by decide +kernel) (by decide +kernel) (Or.inr ⟨by rfl, rfl⟩) ?_)); simp only [Act.put, List.setIfInBounds_toArray, List.set_cons_zero, List.set_cons_succ])
        refine SeqS.done (by decide +kernel) ?_
        obtain ⟨hz1, hz2, hz3⟩ := fin9.out _ S8
        clear b1 b2 b3 b4 b5 b6 b7 b8 S0 S1 S2 S3 S4 S5 S6 S7 CL CB CQ CN CZ CD XB CS hee
        go_wp2_with fail
        exact ⟨⟨j + 1, ro1, cs1, D1, hltH.out, by congr 1, rfl, OK1.out.2.2, OK1.out.1, OK1.out.2.1, hz2, hz1, hz3⟩, by simp only [intOf]; have := hltH.out; omega⟩
      · obtain ⟨e1, he1⟩ : ∃ e : Int, e = 0 := ⟨_, rfl⟩
        obtain ⟨ro1, rfl⟩ : ∃ r, r = ro := ⟨_, rfl⟩
        obtain ⟨cs1, rfl⟩ : ∃ c, c = cs := ⟨_, rfl⟩
        obtain ⟨D1, rfl⟩ : ∃ E, E = D := ⟨_, rfl⟩
        obtain ⟨w9, rfl⟩ : ∃ v, v = w5 := ⟨_, rfl⟩
        have h9 : Two (gE G ro1) W.heap.size W w9 g cs1 D1 D1 := h5.less (fun _ h => .inl h)
        have b9 := b5
        have r9 := r5
        have ok1 := OH.out.more (Nat.le_succ j)
        have by1 := YH.out
        have hne1 := hne
        clear h5 b5 r5 hk5 c1 c2 hl z0 z1 z2 OH YH he1
        have hee : (e1 != e1) = false := bne_self_eq_false e1
        obtain ⟨ps, hps⟩ : ∃ ps, allF (heldR D1 0) = ps := ⟨_, rfl⟩
        obtain ⟨nn, hnn⟩ : ∃ n, numF (heldR D1 0) = n := ⟨_, rfl⟩
        obtain ⟨NN, hNN⟩ : ∃ n, (heldR D1 0).length = n := ⟨_, rfl⟩
        have hpl := Lib.hid (show ps.length = nn by rw [← hps, ← hnn]; exact allF_len _)
        have hpr := Lib.hid (show ∀ p ∈ ps, ∀ y ∈ p, 0 ≤ y ∧ y < 256 by rw [← hps]; exact allF_range (by1.f 0).held)
        have hpb := Lib.hid (show nn ≤ 1000000000 by rw [← hnn]; exact few20 ok1)
        have l1 := h9.ddc.l
        have row1 : IsRow Tryz.prog 37 cs1.length := by rw [l1]; exact rowDd
        have S0 : Below w9.heap.size w9 w9.drew := (Below.refl _ _).drew
        have CL := Lib.hid (fun w' (q : Below w9.heap.size w9 w') => like20_any (h9.keep q) ok1 HjT.out.2.2)
        have CB := Lib.hid (fun w' (q : Below w9.heap.size w9 w') => t_bodies (z := 0) (h9.keep q) (r9.keep q) ok1 by1 (by decide) HGW.out (Nat.le_refl _) hps)
        have CQ := Lib.hid (fun w' (q : Below w9.heap.size w9 w') => q_bodies (h9.keep q) ok1 HjT.out.2.2 by1 hps)
        have CN := Lib.hid (fun w' (q : Below w9.heap.size w9 w') => t_len (z := 0) (h9.keep q) (r9.keep q) ok1 by1 (by decide) HGW.out (Nat.le_refl _) hnn)
        have CZ := Lib.hid (fun w' (q : Below w9.heap.size w9 w') => t_size (z := 0) (h9.keep q) (r9.keep q) ok1 (by decide) hNN)
        have CD := Lib.hid (fun w' (q : Below w9.heap.size w9 w') => t_dsize (z := 0) (h9.keep q) ok1 (by decide) hNN)
        have XB := Lib.hid (fun w' (q : Below w9.heap.size w9 w') => b9.keep q b9.lt)
        have fin9 := Lib.hid (fun w' (q : Below w9.heap.size w9 w') => (⟨h9.keep q, r9.keep q, b9.keep q b9.lt⟩ : Two (gE G ro1) W.heap.size W w' g cs1 D1 D1 ∧ RollAt w' ro1 g 0 ∧ Blk w' G 37 cs1))
        have OK1 := Lib.hid (show D1.Ok (j + 1) ∧ D1.By ∧ ro1 ≠ G from ⟨ok1, by1, hne1⟩)
        clear hps hnn hNN l1 h9 r9 b9 ok1 by1 hne1
        go_wp2_with fail
        refine region_seqS (fun w' => Below w9.heap.size w9 w') (by kernel_rfl) S0 ?_
        simp only [pairs, Nat.reduceAdd]
        repeat ((first
          | (refine SeqS.take (v := .agg (cs1).toArray) (by first | assumption | trivial) (by kernel_rfl) (by decide +kernel) (by decide +kernel) (yields_blk (by rfl) 37 (.tmp 5) rfl rfl (fun w' h => XB.out w' h) (row1)) ?_)
          | (refine SeqS.take (v := ?_) (by first | assumption | trivial) (by kernel_rfl) (by decide +kernel) (by decide +kernel) (Or.inl ⟨by rfl, ?_⟩) ?_
             rotate_left
             focus
               intro w' hb'
               go_simp
               with_reducible rfl)
          | (refine SeqS.take (v := undef) (by first | assumption | trivial) (by kernel_rfl) (by decide +kernel) (by decide +kernel) (Or.inr ⟨by rfl, rfl⟩) ?_)
          | (refine SeqS.take1 (v := .agg (cs1).toArray) (by first | assumption | trivial) (by kernel_rfl) (by decide +kernel) (by decide +kernel) (yields_blk (by rfl) 37 (.tmp 5) rfl rfl (fun w' h => XB.out w' h) (row1)) ?_)
          | (refine SeqS.take1 (v := ?_) (by first | assumption | trivial) (by kernel_rfl) (by decide +kernel) (by decide +kernel) (Or.inl ⟨by rfl, ?_⟩) ?_
             rotate_left
             focus
               intro w' hb'
               go_simp
               with_reducible rfl)
          | (refine SeqS.take1 (v := undef) (by first | assumption | trivial) (by kernel_rfl) (by decide +kernel) (by decide +kernel) (Or.inr ⟨by rfl, rfl⟩) ?_)
          | (refine SeqS.take2 (v := .agg (cs1).toArray) (by first | assumption | trivial) (by kernel_rfl) (by decide +kernel) (by decide +kernel) (yields_blk (by rfl) 37 (.tmp 5) rfl rfl (fun w' h => XB.out w' h) (row1)) ?_)
          | (refine SeqS.take2 (v := ?_) (by first | assumption | trivial) (by kernel_rfl) (by decide +kernel) (by decide +kernel) (Or.inl ⟨by rfl, ?_⟩) ?_
             rotate_left
             focus
               intro w' hb'
               go_simp
               with_reducible rfl)
          | (refine SeqS.take2 (v := undef) (by first | assumption | trivial) (by kernel_rfl) (by decide +kernel) (by decide +kernel) (Or.inr ⟨by rfl, rfl⟩) ?_)); simp only [Act.put, List.setIfInBounds_toArray, List.set_cons_zero, List.set_cons_succ])
        refine SeqS.alone (by decide +kernel) (by rfl) (fun K hK => ?_)
        go_simp
        go_at_call 19
        refine (CL.out _ S0).mono ?_
        rintro e w1 ⟨rfl, b1⟩
        go_simp
        have S1 : Below w9.heap.size w9 w1 := S0.trans (b1.mono S0.size)
        refine hK _ _ S1 ?_
        clear hK K
        repeat ((first
          | (refine SeqS.take (v := .agg (cs1).toArray) (by first | assumption | trivial) (by kernel_rfl) (by decide +kernel) (by decide +kernel) (yields_blk (by rfl) 37 (.tmp 5) rfl rfl (fun w' h => XB.out w' h) (row1)) ?_)
          | (refine SeqS.take (v := ?_) (by first | assumption | trivial) (by kernel_rfl) (by decide +kernel) (by decide +kernel) (Or.inl ⟨by rfl, ?_⟩) ?_
             rotate_left
             focus
               intro w' hb'
               go_simp
               with_reducible rfl)
          | (refine SeqS.take (v := undef) (by first | assumption | trivial) (by kernel_rfl) (by decide +kernel) (by decide +kernel) (Or.inr ⟨by rfl, rfl⟩) ?_)
          | (refine SeqS.take1 (v := .agg (cs1).toArray) (by first | assumption | trivial) (by kernel_rfl) (by decide +kernel) (by decide +kernel) (yields_blk (by rfl) 37 (.tmp 5) rfl rfl (fun w' h => XB.out w' h) (row1)) ?_)
          | (refine SeqS.take1 (v := ?_) (by first | assumption | trivial) (by kernel_rfl) (by decide +kernel) (by decide +kernel) (Or.inl ⟨by rfl, ?_⟩) ?_
             rotate_left
             focus
               intro w' hb'
               go_simp
               with_reducible rfl)
          | (refine SeqS.take1 (v := undef) (by first | assumption | trivial) (by kernel_rfl) (by decide +kernel) (by decide +kernel) (Or.inr ⟨by rfl, rfl⟩) ?_)
          | (refine SeqS.take2 (v := .agg (cs1).toArray) (by first | assumption | trivial) (by kernel_rfl) (by decide +kernel) (by decide +kernel) (yields_blk (by rfl) 37 (.tmp 5) rfl rfl (fun w' h => XB.out w' h) (row1)) ?_)
          | (refine SeqS.take2 (v := ?_) (by first | assumption | trivial) (by kernel_rfl) (by decide +kernel) (by decide +kernel) (Or.inl ⟨by rfl, ?_⟩) ?_
             rotate_left
             focus
               intro w' hb'
               go_simp
               with_reducible rfl)
          | (refine SeqS.take2 (v := undef) (by first | assumption | trivial) (by kernel_rfl) (by decide +kernel) (by decide +kernel) (Or.inr ⟨by rfl, rfl⟩) ?_)); simp only [Act.put, List.setIfInBounds_toArray, List.set_cons_zero, List.set_cons_succ])
        refine SeqS.alone (by decide +kernel) (by rfl) (fun K hK => ?_)
        go_simp
        go_at_call 21
        refine (CB.out _ S1).mono ?_
        rintro e w2 ⟨v2, rfl, R2, b2⟩
        go_simp
        have S2 : Below w9.heap.size w9 w2 := S1.trans (b2.mono S1.size)
        refine hK _ _ S2 ?_
        clear hK K
        repeat ((first
          | (refine SeqS.take (v := .agg (cs1).toArray) (by first | assumption | trivial) (by kernel_rfl) (by decide +kernel) (by decide +kernel) (yields_blk (by rfl) 37 (.tmp 5) rfl rfl (fun w' h => XB.out w' h) (row1)) ?_)
          | (refine SeqS.take (v := ?_) (by first | assumption | trivial) (by kernel_rfl) (by decide +kernel) (by decide +kernel) (Or.inl ⟨by rfl, ?_⟩) ?_
             rotate_left
             focus
               intro w' hb'
               go_simp
               with_reducible rfl)
          | (refine SeqS.take (v := undef) (by first | assumption | trivial) (by kernel_rfl) (by decide +kernel) (by decide +kernel) (Or.inr ⟨by rfl, rfl⟩) ?_)
          | (refine SeqS.take1 (v := .agg (cs1).toArray) (by first | assumption | trivial) (by kernel_rfl) (by decide +kernel) (by decide +kernel) (yields_blk (by rfl) 37 (.tmp 5) rfl rfl (fun w' h => XB.out w' h) (row1)) ?_)
          | (refine SeqS.take1 (v := ?_) (by first | assumption | trivial) (by kernel_rfl) (by decide +kernel) (by decide +kernel) (Or.inl ⟨by rfl, ?_⟩) ?_
             rotate_left
             focus
               intro w' hb'
               go_simp
               with_reducible rfl)
          | (refine SeqS.take1 (v := undef) (by first | assumption | trivial) (by kernel_rfl) (by decide +kernel) (by decide +kernel) (Or.inr ⟨by rfl, rfl⟩) ?_)
          | (refine SeqS.take2 (v := .agg (cs1).toArray) (by first | assumption | trivial) (by kernel_rfl) (by decide +kernel) (by decide +kernel) (yields_blk (by rfl) 37 (.tmp 5) rfl rfl (fun w' h => XB.out w' h) (row1)) ?_)
          | (refine SeqS.take2 (v := ?_) (by first | assumption | trivial) (by kernel_rfl) (by decide +kernel) (by decide +kernel) (Or.inl ⟨by rfl, ?_⟩) ?_
             rotate_left
             focus
               intro w' hb'
               go_simp
               with_reducible rfl)
          | (refine SeqS.take2 (v := undef) (by first | assumption | trivial) (by kernel_rfl) (by decide +kernel) (by decide +kernel) (Or.inr ⟨by rfl, rfl⟩) ?_)); simp only [Act.put, List.setIfInBounds_toArray, List.set_cons_zero, List.set_cons_succ])
        refine SeqS.alone (by decide +kernel) (by rfl) (fun K hK => ?_)
        go_simp
        go_at_call 22
        refine (CQ.out _ S2).mono ?_
        rintro e w3 ⟨v3, rfl, R3, b3⟩
        go_simp
        have S3 : Below w9.heap.size w9 w3 := S2.trans (b3.mono S2.size)
        refine hK _ _ S3 ?_
        clear hK K
        obtain ⟨a2, c2, e2, P2⟩ := (R2.keep b3).parts
        obtain ⟨a3, c3, e3, P3⟩ := R3.parts
        rw [hpl.out] at e2 e3 P2 P3
        subst e2; subst e3
        have CS := Lib.hid (r19Same_any a2 a3 nn c2 c3 ps w3 P2 P3 hpr.out hpb.out)
        clear R2 R3 P2 P3
        repeat ((first
          | (refine SeqS.take (v := .agg (cs1).toArray) (by first | assumption | trivial) (by kernel_rfl) (by decide +kernel) (by decide +kernel) (yields_blk (by rfl) 37 (.tmp 5) rfl rfl (fun w' h => XB.out w' h) (row1)) ?_)
          | (refine SeqS.take (v := ?_) (by first | assumption | trivial) (by kernel_rfl) (by decide +kernel) (by decide +kernel) (Or.inl ⟨by rfl, ?_⟩) ?_
             rotate_left
             focus
               intro w' hb'
               go_simp
               with_reducible rfl)
          | (refine SeqS.take (v := undef) (by first | assumption | trivial) (by kernel_rfl) (by decide +kernel) (by decide +kernel) (Or.inr ⟨by rfl, rfl⟩) ?_)
          | (refine SeqS.take1 (v := .agg (cs1).toArray) (by first | assumption | trivial) (by kernel_rfl) (by decide +kernel) (by decide +kernel) (yields_blk (by rfl) 37 (.tmp 5) rfl rfl (fun w' h => XB.out w' h) (row1)) ?_)
          | (refine SeqS.take1 (v := ?_) (by first | assumption | trivial) (by kernel_rfl) (by decide +kernel) (by decide +kernel) (Or.inl ⟨by rfl, ?_⟩) ?_
             rotate_left
             focus
               intro w' hb'
               go_simp
               with_reducible rfl)
          | (refine SeqS.take1 (v := undef) (by first | assumption | trivial) (by kernel_rfl) (by decide +kernel) (by decide +kernel) (Or.inr ⟨by rfl, rfl⟩) ?_)
          | (refine SeqS.take2 (v := .agg (cs1).toArray) (by first | assumption | trivial) (by kernel_rfl) (by decide +kernel) (by decide +kernel) (yields_blk (by rfl) 37 (.tmp 5) rfl rfl (fun w' h => XB.out w' h) (row1)) ?_)
          | (refine SeqS.take2 (v := ?_) (by first | assumption | trivial) (by kernel_rfl) (by decide +kernel) (by decide +kernel) (Or.inl ⟨by rfl, ?_⟩) ?_
             rotate_left
             focus
               intro w' hb'
               go_simp
               with_reducible rfl)
          | (refine SeqS.take2 (v := undef) (by first | assumption | trivial) (by kernel_rfl) (by decide +kernel) (by decide +kernel) (Or.inr ⟨by rfl, rfl⟩) ?_)); simp only [Act.put, List.setIfInBounds_toArray, List.set_cons_zero, List.set_cons_succ])
        refine SeqS.alone (by decide +kernel) (by rfl) (fun K hK => ?_)
        go_simp
        go_at_call 20
        refine (CS.out).mono ?_
        rintro e w4 ⟨rfl, b4⟩
        go_simp
        have S4 : Below w9.heap.size w9 w4 := S3.trans (b4.mono S3.size)
        refine hK _ _ S4 ?_
        clear hK K
        repeat ((first
          | (refine SeqS.take (v := .agg (cs1).toArray) (by first | assumption | trivial) (by kernel_rfl) (by decide +kernel) (by decide +kernel) (yields_blk (by rfl) 37 (.tmp 5) rfl rfl (fun w' h => XB.out w' h) (row1)) ?_)
          | (refine SeqS.take (v := ?_) (by first | assumption | trivial) (by kernel_rfl) (by decide +kernel) (by decide +kernel) (Or.inl ⟨by rfl, ?_⟩) ?_
             rotate_left
             focus
               intro w' hb'
               go_simp
               with_reducible rfl)
          | (refine SeqS.take (v := undef) (by first | assumption | trivial) (by kernel_rfl) (by decide +kernel) (by decide +kernel) (Or.inr ⟨by rfl, rfl⟩) ?_)
          | (refine SeqS.take1 (v := .agg (cs1).toArray) (by first | assumption | trivial) (by kernel_rfl) (by decide +kernel) (by decide +kernel) (yields_blk (by rfl) 37 (.tmp 5) rfl rfl (fun w' h => XB.out w' h) (row1)) ?_)
          | (refine SeqS.take1 (v := ?_) (by first | assumption | trivial) (by kernel_rfl) (by decide +kernel) (by decide +kernel) (Or.inl ⟨by rfl, ?_⟩) ?_
             rotate_left
             focus
               intro w' hb'
               go_simp
               with_reducible rfl)
          | (refine SeqS.take1 (v := undef) (by first | assumption | trivial) (by kernel_rfl) (by decide +kernel) (by decide +kernel) (Or.inr ⟨by rfl, rfl⟩) ?_)
          | (refine SeqS.take2 (v := .agg (cs1).toArray) (by first | assumption | trivial) (by kernel_rfl) (by decide +kernel) (by decide +kernel) (yields_blk (by rfl) 37 (.tmp 5) rfl rfl (fun w' h => XB.out w' h) (row1)) ?_)
          | (refine SeqS.take2 (v := ?_) (by first | assumption | trivial) (by kernel_rfl) (by decide +kernel) (by decide +kernel) (Or.inl ⟨by rfl, ?_⟩) ?_
             rotate_left
             focus
               intro w' hb'
               go_simp
               with_reducible rfl)
          | (refine SeqS.take2 (v := undef) (by first | assumption | trivial) (by kernel_rfl) (by decide +kernel) (by decide +kernel) (Or.inr ⟨by rfl, rfl⟩) ?_)); simp only [Act.put, List.setIfInBounds_toArray, List.set_cons_zero, List.set_cons_succ])
        refine SeqS.alone (by decide +kernel) (by rfl) (fun K hK => ?_)
        go_simp
        go_at_call 23
        refine (CN.out _ S4).mono ?_
        rintro e w5 ⟨rfl, b5⟩
        go_simp
        have S5 : Below w9.heap.size w9 w5 := S4.trans (b5.mono S4.size)
        refine hK _ _ S5 ?_
        clear hK K
        repeat ((first
          | (refine SeqS.take (v := .agg (cs1).toArray) (by first | assumption | trivial) (by kernel_rfl) (by decide +kernel) (by decide +kernel) (yields_blk (by rfl) 37 (.tmp 5) rfl rfl (fun w' h => XB.out w' h) (row1)) ?_)
          | (refine SeqS.take (v := ?_) (by first | assumption | trivial) (by kernel_rfl) (by decide +kernel) (by decide +kernel) (Or.inl ⟨by rfl, ?_⟩) ?_
             rotate_left
             focus
               intro w' hb'
               go_simp
               with_reducible rfl)
          | (refine SeqS.take (v := undef) (by first | assumption | trivial) (by kernel_rfl) (by decide +kernel) (by decide +kernel) (Or.inr ⟨by rfl, rfl⟩) ?_)
          | (refine SeqS.take1 (v := .agg (cs1).toArray) (by first | assumption | trivial) (by kernel_rfl) (by decide +kernel) (by decide +kernel) (yields_blk (by rfl) 37 (.tmp 5) rfl rfl (fun w' h => XB.out w' h) (row1)) ?_)
          | (refine SeqS.take1 (v := ?_) (by first | assumption | trivial) (by kernel_rfl) (by decide +kernel) (by decide +kernel) (Or.inl ⟨by rfl, ?_⟩) ?_
             rotate_left
             focus
               intro w' hb'
               go_simp
               with_reducible rfl)
          | (refine SeqS.take1 (v := undef) (by first | assumption | trivial) (by kernel_rfl) (by decide +kernel) (by decide +kernel) (Or.inr ⟨by rfl, rfl⟩) ?_)
          | (refine SeqS.take2 (v := .agg (cs1).toArray) (by first | assumption | trivial) (by kernel_rfl) (by decide +kernel) (by decide +kernel) (yields_blk (by rfl) 37 (.tmp 5) rfl rfl (fun w' h => XB.out w' h) (row1)) ?_)
          | (refine SeqS.take2 (v := ?_) (by first | assumption | trivial) (by kernel_rfl) (by decide +kernel) (by decide +kernel) (Or.inl ⟨by rfl, ?_⟩) ?_
             rotate_left
             focus
               intro w' hb'
               go_simp
               with_reducible rfl)
          | (refine SeqS.take2 (v := undef) (by first | assumption | trivial) (by kernel_rfl) (by decide +kernel) (by decide +kernel) (Or.inr ⟨by rfl, rfl⟩) ?_)); simp only [Act.put, List.setIfInBounds_toArray, List.set_cons_zero, List.set_cons_succ])
        refine SeqS.alone (by decide +kernel) (by rfl) (fun K hK => ?_)
        go_simp
        go_at_call 22
        refine (CQ.out _ S5).mono ?_
        rintro e w6 ⟨v6, rfl, R6, b6⟩
        go_simp
        have S6 : Below w9.heap.size w9 w6 := S5.trans (b6.mono S5.size)
        refine hK _ _ S6 ?_
        clear hK K
        obtain ⟨a6, c6, e6, P6⟩ := R6.parts
        rw [hpl.out] at e6
        subst e6
        clear R6 P6
        repeat ((first
          | (refine SeqS.take (v := .agg (cs1).toArray) (by first | assumption | trivial) (by kernel_rfl) (by decide +kernel) (by decide +kernel) (yields_blk (by rfl) 37 (.tmp 5) rfl rfl (fun w' h => XB.out w' h) (row1)) ?_)
          | (refine SeqS.take (v := ?_) (by first | assumption | trivial) (by kernel_rfl) (by decide +kernel) (by decide +kernel) (Or.inl ⟨by rfl, ?_⟩) ?_
             rotate_left
             focus
               intro w' hb'
               go_simp
               with_reducible rfl)
          | (refine SeqS.take (v := undef) (by first | assumption | trivial) (by kernel_rfl) (by decide +kernel) (by decide +kernel) (Or.inr ⟨by rfl, rfl⟩) ?_)
          | (refine SeqS.take1 (v := .agg (cs1).toArray) (by first | assumption | trivial) (by kernel_rfl) (by decide +kernel) (by decide +kernel) (yields_blk (by rfl) 37 (.tmp 5) rfl rfl (fun w' h => XB.out w' h) (row1)) ?_)
          | (refine SeqS.take1 (v := ?_) (by first | assumption | trivial) (by kernel_rfl) (by decide +kernel) (by decide +kernel) (Or.inl ⟨by rfl, ?_⟩) ?_
             rotate_left
             focus
               intro w' hb'
               go_simp
               with_reducible rfl)
          | (refine SeqS.take1 (v := undef) (by first | assumption | trivial) (by kernel_rfl) (by decide +kernel) (by decide +kernel) (Or.inr ⟨by rfl, rfl⟩) ?_)
          | (refine SeqS.take2 (v := .agg (cs1).toArray) (by first | assumption | trivial) (by kernel_rfl) (by decide +kernel) (by decide +kernel) (yields_blk (by rfl) 37 (.tmp 5) rfl rfl (fun w' h => XB.out w' h) (row1)) ?_)
          | (refine SeqS.take2 (v := ?_) (by first | assumption | trivial) (by kernel_rfl) (by decide +kernel) (by decide +kernel) (Or.inl ⟨by rfl, ?_⟩) ?_
             rotate_left
             focus
               intro w' hb'
               go_simp
               with_reducible rfl)
          | (refine SeqS.take2 (v := undef) (by first | assumption | trivial) (by kernel_rfl) (by decide +kernel) (by decide +kernel) (Or.inr ⟨by rfl, rfl⟩) ?_)); simp only [Act.put, List.setIfInBounds_toArray, List.set_cons_zero, List.set_cons_succ])
        refine SeqS.alone (by decide +kernel) (by rfl) (fun K hK => ?_)
        go_simp
        go_at_call 24
        refine (CZ.out _ S6).mono ?_
        rintro e w7 ⟨rfl, b7⟩
        go_simp
        have S7 : Below w9.heap.size w9 w7 := S6.trans (b7.mono S6.size)
        refine hK _ _ S7 ?_
        clear hK K
        repeat ((first
          | (refine SeqS.take (v := .agg (cs1).toArray) (by first | assumption | trivial) (by kernel_rfl) (by decide +kernel) (by decide +kernel) (yields_blk (by rfl) 37 (.tmp 5) rfl rfl (fun w' h => XB.out w' h) (row1)) ?_)
          | (refine SeqS.take (v := ?_) (by first | assumption | trivial) (by kernel_rfl) (by decide +kernel) (by decide +kernel) (Or.inl ⟨by rfl, ?_⟩) ?_
             rotate_left
             focus
               intro w' hb'
               go_simp
               with_reducible rfl)
          | (refine SeqS.take (v := undef) (by first | assumption | trivial) (by kernel_rfl) (by decide +kernel) (by decide +kernel) (Or.inr ⟨by rfl, rfl⟩) ?_)
          | (refine SeqS.take1 (v := .agg (cs1).toArray) (by first | assumption | trivial) (by kernel_rfl) (by decide +kernel) (by decide +kernel) (yields_blk (by rfl) 37 (.tmp 5) rfl rfl (fun w' h => XB.out w' h) (row1)) ?_)
          | (refine SeqS.take1 (v := ?_) (by first | assumption | trivial) (by kernel_rfl) (by decide +kernel) (by decide +kernel) (Or.inl ⟨by rfl, ?_⟩) ?_
             rotate_left
             focus
               intro w' hb'
               go_simp
               with_reducible rfl)
          | (refine SeqS.take1 (v := undef) (by first | assumption | trivial) (by kernel_rfl) (by decide +kernel) (by decide +kernel) (Or.inr ⟨by rfl, rfl⟩) ?_)
          | (refine SeqS.take2 (v := .agg (cs1).toArray) (by first | assumption | trivial) (by kernel_rfl) (by decide +kernel) (by decide +kernel) (yields_blk (by rfl) 37 (.tmp 5) rfl rfl (fun w' h => XB.out w' h) (row1)) ?_)
          | (refine SeqS.take2 (v := ?_) (by first | assumption | trivial) (by kernel_rfl) (by decide +kernel) (by decide +kernel) (Or.inl ⟨by rfl, ?_⟩) ?_
             rotate_left
             focus
               intro w' hb'
               go_simp
               with_reducible rfl)
          | (refine SeqS.take2 (v := undef) (by first | assumption | trivial) (by kernel_rfl) (by decide +kernel) (by decide +kernel) (Or.inr ⟨by rfl, rfl⟩) ?_)); simp only [Act.put, List.setIfInBounds_toArray, List.set_cons_zero, List.set_cons_succ])
        refine SeqS.alone (by decide +kernel) (by rfl) (fun K hK => ?_)
        go_simp
        go_at_call 25
        refine (CD.out _ S7).mono ?_
        rintro e w8 ⟨rfl, b8⟩
        go_simp
        have S8 : Below w9.heap.size w9 w8 := S7.trans (b8.mono S7.size)
        refine hK _ _ S8 ?_
        clear hK K
        repeat ((first
          | (refine SeqS.take (v := .agg (cs1).toArray) (by first | assumption | trivial) (by kernel_rfl) (by decide +kernel) (by decide +kernel) (yields_blk (by rfl) 37 (.tmp 5) rfl rfl (fun w' h => XB.out w' h) (row1)) ?_)
          | (refine SeqS.take (v := ?_) (by first | assumption | trivial) (by kernel_rfl) (by decide +kernel) (by decide +kernel) (Or.inl ⟨by rfl, ?_⟩) ?_
             rotate_left
             focus
               intro w' hb'
               go_simp
               with_reducible rfl)
          | (refine SeqS.take (v := undef) (by first | assumption | trivial) (by kernel_rfl) (by decide +kernel) (by decide +kernel) (Or.inr ⟨by rfl, rfl⟩) ?_)
          | (refine SeqS.take1 (v := .agg (cs1).toArray) (by first | assumption | trivial) (by kernel_rfl) (by decide +kernel) (by decide +kernel) (yields_blk (by rfl) 37 (.tmp 5) rfl rfl (fun w' h => XB.out w' h) (row1)) ?_)
          | (refine SeqS.take1 (v := ?_) (by first | assumption | trivial) (by kernel_rfl) (by decide +kernel) (by decide +kernel) (Or.inl ⟨by rfl, ?_⟩) ?_
             rotate_left
             focus
               intro w' hb'
               go_simp
               with_reducible rfl)
          | (refine SeqS.take1 (v := undef) (by first | assumption | trivial) (by kernel_rfl) (by decide +kernel) (by decide +kernel) (Or.inr ⟨by rfl, rfl⟩) ?_)
          | (refine SeqS.take2 (v := .agg (cs1).toArray) (by first | assumption | trivial) (by kernel_rfl) (by decide +kernel) (by decide +kernel) (yields_blk (by rfl) 37 (.tmp 5) rfl rfl (fun w' h => XB.out w' h) (row1)) ?_)
          | (refine SeqS.take2 (v := ?_) (by first | assumption | trivial) (by kernel_rfl) (by decide +kernel) (by decide +kernel) (Or.inl ⟨by rfl, ?_⟩) ?_
             rotate_left
             focus
               intro w' hb'
               go_simp
               with_reducible rfl)
          | (refine SeqS.take2 (v := undef) (by first | assumption | trivial) (by kernel_rfl) (by decide +kernel) (by decide +kernel) (Or.inr ⟨by rfl, rfl⟩) ?_)); simp only [Act.put, List.setIfInBounds_toArray, List.set_cons_zero, List.set_cons_succ])
        refine SeqS.done (by decide +kernel) ?_
        obtain ⟨hz1, hz2, hz3⟩ := fin9.out _ S8
        clear b1 b2 b3 b4 b5 b6 b7 b8 S0 S1 S2 S3 S4 S5 S6 S7 CL CB CQ CN CZ CD XB CS hee
        go_wp2_with fail
        exact ⟨⟨j + 1, ro1, cs1, D1, hltH.out, by congr 1, rfl, OK1.out.2.2, OK1.out.1, OK1.out.2.1, hz2, hz1, hz3⟩, by simp only [intOf]; have := hltH.out; omega⟩
    · obtain rfl : j = m := Nat.le_antisymm hj (Nat.not_lt.1 hlt)
      have hBL := hBLH.out.trans (hT.b.mono hBLH.out.size)
      clear hT hR bG hOk hBy
      go_wp2_with fail
      refine (alive20_any _ (HG.out.keep hBL (Nat.le_refl _))).mono ?_
      rintro q wz ⟨rfl, bz⟩
      have hBz := hBL.trans (bz.mono hBL.size)
      clear bz hBL
      go_wp2
      go_ret
      exact ⟨rfl, hBz⟩
end Go.Proofs.YtnblknhdchpboaaGreatDoor

/-
  Texts of stages that were proved on their own, joined: BkRight, BkDecode, BfDecode, BfDecOk. Each begins with its own words.
-/
import Derived.Test.YtndodckcncejiaaJBkAll19
import Derived.Deep.Slices
import Derived.Test.YtndodckcncejiaaJBkAll12
import Derived.Test.YtndodckcncejiaaJBkAll17
import Derived.Test.YtndodckcncejiaaJBkAll13
import Derived.Test.YtndodckcncejiaaJBkAll11
import Derived.Test.YtndodckcncejiaaJBkAll10
import Derived.Test.YtndodckcncejiaaBlocks2
import Derived.Test.YtndodckcncejiaaJBkAll18
import Derived.Test.YtndodckcncejiaaJBkAll16
import Derived.Test.YtndodckcncejiaaSteps

/-
  What block's Right, Child and Copy (by slices.Clone) come to. New memory alone is written. Conditions: at most a hundred thousand ids, bytes below 256; an id has 32 bytes.
-/
namespace Go.Proofs.Ytndodckcncejiaa
open Go.RowKit

set_option maxRecDepth 100000 in
set_option maxHeartbeats 2000000 in
theorem bkRight_any (H P : List Int) (a : Option Addr) (n c : Nat) (zs : List Int) (w : World) (hH : H.length = 32) (hP : P.length = 32) (hT : IdsAt w a n c zs) (ho : okB zs) (hn : n ≤ 100000) :
    Calls Try.prog 10 #[.agg (bkC H P a n c).toArray] w fun q w' => q = .returned (.bool (rightK ⟨H, P, n, zs⟩)) ∧ Below w.heap.size w w' := by
  have heq := fun w' => eqId16 H P hH hP w'
  have hr1 := rowId_of hH
  have hr2 := rowId_of hP
  have hb := below1 w (.cells (bkC H P a n c).toArray 26)
  have hk := Blk.new w 26 (bkC H P a n c)
  have p0 := bk0 hk
  have p1 := bk1 hk hH
  have p2 := bk2 hk hH hP
  obtain ⟨C, hC⟩ : ∃ C, bkC H P a n c = C := ⟨_, rfl⟩
  rw [hC] at hb p0 p1 p2
  rw [hC]
  obtain ⟨V, hV⟩ : ∃ V, w.alloc (.cells C.toArray 26) = V := ⟨_, rfl⟩
  rw [hV] at hb p0 p1 p2
  have hc := Lib.hid (bkTwice_any a n c zs V (hT.keep hb) ho hn)
  obtain ⟨G, g9⟩ : ∃ G, w.heap.size = G := ⟨_, rfl⟩
  rw [g9] at p0 p1 p2
  unfold rightK
  dsimp only
  obtain ⟨T, hTw⟩ : ∃ C, twiceL zs n = C := ⟨_, rfl⟩
  rw [hTw] at hc ⊢
  obtain ⟨F, hF⟩ : ∃ C, (H == P) = C := ⟨_, rfl⟩
  rw [hF] at heq ⊢
  obtain ⟨X0, hX0⟩ : ∃ C, H.map (Value.int .u8) = C := ⟨_, rfl⟩
  obtain ⟨X1, hX1⟩ : ∃ C, P.map (Value.int .u8) = C := ⟨_, rfl⟩
  rw [hX0] at p0 hr1 heq
  rw [hX1] at p1 hr2 heq
  have hng := noGuardIds
  have hbH := Lib.hid hb
  clear hk hC hF hX0 hX1 hb hT hTw ho
  by_cases h32 : n ≤ 32
  · have h32i : (n : Int) ≤ 32 := by omega
    rw [show decide (n ≤ 32) = true from decide_eq_true h32, Bool.true_and]
    clear h32 hn
    cases F with
    | true =>
      go_enter Try.func10, Try.ntmps10
      go_wp2_with ((with_reducible refine box_row rfl 26 (.tmp 0) rfl C ?_ ?_); rfl; refine RowKit.Hid.out ?_)
      refine Lib.hid ?_
      clear hV g9
      go_wp2_with (first
        | ((with_reducible refine load_pif rfl 23 (.tmp 8) rfl ?_ X0 p0 hr1 ?_); rfl)
        | ((with_reducible refine load_pif rfl 23 (.tmp 10) rfl ?_ X1 p1 hr2 ?_); rfl))
      go_ret
      exact ⟨by first | rfl | simp, hbH.out⟩
    | false =>
      go_enter Try.func10, Try.ntmps10
      go_wp2_with ((with_reducible refine box_row rfl 26 (.tmp 0) rfl C ?_ ?_); rfl; refine RowKit.Hid.out ?_)
      refine Lib.hid ?_
      clear hV g9
      go_wp2_with (first
        | ((with_reducible refine load_pif rfl 23 (.tmp 8) rfl ?_ X0 p0 hr1 ?_); rfl)
        | ((with_reducible refine load_pif rfl 23 (.tmp 10) rfl ?_ X1 p1 hr2 ?_); rfl))
      refine hc.out.mono ?_
      rintro q w1 ⟨rfl, b1⟩
      go_wp2
      go_ret
      exact ⟨by first | rfl | simp, hbH.out.trans (b1.mono hbH.out.size)⟩
  · have h32i : ¬ (n : Int) ≤ 32 := by omega
    rw [show decide (n ≤ 32) = false from decide_eq_false h32, Bool.false_and]
    clear h32 hn
    go_enter Try.func10, Try.ntmps10
    go_wp2_with ((with_reducible refine box_row rfl 26 (.tmp 0) rfl C ?_ ?_); rfl; refine RowKit.Hid.out ?_)
    refine Lib.hid ?_
    clear hV g9
    go_wp2_with (first
      | ((with_reducible refine load_pif rfl 23 (.tmp 8) rfl ?_ X0 p0 hr1 ?_); rfl)
      | ((with_reducible refine load_pif rfl 23 (.tmp 10) rfl ?_ X1 p1 hr2 ?_); rfl))
    go_ret
    exact ⟨by first | rfl | simp, hbH.out⟩

set_option maxRecDepth 100000 in
set_option maxHeartbeats 2000000 in
theorem bkChild_any (H P : List Int) (a : Option Addr) (n c : Nat) (H' P' : List Int) (a' : Option Addr) (n' c' : Nat) (w : World) (hH : H.length = 32) (hH' : H'.length = 32) (hP' : P'.length = 32) :
    Calls Try.prog 20 #[.agg (bkC H P a n c).toArray, .agg (bkC H' P' a' n' c').toArray] w fun q w' => q = .returned (.bool (P' == H)) ∧ Below w.heap.size w w' := by
  have heq := fun w' => eqId16 P' H hP' hH w'
  have hr1 := rowId_of hP'
  have hr2 := rowId_of hH
  have hb := below2 w (.cells (bkC H P a n c).toArray 26) (.cells (bkC H' P' a' n' c').toArray 26)
  have hk : Blk ((w.alloc (.cells (bkC H P a n c).toArray 26)).alloc (.cells (bkC H' P' a' n' c').toArray 26)) w.heap.size 26 (bkC H P a n c) := (Blk.new w _ _).alloc _
  have hk2 : Blk ((w.alloc (.cells (bkC H P a n c).toArray 26)).alloc (.cells (bkC H' P' a' n' c').toArray 26)) (w.heap.size + 1) 26 (bkC H' P' a' n' c') := Blk.new1 w _ _ _
  have p0 := bk0 hk
  have q1 := bk1 hk2 hH'
  obtain ⟨C, hC⟩ : ∃ C, bkC H P a n c = C := ⟨_, rfl⟩
  obtain ⟨D, hD⟩ : ∃ C, bkC H' P' a' n' c' = C := ⟨_, rfl⟩
  rw [hC, hD] at hb p0 q1
  rw [hC, hD]
  obtain ⟨V, hV⟩ : ∃ V, (w.alloc (.cells C.toArray 26)).alloc (.cells D.toArray 26) = V := ⟨_, rfl⟩
  rw [hV] at hb p0 q1
  obtain ⟨G, g9⟩ : ∃ G, w.heap.size = G := ⟨_, rfl⟩
  rw [g9] at p0 q1
  obtain ⟨F, hF⟩ : ∃ C, (P' == H) = C := ⟨_, rfl⟩
  rw [hF] at heq ⊢
  obtain ⟨X0, hX0⟩ : ∃ C, H.map (Value.int .u8) = C := ⟨_, rfl⟩
  obtain ⟨X1, hX1⟩ : ∃ C, P'.map (Value.int .u8) = C := ⟨_, rfl⟩
  rw [hX0] at p0 hr2 heq
  rw [hX1] at q1 hr1 heq
  have hng := noGuardIds
  have hbH := Lib.hid hb
  clear hk hk2 hC hD hF hX0 hX1 hb
  go_enter Try.func20, Try.ntmps20
  go_wp2_with (first
    | ((with_reducible refine box_row rfl 26 (.tmp 0) rfl C ?_ ?_); rfl)
    | ((with_reducible refine box_row rfl 26 (.tmp 1) rfl D ?_ ?_); rfl; refine RowKit.Hid.out ?_))
  refine Lib.hid ?_
  clear hV g9
  go_wp2_with (first
    | ((with_reducible refine load_pif rfl 23 (.tmp 5) rfl ?_ X1 q1 hr1 ?_); rfl)
    | ((with_reducible refine load_pif rfl 23 (.tmp 7) rfl ?_ X0 p0 hr2 ?_); rfl))
  go_ret
  exact ⟨rfl, hbH.out⟩

theorem iNone (cap : Nat) (w : World) : Sem.run Try.prog (binOp BinOp.eql 24 (.slice none 0 cap) (.slice none 0 0)) w = .ok (.bool true) w := by kernel_rfl
theorem iSome (x : Addr) (n cap : Nat) (w : World) : Sem.run Try.prog (binOp BinOp.eql 24 (.slice (some x) n cap) (.slice none 0 0)) w = .ok (.bool false) w := by kernel_rfl
set_option maxRecDepth 100000 in
set_option maxHeartbeats 800000 in
theorem bkClone_any (a : Option Addr) (n c : Nat) (zs : List Int) (w : World) (hT : IdsAt w a n c zs) (hn : n ≤ 100000) :
    Calls Try.prog 39 #[.slice a n c] w fun e w' => ∃ b d, e = .returned (.slice b n d) ∧ w'.ownsRow w.heap.size 23 32 (.slice b n d) n (zs.map (Value.int .u8)) ∧ Below w.heap.size w w' := by
  obtain ⟨i0, hi, hz0, hz1, hz2⟩ := info_id9
  have hl := hT.1
  have hnH := Lib.hid hn
  clear hn
  cases a with
  | none =>
    have h0 : n = 0 := by
      rcases hT.2.2 with h | ⟨b, off, h, _⟩
      · exact h
      · cases h
    subst h0
    obtain rfl : zs = [] := List.length_eq_zero_iff.1 hl
    have heq := iNone c
    go_enter Try.func39, Try.ntmps39
    go_wp2
    go_ret
    exact ⟨none, 0, rfl, World.ownsRow_nil _ _ _ _, Below.refl _ _⟩
  | some ad =>
    have q3 : Below w.heap.size w (w.alloc (.cells #[] 23)) := below1 _ _
    have heq := iSome ad n c
    have hcl := Lib.hid (show (zs.map (Value.int .u8)).length = n * 32 by rw [List.length_map, hl, Nat.mul_comm])
    have hone := Lib.hid (u8_one zs)
    have hcells := Lib.hid (show ∀ j u, (zs.map (Value.int .u8))[j]? = some u → (w.alloc (.cells #[] 23)).cell? (ad.add j) = some u by
      rcases hT.2.2 with h0 | ⟨b, off, hA, hc⟩
      · intro j u hj
        have := (List.getElem?_eq_some_iff.1 hj).1
        rw [List.length_map, hl] at this
        omega
      · injection hA with hA
        subst hA
        intro j u hj
        have hjl := (List.getElem?_eq_some_iff.1 hj).1
        rw [List.length_map] at hjl
        have h1 := hc j (by omega)
        rw [List.getElem?_map, List.getElem?_eq_getElem hjl] at hj
        rw [List.getD_eq_getElem?_getD, List.getElem?_eq_getElem hjl] at h1
        injection hj with hj
        subst hj
        rw [show (⟨b, off, none⟩ : Addr).add j = ⟨b, off + j, none⟩ by simp [Addr.add]]
        exact (q3.cell (World.block_lt_of_cell? w _ h1)).trans h1)
    have q3H := Lib.hid q3
    obtain ⟨CS, hCS⟩ : ∃ CS, zs.map (Value.int .u8) = CS := ⟨_, rfl⟩
    rw [hCS] at hcl hone hcells ⊢
    clear hT hl q3 hCS
    go_enter Try.func39, Try.ntmps39
    go_wp2_with (at_builtin
                 refine wpList_append_own _ rfl (.tmp 5) (.tmp 6) 24 rfl w.heap.size 23 i0 _ 32 32 Try.underlying24 hi hz0 hz1 hz2 (by simp [Value.cells]) (by decide) (.slice (some ⟨w.heap.size, 0, none⟩) 0 0) 0 [] rfl (World.ownsRow_made w #[] 0 (Nat.le_refl _) (Nat.zero_le _) rfl) ad n c CS rfl hcl.out hcells.out hone.out ?_ ?_ q3H.out.size ?_
                 (have := hnH.out; unfold maxLen; omega)
                 (have := hnH.out; omega)
                 intro v4 w4 hown4 hg4 _
                 refine RowKit.Hid.out ?_)
    refine Lib.hid ?_
    rw [List.nil_append, Nat.zero_add] at hown4
    have hex : ∃ b c, v4 = .slice b n c := own_slice32 hown4
    obtain ⟨b, d, hv⟩ := hex
    rw [hv] at hown4 ⊢
    have hB : Below w.heap.size w w4 := q3H.out.grown hg4 q3H.out.size (fun q hq => by injection hq with hq; rw [← hq]; exact Nat.le_refl _)
    go_wp2
    go_ret
    exact ⟨b, d, rfl, hown4, hB⟩

set_option maxRecDepth 100000 in
set_option maxHeartbeats 1000000 in
theorem bkCopy_any (H P : List Int) (a : Option Addr) (n c : Nat) (zs : List Int) (w : World) (hH : H.length = 32) (hP : P.length = 32) (hT : IdsAt w a n c zs) (hn : n ≤ 100000) :
    Calls Try.prog 21 #[.agg (bkC H P a n c).toArray] w fun q w' => ∃ b d, q = .returned (.agg (bkC H P b n d).toArray) ∧ w'.ownsRow w.heap.size 23 32 (.slice b n d) n (zs.map (Value.int .u8)) ∧ Below w.heap.size w w' := by
  have hset := fun b m d => bkC_set (a := a) (n := n) (c := c) hH hP b m d
  have hone := fun b m d => bkC_one H P b m d
  have hlen := fun b m d => bkC_len (a := b) (n := m) (c := d) hH hP
  have e5 := fun w' g (h : Blk w' g 26 (bkC H P a n c)) => bk2 h hH hP
  obtain ⟨D, hD⟩ : ∃ D, bkC H P = D := ⟨_, rfl⟩
  rw [hD] at hset hone hlen e5
  rw [hD]
  obtain ⟨C, hC⟩ : ∃ C, D a n c = C := ⟨_, rfl⟩
  rw [hC] at hset e5
  rw [hC]
  clear hC hD
  obtain ⟨Z, hZ⟩ : ∃ Z, bkC z32 z32 none 0 0 = Z := ⟨_, rfl⟩
  have hZ0 : Zero Try.prog 26 Z := by rw [← hZ]; exact zeroBk
  have hZl : Z.length = 65 := by rw [← hZ]; exact bkC_len rfl rfl
  clear hZ
  have hb := below2 w (.cells C.toArray 26) (.cells Z.toArray 26)
  have hk : Blk ((w.alloc (.cells C.toArray 26)).alloc (.cells Z.toArray 26)) w.heap.size 26 C := (Blk.new w _ C).alloc _
  have hk2 : Blk ((w.alloc (.cells C.toArray 26)).alloc (.cells Z.toArray 26)) (w.heap.size + 1) 26 Z := Blk.new1 w _ _ _
  obtain ⟨V, hV⟩ : ∃ V, (w.alloc (.cells C.toArray 26)).alloc (.cells Z.toArray 26) = V := ⟨_, rfl⟩
  rw [hV] at hb hk hk2
  have hcl := bkClone_any a n c zs V (hT.keep hb) hn
  have hbH := Lib.hid hb
  clear hT hn hb
  obtain ⟨G, g9⟩ : ∃ G, w.heap.size = G := ⟨_, rfl⟩
  rw [g9] at hk hk2
  have c5 := e5 V G hk
  go_enter Try.func21, Try.ntmps21
  go_wp2_with (first
    | ((with_reducible refine box_row rfl 26 (.tmp 0) rfl C ?_ ?_); rfl)
    | ((with_reducible refine wpList_alloc_blk rfl 26 rfl hZ0 ?_); refine RowKit.Hid.out ?_))
  refine Lib.hid ?_
  go_wp2_with fail
  refine hcl.mono ?_
  rintro q w1 ⟨b, d, rfl, ho, b1⟩
  have gH := Lib.hid g9
  clear hcl c5 g9 hV
  have hk1 := hk.keep b1 hk.lt
  have hk21 := hk2.keep b1 hk2.lt
  have c5 := e5 w1 G hk1
  have f5 := hk1.frozen 64
  have hs1 := hset b n d
  have hB1 := hbH.out.trans (b1.mono hbH.out.size)
  have hkS : Blk (w1.setCell ⟨G, 64, none⟩ (.slice b n d)) G 26 (D b n d) := by
    have := hk1.set 64 (.slice b n d)
    rw [hs1] at this
    exact this
  have hkZ : Blk (w1.setCell ⟨G, 64, none⟩ (.slice b n d)) (G + 1) 26 Z := hk21.far (by show G + 1 ≠ G; omega) _
  have hBS : Below w.heap.size w (w1.setCell ⟨G, 64, none⟩ (.slice b n d)) := hB1.setCell (p := ⟨G, 64, none⟩) (by show w.heap.size ≤ G; rw [gH.out]; exact Nat.le_refl _) _
  have oS : (w1.setCell ⟨G, 64, none⟩ (.slice b n d)).ownsRow V.heap.size 23 32 (.slice b n d) n (zs.map (Value.int .u8)) := own_far9 ho (grown_setCell w1 G 64 _) hk.lt
  obtain ⟨U, hU⟩ : ∃ U, w1.setCell ⟨G, 64, none⟩ (.slice b n d) = U := ⟨_, rfl⟩
  rw [hU] at hkS hkZ hBS oS
  have hVs := Lib.hid hk2.lt
  clear ho b1 hk1 hk21 hB1 hs1 hk hk2 hset e5
  have hr : IsRow Try.prog 26 65 := rowBk
  go_wp2_with ((with_reducible refine wpList_load_blk rfl 26 (.tmp 1) rfl ?_ hkS hr (hlen b n d) ?_); rfl; refine RowKit.Hid.out ?_)
  refine Lib.hid ?_
  refine store_row rfl 26 (.tmp 2) (.tmp 7) rfl rfl rfl hkZ hr (hlen b n d) hZl (hone b n d) ?_
  intro w2 hb2 hg2
  have hr2 : IsRow Try.prog 26 (D b n d).length := by rw [hlen b n d]; exact rowBk
  go_wp2_with fail
  refine bodyPost_ret (results_blk rfl rfl hb2 hr2) rfl ?_
  refine ⟨b, d, rfl, ?_, ?_⟩
  · have := own_far9 oS hg2 hVs.out
    exact own_low9 this (by have := hbH.out.size; omega)
  · exact hBS.grown hg2 hBS.size (fun q hq => by injection hq with hq; have := gH.out; omega)
end Go.Proofs.Ytndodckcncejiaa

/-
  What block's Decode comes to. New memory alone is written. Conditions: bytes below 256, at most a million.
-/
namespace Go.Proofs.Ytndodckcncejiaa
open Go.RowKit

theorem blk_moved {F : Nat → Prop} {w w' : World} {g : Nat} {t : TypeId} {cs : List Value} (h : Blk w g t cs) (hm : Moved F w w') (hF : ¬ F g) : Blk w' g t cs := (hm.2 g h.lt hF).trans h
/-- A block's cells, its ids at b. -/
def bC (m : BlkV) (b : Option Addr) (d : Nat) : List Value := bkC m.hash m.parent b m.n d
/-- What a decoding ends with. -/
def DecEndB (xs : List Int) (w : World) (q : Ending) (w' : World) : Prop := ∃ b d, q = .returned (.tuple #[.agg (bC (decK xs).1 b d).toArray, .int .i64 (decK xs).2]) ∧ IdsAt w' b (decK xs).1.n d (decK xs).1.ids ∧ (∀ x, b = some x → w.heap.size ≤ x.block) ∧ Below w.heap.size w w'
theorem ids_nil (w : World) : IdsAt w none 0 0 [] := ⟨rfl, Nat.le_refl _, .inl rfl⟩

set_option maxRecDepth 100000 in
set_option maxHeartbeats 4000000 in
theorem bkDecode_any (a : Option Addr) (n c : Nat) (xs : List Int) (w : World) (hI : Ints .u8 w a n c xs) (hr : okB xs) (hn : n ≤ 1000000) :
    Calls Try.prog 12 #[.slice a n c] w (DecEndB xs w) := by
  have hln := hI.len
  obtain ⟨Z, hZ⟩ : ∃ Z, bkC z32 z32 none 0 0 = Z := ⟨_, rfl⟩
  have hZ0 : Zero Try.prog 26 Z := by rw [← hZ]; exact zeroBk
  have hZl : Z.length = 65 := by rw [← hZ]; exact bkC_len rfl rfl
  have hZ1 : ∀ v ∈ Z, v.oneCell' = true := by rw [← hZ]; exact bkC_one _ _ _ _ _
  have hbt0 : Try.prog.built 26 [] = some Z.toArray := by rw [← hZ]; exact built_bk0
  have hZH := Lib.hid hZ
  clear hZ
  obtain ⟨Zr, hZr⟩ : ∃ Z, List.replicate 32 (Value.int .u8 0) = Z := ⟨_, rfl⟩
  have hRl : Zr.length = 32 := by rw [← hZr]; rfl
  have hR0 : Zero Try.prog 23 Zr := by rw [← hZr]; exact zeroId9
  clear hZr
  have hb := below1 w (.cells Z.toArray 26)
  have hk : Blk (w.alloc (.cells Z.toArray 26)) w.heap.size 26 Z := Blk.new w _ _
  obtain ⟨V, hV⟩ : ∃ V, w.alloc (.cells Z.toArray 26) = V := ⟨_, rfl⟩
  rw [hV] at hb hk
  have hnew := Lib.hid (pNew_any a n c xs V (hI.keep hb) hr hn)
  obtain ⟨G, g9⟩ : ∃ G, w.heap.size = G := ⟨_, rfl⟩
  rw [g9] at hk
  have gH := Lib.hid g9
  obtain ⟨E, hdn, hend1, hend2⟩ := bk_read hr
  have hH := bdH_len xs
  have hP := bdP_len xs
  obtain ⟨H, hHe⟩ : ∃ H, bdH xs = H := ⟨_, rfl⟩
  obtain ⟨P, hPe⟩ : ∃ H, bdP xs = H := ⟨_, rfl⟩
  obtain ⟨zs, hze⟩ : ∃ H, bdZ xs = H := ⟨_, rfl⟩
  rw [hHe] at hH hend2
  rw [hPe] at hP hend2
  rw [hze] at hend2
  unfold bdZ at hze
  unfold bdH at hHe
  unfold bdP at hPe
  unfold bd4 at hdn hend2 hze
  unfold bd3 at hdn hend2 hze
  unfold bd2 at hdn hend2 hze
  unfold bd1 at hdn hend2 hze hPe
  obtain ⟨⟨p1, e1, m1⟩, hs1⟩ : ∃ q, rdStep xs.length 0 0 32 = q := ⟨_, rfl⟩
  rw [hs1] at hdn hend2 hze hPe
  dsimp only at hdn hend2 hze hPe
  obtain ⟨⟨p2, e2, m2⟩, hs2⟩ : ∃ q, rdStep xs.length p1 e1 32 = q := ⟨_, rfl⟩
  rw [hs2] at hdn hend2 hze
  dsimp only at hdn hend2 hze
  obtain ⟨⟨p3, e3, m3⟩, hs3⟩ : ∃ q, rdCount xs p2 e2 1 32 = q := ⟨_, rfl⟩
  rw [hs3] at hdn hend2 hze
  dsimp only at hdn hend2 hze
  obtain ⟨⟨p4, e4, m4⟩, hs4⟩ : ∃ q, rdIds xs.length p3 e3 m3 = q := ⟨_, rfl⟩
  rw [hs4] at hdn hend2 hze
  dsimp only at hdn hend2 hze
  have hlX := rowId_of hH
  have hlY := rowId_of hP
  have hX1 := u8_one H
  have hY1 := u8_one P
  have hXl : (H.map (Value.int .u8)).length = 32 := by rw [List.length_map, hH]
  have hYl : (P.map (Value.int .u8)).length = 32 := by rw [List.length_map, hP]
  have hbt3 := fun b d => built_bk3 H P b m4 d hH hP
  have hDl := fun b d => bkC_len (a := b) (n := m4) (c := d) hH hP
  have hD1 := fun b d => bkC_one H P b m4 d
  have hRt := Lib.hid (fun b d w' (hT : IdsAt w' b m4 d zs) (ho : okB zs) (hn : m4 ≤ 100000) => bkRight_any H P b m4 d zs w' hH hP hT ho hn)
  have hcells := Lib.hid (fun b d => (rfl : bkC H P b m4 d = bC ⟨H, P, m4, zs⟩ b d))
  obtain ⟨D, hD⟩ : ∃ D, (fun b d => bkC H P b m4 d) = D := ⟨_, rfl⟩
  have hDe : ∀ b d, bkC H P b m4 d = D b d := fun b d => by rw [← hD]
  have hbt3 := fun b d => (hbt3 b d).trans (by rw [hDe])
  have hDl := fun b d => (congrArg List.length (hDe b d)).symm.trans (hDl b d)
  have hD1 : ∀ b d, ∀ v ∈ D b d, v.oneCell' = true := fun b d => by rw [← hDe]; exact hD1 b d
  have hRt := Lib.hid (fun b d w' (hT : IdsAt w' b m4 d zs) (ho : okB zs) (hn : m4 ≤ 100000) => by have := hRt.out b d w' hT ho hn; rw [hDe] at this; exact this)
  have hDeH := Lib.hid hDe
  clear hDe hD
  obtain ⟨X, hX⟩ : ∃ X, H.map (Value.int .u8) = X := ⟨_, rfl⟩
  obtain ⟨Y, hY⟩ : ∃ X, P.map (Value.int .u8) = X := ⟨_, rfl⟩
  rw [hX] at hlX hX1 hXl hbt3
  rw [hY] at hlY hY1 hYl hbt3
  have hend1H := Lib.hid hend1
  have hend2H := Lib.hid hend2
  have hHP := Lib.hid (And.intro hHe hPe)
  have hXY := Lib.hid (And.intro hX hY)
  clear hend1 hend2 hHe hPe hX hY hI hr hn hln
  go_enter Try.func12, Try.ntmps12
  go_wp2_with ((with_reducible refine wpList_alloc_blk rfl 26 rfl hZ0 ?_); refine RowKit.Hid.out ?_)
  refine Lib.hid ?_
  clear hV
  go_wp2_with fail
  refine hnew.out.mono ?_
  rintro r w1 ⟨g, F, rfl, hR1, hF1, b1⟩
  have hG1 := hk.keep b1 hk.lt
  have hB1 := hb.trans (b1.mono hb.size)
  have nG : Hid (¬ F G) := Lib.hid (fun h => by have := hF1 _ h; have := hk.lt; omega)
  have hFg : Hid (∀ b, F b → w.heap.size ≤ b) := Lib.hid (fun b hb' => Nat.le_trans hb.size (hF1 b hb'))
  clear hk hb b1 hnew hF1
  have cn := pId_any hR1
  rw [hHP.out.1, hs1] at cn
  dsimp only at cn
  rw [hXY.out.1] at cn
  clear hR1
  go_wp2_with fail
  refine cn.mono ?_
  rintro r w2 ⟨rfl, hR2, hm2⟩
  have hG2 := blk_moved hG1 hm2 nG.out
  have hB2 := hB1.trans (hm2.below hFg.out hB1.size)
  clear cn hG1 hB1 hm2
  -- the Hash
  go_wp2_with ((with_reducible refine wpList_alloc_blk rfl 23 rfl hR0 ?_); refine RowKit.Hid.out ?_)
  refine Lib.hid ?_
  try simp only [Act.put, List.setIfInBounds_toArray, List.set_cons_zero, List.set_cons_succ]
  have hGA := hG2.alloc (.cells Zr.toArray 23)
  have hNA := Blk.new w2 23 Zr
  have hBA := hB2.alloc hB2.size (.cells Zr.toArray 23)
  have hnG : G < w2.heap.size := hG2.lt
  have hRA := hR2.keep (w' := w2.alloc (.cells Zr.toArray 23)) (fun b hb => Below.heap_alloc w2 _ b (hR2.lt b hb)) (by rw [size1]; omega)
  have nN0 : ¬ F w2.heap.size := fun h => Nat.lt_irrefl _ (hR2.lt _ h)
  have hw2 : w.heap.size ≤ w2.heap.size := hB2.size
  obtain ⟨N, hN⟩ : ∃ N, w2.heap.size = N := ⟨_, rfl⟩
  rw [hN] at hNA hnG nN0 hw2 ⊢
  have nN := Lib.hid nN0
  have nGN := Lib.hid hnG
  have hwN := Lib.hid hw2
  obtain ⟨U, hU⟩ : ∃ W, w2.alloc (.cells Zr.toArray 23) = W := ⟨_, rfl⟩
  rw [hU] at hGA hNA hBA hRA ⊢
  clear hR2 hG2 hB2 hN hU nN0 hnG hw2
  refine store_row rfl 23 (.tmp 5) (.tmp 13) rfl rfl rfl hNA rowId9 hXl hRl hX1 ?_
  intro w3 hN3 hg3
  have hG3 := hGA.grown hg3 (fun e => by injection e with e; have := nGN.out; omega)
  have hR3 := hRA.keep (fun b hb => hg3.block b (hRA.lt b hb) (fun e => by injection e with e; subst e; exact nN.out hb)) hg3.size
  have hB3 := hBA.grown hg3 hBA.size (fun q hq => by injection hq with hq; have := hwN.out; omega)
  clear hGA hNA hBA hRA hg3
  have cn := pId_any hR3
  rw [hHP.out.2, hs2] at cn
  dsimp only at cn
  rw [hXY.out.2] at cn
  clear hR3
  go_wp2_with fail
  refine cn.mono ?_
  rintro r w4 ⟨rfl, hR4, hm4⟩
  have hG4 := blk_moved hG3 hm4 nG.out
  have hN4 := blk_moved hN3 hm4 nN.out
  have hB4 := hB3.trans (hm4.below hFg.out hB3.size)
  clear cn hG3 hN3 hB3 hm4
  -- the Parent
  go_wp2_with ((with_reducible refine wpList_alloc_blk rfl 23 rfl hR0 ?_); refine RowKit.Hid.out ?_)
  refine Lib.hid ?_
  try simp only [Act.put, List.setIfInBounds_toArray, List.set_cons_zero, List.set_cons_succ]
  have hGA := hG4.alloc (.cells Zr.toArray 23)
  have hNA := hN4.alloc (.cells Zr.toArray 23)
  have hMA := Blk.new w4 23 Zr
  have hBA := hB4.alloc hB4.size (.cells Zr.toArray 23)
  have hnM : N < w4.heap.size := hN4.lt
  have hnG : G < w4.heap.size := hG4.lt
  have hRA := hR4.keep (w' := w4.alloc (.cells Zr.toArray 23)) (fun b hb => Below.heap_alloc w4 _ b (hR4.lt b hb)) (by rw [size1]; omega)
  have nM0 : ¬ F w4.heap.size := fun h => Nat.lt_irrefl _ (hR4.lt _ h)
  have hw4 : w.heap.size ≤ w4.heap.size := hB4.size
  obtain ⟨M, hM⟩ : ∃ N, w4.heap.size = N := ⟨_, rfl⟩
  rw [hM] at hMA hnM hnG nM0 hw4 ⊢
  have nM := Lib.hid nM0
  have nNM := Lib.hid hnM
  have nGM := Lib.hid hnG
  have hwM := Lib.hid hw4
  obtain ⟨U, hU⟩ : ∃ W, w4.alloc (.cells Zr.toArray 23) = W := ⟨_, rfl⟩
  rw [hU] at hGA hNA hMA hBA hRA ⊢
  clear hR4 hG4 hN4 hB4 hM hU nM0 hnM hnG hw4
  refine store_row rfl 23 (.tmp 6) (.tmp 15) rfl rfl rfl hMA rowId9 hYl hRl hY1 ?_
  intro w5 hM5 hg5
  have hG5 := hGA.grown hg5 (fun e => by injection e with e; have := nGM.out; omega)
  have hN5 := hNA.grown hg5 (fun e => by injection e with e; have := nNM.out; omega)
  have hR5 := hRA.keep (fun b hb => hg5.block b (hRA.lt b hb) (fun e => by injection e with e; subst e; exact nM.out hb)) hg5.size
  have hB5 := hBA.grown hg5 hBA.size (fun q hq => by injection hq with hq; have := hwM.out; omega)
  clear hGA hNA hMA hBA hRA hg5
  have cn := pCount_any 1 32 (by decide) hR5
  rw [hs3] at cn
  dsimp only at cn
  clear hR5
  go_wp2_with fail
  refine cn.mono ?_
  rintro r w6 ⟨rfl, hR6, hm6⟩
  have hG6 := blk_moved hG5 hm6 nG.out
  have hN6 := blk_moved hN5 hm6 nN.out
  have hM6 := blk_moved hM5 hm6 nM.out
  have hB6 := hB5.trans (hm6.below hFg.out hB5.size)
  clear cn hG5 hN5 hM5 hB5 hm6
  have cn := pIds_own m3 hR6
  rw [hs4] at cn
  dsimp only at cn
  rw [hze] at cn
  clear hR6
  go_wp2_with fail
  refine cn.mono ?_
  rintro r w7 ⟨tb, td, rfl, hT7, hloc7, hR7, hm7⟩
  have hG7 := blk_moved hG6 hm7 nG.out
  have hN7 := blk_moved hN6 hm7 nN.out
  have hM7 := blk_moved hM6 hm7 nM.out
  have hB7 := hB6.trans (hm7.below hFg.out hB6.size)
  have hlo := Lib.hid (show ∀ x, tb = some x → w.heap.size ≤ x.block ∧ x.block ≠ G from fun x hx => ⟨Nat.le_trans hB6.size (hloc7 x hx), fun e => by have := hloc7 x hx; have := hG6.lt; omega⟩)
  clear cn hG6 hN6 hM6 hB6 hm7 hloc7
  have cd := pDone_any hR7
  rw [hdn] at cd
  clear hR7
  go_wp2_with fail
  refine cd.mono ?_
  rintro r w8 ⟨rfl, b8⟩
  have hG8 := hG7.keep b8 hG7.lt
  have hN8 := hN7.keep b8 hN7.lt
  have hM8 := hM7.keep b8 hM7.lt
  have hT8 := hT7.keep b8
  have hB8 := hB7.trans (b8.mono hB7.size)
  clear cd hG7 hN7 hM7 hT7 hB7 b8
  by_cases hE0 : E = 0
  · subst hE0
    obtain ⟨hbo, hok, hle, hdk⟩ := hend2H.out rfl
    have hRt8 := Lib.hid (fun w' (h : Below w8.heap.size w8 w') => hRt.out tb td w' (hT8.keep h) hok.2.2.2.2.2 (by omega))
    have hrk : rightK (blkOf xs m4) = rightK ⟨H, P, m4, zs⟩ := by rw [hbo]
    obtain ⟨K, hK⟩ : ∃ K, rightK ⟨H, P, m4, zs⟩ = K := ⟨_, rfl⟩
    rw [hrk, hK, hbo] at hdk
    rw [hK] at hRt8
    have hdkH := Lib.hid hdk
    have hbt := hbt3 tb td
    have hDl8 := hDl tb td
    have hD18 := hD1 tb td
    have hT8H := Lib.hid hT8
    have hG8H := Lib.hid (And.intro hG8 hB8)
    obtain ⟨C, hC⟩ : ∃ C, D tb td = C := ⟨_, rfl⟩
    rw [hC] at hbt hDl8 hD18 hRt8
    have hCH := Lib.hid hC
    clear hbo hok hle hdk hrk hK hend1H hend2H hRt hT8 hG8 hB8 hDl hD1 hbt3 hC
    go_wp2_with (first
      | ((with_reducible refine wpList_load_blk rfl 23 (.tmp 5) rfl ?_ hN8 rowId9 hXl ?_); rfl)
      | ((with_reducible refine wpList_load_blk rfl 23 (.tmp 6) rfl ?_ hM8 rowId9 hYl ?_); rfl)
      | ((with_reducible refine build_row rfl 26 #[(0, .tmp 26), (1, .tmp 27), (2, .tmp 28)] rfl (cells := C.toArray) ?_ ?_); (refine Eq.trans (congrArg _ ?_) hbt; kernel_rfl); refine RowKit.Hid.out ?_))
    refine Lib.hid ?_
    refine wpList_alloc_blk rfl 26 rfl hZ0 ?_
    try simp only [Act.put, List.setIfInBounds_toArray, List.set_cons_zero, List.set_cons_succ]
    have bA := below1 w8 (.cells Z.toArray 26)
    have hOA := Blk.new w8 26 Z
    have hGl : G < w8.heap.size := hG8H.out.1.lt
    obtain ⟨O, hO⟩ : ∃ N, w8.heap.size = N := ⟨_, rfl⟩
    rw [hO] at hOA hGl ⊢
    have nGO := Lib.hid hGl
    obtain ⟨U, hU⟩ : ∃ W, w8.alloc (.cells Z.toArray 26) = W := ⟨_, rfl⟩
    rw [hU] at bA hOA ⊢
    have hOH := Lib.hid hO
    clear hU hO hGl hN8 hM8
    refine store_row rfl 26 (.tmp 9) (.tmp 29) rfl rfl rfl hOA rowBk hDl8 hZl hD18 ?_
    intro w9 hO9 hg9
    have b9 : Below w8.heap.size w8 w9 := bA.grown hg9 bA.size (fun q hq => by injection hq with hq; have := hOH.out; omega)
    clear bA hOA hg9
    have b9H := Lib.hid b9
    have cr := hRt8.out w9 b9
    clear hRt8 b9
    go_wp2_with ((with_reducible refine wpList_load_blk rfl 26 (.tmp 9) rfl ?_ hO9 rowBk hDl8 ?_); rfl)
    refine cr.mono ?_
    rintro r w10 ⟨rfl, b10⟩
    have hO10 := hO9.keep b10 hO9.lt
    have bb : Below w8.heap.size w8 w10 := b9H.out.trans (b10.mono b9H.out.size)
    have hG10 := hG8H.out.1.keep bb hG8H.out.1.lt
    have hB10 := hG8H.out.2.trans (bb.mono hG8H.out.2.size)
    have hT10 := hT8H.out.keep bb
    clear cr hO9 b10 bb b9H hG8H hT8H
    cases K with
    | true =>
      go_wp2_with ((with_reducible refine wpList_load_blk rfl 26 (.tmp 9) rfl ?_ hO10 rowBk hDl8 ?_); rfl; refine RowKit.Hid.out ?_)
      refine Lib.hid ?_
      try simp only [Act.put, List.setIfInBounds_toArray, List.set_cons_zero, List.set_cons_succ]
      refine store_row rfl 26 (.tmp 2) (.tmp 34) rfl rfl rfl hG10 rowBk hDl8 hZl hD18 ?_
      intro wY hGY hgY
      have hrC : IsRow Try.prog 26 C.length := by rw [hDl8]; exact rowBk
      have hBY := hB10.grown hgY hB10.size (fun q hq => by injection hq with hq; have := gH.out; omega)
      have hTY : IdsAt wY tb m4 td zs := by
        refine ⟨hT10.1, hT10.2.1, ?_⟩
        rcases hT10.2.2 with h0 | ⟨b', off, ha, hc⟩
        · exact .inl h0
        · exact .inr ⟨b', off, ha, fun i hi => hgY.cell (hc i hi) (fun e => by injection e with e; exact (hlo.out _ ha).2 e)⟩
      go_wp2_with fail
      refine bodyPost_ret (results_blk_tmp rfl rfl hGY hrC) rfl ?_
      unfold DecEndB
      rw [hdkH.out]
      refine ⟨tb, td, ?_, hTY, fun x hx => (hlo.out x hx).1, hBY⟩
      rw [← hCH.out, ← hDeH.out]
      rfl
    | false =>
      go_wp2_with ((with_reducible refine build_row rfl 26 #[] rfl (cells := Z.toArray) ?_ ?_); (refine Eq.trans (congrArg _ ?_) hbt0; kernel_rfl); refine RowKit.Hid.out ?_)
      refine Lib.hid ?_
      try simp only [Act.put, List.setIfInBounds_toArray, List.set_cons_zero, List.set_cons_succ]
      refine store_row rfl 26 (.tmp 2) (.tmp 33) rfl rfl rfl hG10 rowBk hZl hZl hZ1 ?_
      intro wY hGY hgY
      have hrZ : IsRow Try.prog 26 Z.length := by rw [hZl]; exact rowBk
      have hBY := hB10.grown hgY hB10.size (fun q hq => by injection hq with hq; have := gH.out; omega)
      go_wp2_with fail
      refine bodyPost_ret (results_blk_tmp rfl rfl hGY hrZ) rfl ?_
      unfold DecEndB
      rw [hdkH.out]
      exact ⟨none, 0, by rw [← hZH.out]; rfl, ids_nil _, (fun x hx => by cases hx), hBY⟩
  · have hnz : ¬ E = 0 := hE0
    have hnb : (E != 0) = true := bne_iff_ne.2 hE0
    have hdk := hend1H.out hE0
    have hdkH := Lib.hid hdk
    clear hN8 hM8 hT8 hdk hend1H hend2H hRt
    go_wp2_with ((with_reducible refine build_row rfl 26 #[] rfl (cells := Z.toArray) ?_ ?_); (refine Eq.trans (congrArg _ ?_) hbt0; kernel_rfl); refine RowKit.Hid.out ?_)
    refine Lib.hid ?_
    refine wpList_mv rfl (.tmp 8) rfl rfl ?_
    try simp only [Act.put, List.setIfInBounds_toArray, List.set_cons_zero, List.set_cons_succ]
    refine store_row rfl 26 (.tmp 2) (.tmp 24) rfl rfl rfl hG8 rowBk hZl hZl hZ1 ?_
    intro wY hGY hgY
    have hrZ : IsRow Try.prog 26 Z.length := by rw [hZl]; exact rowBk
    have hBY := hB8.grown hgY hB8.size (fun q hq => by injection hq with hq; have := gH.out; omega)
    go_wp2_with fail
    refine bodyPost_ret (results_blk_tmp rfl rfl hGY hrZ) rfl ?_
    unfold DecEndB
    rw [hdkH.out]
    exact ⟨none, 0, by rw [← hZH.out]; rfl, ids_nil _, (fun x hx => by cases hx), hBY⟩
end Go.Proofs.Ytndodckcncejiaa

/-
  The document's own Decode of a block (with its id), where the bytes are none's. New memory alone is written. Conditions: bytes below 256, at most a million.
-/
namespace Go.Proofs.Ytndodckcncejiaa
open Go.RowKit

set_option maxRecDepth 100000 in
set_option maxHeartbeats 1000000 in
theorem r16id_any (a : Option Addr) (n c : Nat) (xs : List Int) (p : Nat) (w : World) (hI : Ints .u8 w a n c xs) (hp : p + 32 ≤ n) (hn : n ≤ 1000000) :
    Calls Try.prog 35 #[.slice a n c, .int .i64 (p : Int)] w fun e w' => e = .returned (.agg (((xs.drop p).take 32).map (Value.int .u8)).toArray) ∧ Below w.heap.size w w' := by
  have hln := hI.len
  have hYC : ∀ k, k < 32 → (((xs.drop p).take 32).map (Value.int .u8))[k]? = some (.int .u8 (xs.getD (p + k) 0)) := fun k hk => by
    rw [List.getElem?_map, List.getElem?_take_of_lt hk, List.getElem?_drop, List.getD_eq_getElem?_getD, List.getElem?_eq_getElem (by omega)]; rfl
  have hlH : (((xs.drop p).take 32).map (Value.int .u8)).length = 32 := by rw [List.length_map, List.length_take, List.length_drop]; omega
  have HO1 := Lib.hid (u8_one ((xs.drop p).take 32))
  obtain ⟨Y, hY⟩ : ∃ Y, ((xs.drop p).take 32).map (Value.int .u8) = Y := ⟨_, rfl⟩
  rw [hY] at hYC hlH HO1
  rw [hY]
  obtain ⟨Z, hZ⟩ : ∃ Z, List.replicate 32 (Value.int .u8 0) = Z := ⟨_, rfl⟩
  have hZl : Z.length = 32 := by rw [← hZ]; rfl
  have hZ0 : Zero Try.prog 23 Z := by rw [← hZ]; exact zeroId9
  obtain ⟨b, off, rfl, hat⟩ := hI.at (by omega)
  have hatH := Lib.hid hat
  obtain ⟨g, hg⟩ : ∃ g, w.heap.size = g := ⟨_, rfl⟩
  obtain ⟨W0, hW0⟩ : ∃ W0, (w.alloc (.cells Z.toArray 23)).alloc (.cells Z.toArray 23) = W0 := ⟨_, rfl⟩
  have hr0 : Blk W0 g 23 Z := by rw [← hW0, ← hg]; exact (Blk.new w _ _).alloc _
  have hh0 : Blk W0 (g + 1) 23 (mixed Y Z 0) := by
    rw [mixed_zero, ← hW0, ← hg]
    exact Blk.new1 w _ _ _
  have hB0 : Below g w W0 := by rw [← hW0, ← hg]; exact below2 w _ _
  have hYH := Lib.hid hYC
  have hlYH := Lib.hid hlH
  have hnH := Lib.hid (And.intro hp hn)
  clear hY hYC hZ hlH hat hI hn hp hln
  go_enter Try.func35, Try.ntmps35
  go_wp2_with (with_reducible refine wpList_alloc_blk rfl 23 rfl hZ0 ?_)
  have hgH := Lib.hid hg
  clear hW0 hg
  go_loopw [6] (fun i wr => ∃ k : Nat, k ≤ 32 ∧ i = .int .i64 k ∧ Blk wr (g + 1) 23 (mixed Y Z k) ∧ Blk wr g 23 Z ∧ Below g w wr) (fun i _ => 32 - (intOf i).toNat)
  case atStart => exact ⟨0, by omega, rfl, hh0, hr0, hB0⟩
  case round =>
    clear hh0 hr0 hB0
    obtain ⟨k, hk, rfl, hh, hr, hB⟩ := hrel
    by_cases hlt : k < 32
    · have ce0 := hatH.out (p + k) (by have := hnH.out; omega)
      have ce := (hB.cell (by rw [← hgH.out]; exact World.block_lt_of_cell? w _ ce0)).trans ce0
      have ch := hh.cell k
      rw [mixed_at Y Z k 32 hlYH.out hZl hlt] at ch
      obtain ⟨zv, hzv⟩ : ∃ zv, Z[k]? = some zv := ⟨Z[k]'(by omega), List.getElem?_eq_getElem (by omega)⟩
      rw [hzv] at ch
      have fh : wr.frozen? ⟨g + 1, k, none⟩ = false := Blk.frozen hh k
      have hset := hh.set k (.int .u8 (xs.getD (p + k) 0))
      rw [mixed_set Y Z k 32 hlYH.out hZl hlt _ (hYH.out k hlt)] at hset
      obtain ⟨xv, hxv⟩ : ∃ xv, xs.getD (p + k) 0 = xv := ⟨_, rfl⟩
      rw [hxv] at ce hset
      have hsetH := Lib.hid hset
      have hr2 := Lib.hid (hr.far (p := ⟨g + 1, k, none⟩) (by simp) (.int .u8 xv))
      have hB2 := Lib.hid (hB.setCell (p := ⟨g + 1, k, none⟩) (by simp) (.int .u8 xv))
      have hki : (k : Int) < 32 := by omega
      have hpk : (p : Int) + 32 ≤ (n : Int) := by have := hnH.out; omega
      have hnm : (n : Int) ≤ 1000000 := by have := hnH.out; omega
      have hltH := Lib.hid hlt
      clear hlt hk hset hh hr hB hzv hxv ce0
      go_wp2
      go_roundw
      case rel => exact ⟨k + 1, by have := hltH.out; omega, by go_num, hsetH.out, hr2.out, hB2.out⟩
      case measure => have := hltH.out; simp [intOf]; omega
    · obtain rfl : k = 32 := by omega
      have hh : Blk wr (g + 1) 23 Y := hh.cast (mixed_all Y Z 32 hlYH.out hZl)
      have HOF := Lib.hid (show 0 + Y.length ≤ Z.length by rw [hlYH.out, hZl]; decide)
      have hIr : IsRow Try.prog 23 Y.length := by rw [hlYH.out]; exact rowId9
      have hrowY : IsRow Try.prog 23 32 := rowId9
      go_wp2_with (first
        | ((refine wpList_load_blk rfl 23 (.tmp 5) rfl ?_ hh hrowY hlYH.out ?_); rfl)
        | ((with_reducible refine wpList_store_part rfl 23 (.tmp 4) (.tmp 19) rfl ?_ ?_ hr hIr HOF.out HO1.out ?_); rfl; rfl; intro w9 hR9 hg9))
      rw [overV_all _ _ (by rw [hlYH.out, hZl])] at hR9
      (try simp only [Exit.inBlock, Exit.then])
      refine bodyPost_ret (results_blk rfl rfl hR9 hIr) rfl ?_
      refine ⟨rfl, ?_⟩
      rw [hgH.out]
      exact hB.trans (below_of_grown hg9 (Nat.le_refl g) hr.lt)

set_option maxRecDepth 100000 in
set_option maxHeartbeats 4000000 in
theorem r16Decode_few (a : Option Addr) (n c : Nat) (xs : List Int) (w : World) (hI : Ints .u8 w a n c xs) (h65 : n < 65) :
    Calls Try.prog 14 #[.slice a n c] w (DecEndB xs w) := by
  have hln := hI.len
  obtain ⟨Z, hZ⟩ : ∃ Z, bkC z32 z32 none 0 0 = Z := ⟨_, rfl⟩
  have hZ0 : Zero Try.prog 26 Z := by rw [← hZ]; exact zeroBk
  have hZl : Z.length = 65 := by rw [← hZ]; exact bkC_len rfl rfl
  have hZ1 : ∀ v ∈ Z, v.oneCell' = true := by rw [← hZ]; exact bkC_one _ _ _ _ _
  have hbt0 : Try.prog.built 26 [] = some Z.toArray := by rw [← hZ]; exact built_bk0
  have hZH := Lib.hid hZ
  clear hZ
  have hb := below1 w (.cells Z.toArray 26)
  have hk : Blk (w.alloc (.cells Z.toArray 26)) w.heap.size 26 Z := Blk.new w _ _
  obtain ⟨V, hV⟩ : ∃ V, w.alloc (.cells Z.toArray 26) = V := ⟨_, rfl⟩
  rw [hV] at hb hk
  obtain ⟨G, g9⟩ : ∃ G, w.heap.size = G := ⟨_, rfl⟩
  rw [g9] at hk
  have hIH := Lib.hid hI
  clear hI
  have hdkH := Lib.hid (show decK xs = (noBlk, 2) by unfold decK; rw [if_pos (by omega)])
  have h65i : (n : Int) < 65 := by omega
  clear h65 hln
  go_enter Try.func14, Try.ntmps14
  go_wp2_with (first
    | ((with_reducible refine wpList_alloc_blk rfl 26 rfl hZ0 ?_))
    | ((with_reducible refine build_row rfl 26 #[] rfl (cells := Z.toArray) ?_ ?_); (refine Eq.trans (congrArg _ ?_) hbt0; kernel_rfl); refine RowKit.Hid.out ?_))
  refine Lib.hid ?_
  refine wpList_alloc_blk rfl 26 rfl hZ0 ?_
  try simp only [Act.put, List.setIfInBounds_toArray, List.set_cons_zero, List.set_cons_succ]
  try simp only [hV]
  have hGA := hk.alloc (.cells Z.toArray 26)
  have hNA := Blk.new V 26 Z
  have hBA := hb.alloc hb.size (.cells Z.toArray 26)
  have hnG : G < V.heap.size := hk.lt
  obtain ⟨N, hN⟩ : ∃ N, V.heap.size = N := ⟨_, rfl⟩
  rw [hN] at hNA hnG
  try rw [hN]
  have nGN := Lib.hid hnG
  obtain ⟨U, hU⟩ : ∃ W, V.alloc (.cells Z.toArray 26) = W := ⟨_, rfl⟩
  rw [hU] at hGA hNA hBA
  try rw [hU]
  have gH := Lib.hid g9
  clear hk hb hN hU hnG hV g9
  refine store_row rfl 26 (.tmp 4) (.tmp 8) rfl rfl rfl hNA rowBk hZl hZl hZ1 ?_
  intro w1 hN1 hg1
  have hG1 := hGA.grown hg1 (fun e => by injection e with e; have := nGN.out; omega)
  have hB1 := hBA.grown hg1 hBA.size (fun q hq => by injection hq with hq; have := nGN.out; have := gH.out; omega)
  clear hGA hNA hBA hg1
  go_wp2_with ((with_reducible refine wpList_load_blk rfl 26 (.tmp 4) rfl ?_ hN1 rowBk hZl ?_); rfl; refine RowKit.Hid.out ?_)
  refine Lib.hid ?_
  try simp only [Act.put, List.setIfInBounds_toArray, List.set_cons_zero, List.set_cons_succ]
  refine store_row rfl 26 (.tmp 2) _ rfl rfl rfl hG1 rowBk hZl hZl hZ1 ?_
  intro wY hGY hgY
  have hrZ : IsRow Try.prog 26 Z.length := by rw [hZl]; exact rowBk
  have hBY := hB1.grown hgY hB1.size (fun q hq => by injection hq with hq; have := gH.out; omega)
  go_wp2_with fail
  refine bodyPost_ret (results_blk_tmp rfl rfl hGY hrZ) rfl ?_
  unfold DecEndB
  rw [hdkH.out]
  exact ⟨none, 0, by rw [← hZH.out]; rfl, ids_nil _, (fun x hx => by cases hx), hBY⟩

set_option maxRecDepth 100000 in
set_option maxHeartbeats 4000000 in
theorem r16Decode_many (b off : Nat) (n c : Nat) (xs : List Int) (M : Nat) (w : World) (hI : Ints .u8 w (some ⟨b, off, none⟩) n c xs) (h65 : ¬ n < 65) (hNe : xs.getD 64 0 = (M : Int)) (hM : M < 256) (h32 : 32 < M) :
    Calls Try.prog 14 #[.slice (some ⟨b, off, none⟩) n c] w (DecEndB xs w) := by
  have hln := hI.len
  obtain ⟨Z, hZ⟩ : ∃ Z, bkC z32 z32 none 0 0 = Z := ⟨_, rfl⟩
  have hZ0 : Zero Try.prog 26 Z := by rw [← hZ]; exact zeroBk
  have hZl : Z.length = 65 := by rw [← hZ]; exact bkC_len rfl rfl
  have hZ1 : ∀ v ∈ Z, v.oneCell' = true := by rw [← hZ]; exact bkC_one _ _ _ _ _
  have hbt0 : Try.prog.built 26 [] = some Z.toArray := by rw [← hZ]; exact built_bk0
  have hZH := Lib.hid hZ
  clear hZ
  have hb := below1 w (.cells Z.toArray 26)
  have hk : Blk (w.alloc (.cells Z.toArray 26)) w.heap.size 26 Z := Blk.new w _ _
  obtain ⟨V, hV⟩ : ∃ V, w.alloc (.cells Z.toArray 26) = V := ⟨_, rfl⟩
  rw [hV] at hb hk
  obtain ⟨G, g9⟩ : ∃ G, w.heap.size = G := ⟨_, rfl⟩
  rw [g9] at hk
  have hIH := Lib.hid hI
  clear hI
  have hdkH := Lib.hid (show decK xs = (noBlk, 4) by unfold decK; rw [if_neg (by omega), hNe, if_pos (by omega)])
  have h65i : ¬ (n : Int) < 65 := by omega
  have h32i : (32 : Int) < (M : Int) := by omega
  have hMi : (M : Int) < 256 := by omega
  go_enter Try.func14, Try.ntmps14
  go_wp2_with (first
    | ((with_reducible refine wpList_alloc_blk rfl 26 rfl hZ0 ?_))
    | ((with_reducible refine build_row rfl 26 #[] rfl (cells := Z.toArray) ?_ ?_); (refine Eq.trans (congrArg _ ?_) hbt0; kernel_rfl); refine RowKit.Hid.out ?_))
  refine Lib.hid ?_
  refine wpList_alloc_blk rfl 26 rfl hZ0 ?_
  try simp only [Act.put, List.setIfInBounds_toArray, List.set_cons_zero, List.set_cons_succ]
  try simp only [hV]
  have hGA := hk.alloc (.cells Z.toArray 26)
  have hNA := Blk.new V 26 Z
  have hBA := hb.alloc hb.size (.cells Z.toArray 26)
  have hnG : G < V.heap.size := hk.lt
  obtain ⟨N, hN⟩ : ∃ N, V.heap.size = N := ⟨_, rfl⟩
  rw [hN] at hNA hnG
  try rw [hN]
  have nGN := Lib.hid hnG
  obtain ⟨U, hU⟩ : ∃ W, V.alloc (.cells Z.toArray 26) = W := ⟨_, rfl⟩
  rw [hU] at hGA hNA hBA
  try rw [hU]
  have gH := Lib.hid g9
  clear hk hb hN hU hnG hV g9
  refine store_row rfl 26 (.tmp 4) (.tmp 8) rfl rfl rfl hNA rowBk hZl hZl hZ1 ?_
  intro w1 hN1 hg1
  have hG1 := hGA.grown hg1 (fun e => by injection e with e; have := nGN.out; omega)
  have hB1 := hBA.grown hg1 hBA.size (fun q hq => by injection hq with hq; have := nGN.out; have := gH.out; omega)
  clear hGA hNA hBA hg1
  have hI1 := hIH.out.keep hB1
  obtain ⟨_, _, h0 | ⟨b', off', hab, hat⟩⟩ := hI1
  · omega
  injection hab with hab
  injection hab with hb1 hb2
  subst hb1; subst hb2
  have c64 := hat 64 (by omega)
  rw [hNe] at c64
  clear hat
  clear h65 hln hM h32 hNe
  go_wp2_with ((with_reducible refine wpList_load_blk rfl 26 (.tmp 4) rfl ?_ hN1 rowBk hZl ?_); rfl; refine RowKit.Hid.out ?_)
  refine Lib.hid ?_
  try simp only [Act.put, List.setIfInBounds_toArray, List.set_cons_zero, List.set_cons_succ]
  refine store_row rfl 26 (.tmp 2) _ rfl rfl rfl hG1 rowBk hZl hZl hZ1 ?_
  intro wY hGY hgY
  have hrZ : IsRow Try.prog 26 Z.length := by rw [hZl]; exact rowBk
  have hBY := hB1.grown hgY hB1.size (fun q hq => by injection hq with hq; have := gH.out; omega)
  go_wp2_with fail
  refine bodyPost_ret (results_blk_tmp rfl rfl hGY hrZ) rfl ?_
  unfold DecEndB
  rw [hdkH.out]
  exact ⟨none, 0, by rw [← hZH.out]; rfl, ids_nil _, (fun x hx => by cases hx), hBY⟩

set_option maxRecDepth 100000 in
set_option maxHeartbeats 4000000 in
theorem r16Decode_short (b off : Nat) (n c : Nat) (xs : List Int) (M : Nat) (w : World) (hI : Ints .u8 w (some ⟨b, off, none⟩) n c xs) (h65 : ¬ n < 65) (hNe : xs.getD 64 0 = (M : Int)) (h32 : M ≤ 32) (hs : n < 65 + 32 * M) :
    Calls Try.prog 14 #[.slice (some ⟨b, off, none⟩) n c] w (DecEndB xs w) := by
  have hln := hI.len
  obtain ⟨Z, hZ⟩ : ∃ Z, bkC z32 z32 none 0 0 = Z := ⟨_, rfl⟩
  have hZ0 : Zero Try.prog 26 Z := by rw [← hZ]; exact zeroBk
  have hZl : Z.length = 65 := by rw [← hZ]; exact bkC_len rfl rfl
  have hZ1 : ∀ v ∈ Z, v.oneCell' = true := by rw [← hZ]; exact bkC_one _ _ _ _ _
  have hbt0 : Try.prog.built 26 [] = some Z.toArray := by rw [← hZ]; exact built_bk0
  have hZH := Lib.hid hZ
  clear hZ
  have hb := below1 w (.cells Z.toArray 26)
  have hk : Blk (w.alloc (.cells Z.toArray 26)) w.heap.size 26 Z := Blk.new w _ _
  obtain ⟨V, hV⟩ : ∃ V, w.alloc (.cells Z.toArray 26) = V := ⟨_, rfl⟩
  rw [hV] at hb hk
  obtain ⟨G, g9⟩ : ∃ G, w.heap.size = G := ⟨_, rfl⟩
  rw [g9] at hk
  have hIH := Lib.hid hI
  clear hI
  have hdkH := Lib.hid (show decK xs = (noBlk, 2) by unfold decK; rw [if_neg (by omega), hNe, if_neg (by omega), Int.toNat_natCast, if_pos (by omega)])
  have h65i : ¬ (n : Int) < 65 := by omega
  have h32i : ¬ (32 : Int) < (M : Int) := by omega
  have hMi : (M : Int) ≤ 32 := by omega
  have hsi : (n : Int) < 65 + 32 * (M : Int) := by omega
  go_enter Try.func14, Try.ntmps14
  go_wp2_with (first
    | ((with_reducible refine wpList_alloc_blk rfl 26 rfl hZ0 ?_))
    | ((with_reducible refine build_row rfl 26 #[] rfl (cells := Z.toArray) ?_ ?_); (refine Eq.trans (congrArg _ ?_) hbt0; kernel_rfl); refine RowKit.Hid.out ?_))
  refine Lib.hid ?_
  refine wpList_alloc_blk rfl 26 rfl hZ0 ?_
  try simp only [Act.put, List.setIfInBounds_toArray, List.set_cons_zero, List.set_cons_succ]
  try simp only [hV]
  have hGA := hk.alloc (.cells Z.toArray 26)
  have hNA := Blk.new V 26 Z
  have hBA := hb.alloc hb.size (.cells Z.toArray 26)
  have hnG : G < V.heap.size := hk.lt
  obtain ⟨N, hN⟩ : ∃ N, V.heap.size = N := ⟨_, rfl⟩
  rw [hN] at hNA hnG
  try rw [hN]
  have nGN := Lib.hid hnG
  obtain ⟨U, hU⟩ : ∃ W, V.alloc (.cells Z.toArray 26) = W := ⟨_, rfl⟩
  rw [hU] at hGA hNA hBA
  try rw [hU]
  have gH := Lib.hid g9
  clear hk hb hN hU hnG hV g9
  refine store_row rfl 26 (.tmp 4) (.tmp 8) rfl rfl rfl hNA rowBk hZl hZl hZ1 ?_
  intro w1 hN1 hg1
  have hG1 := hGA.grown hg1 (fun e => by injection e with e; have := nGN.out; omega)
  have hB1 := hBA.grown hg1 hBA.size (fun q hq => by injection hq with hq; have := nGN.out; have := gH.out; omega)
  clear hGA hNA hBA hg1
  have hI1 := hIH.out.keep hB1
  obtain ⟨_, _, h0 | ⟨b', off', hab, hat⟩⟩ := hI1
  · omega
  injection hab with hab
  injection hab with hb1 hb2
  subst hb1; subst hb2
  have c64 := hat 64 (by omega)
  rw [hNe] at c64
  clear hat
  clear h65 hln h32 hNe hs
  go_wp2_with ((with_reducible refine wpList_load_blk rfl 26 (.tmp 4) rfl ?_ hN1 rowBk hZl ?_); rfl; refine RowKit.Hid.out ?_)
  refine Lib.hid ?_
  try simp only [Act.put, List.setIfInBounds_toArray, List.set_cons_zero, List.set_cons_succ]
  refine store_row rfl 26 (.tmp 2) _ rfl rfl rfl hG1 rowBk hZl hZl hZ1 ?_
  intro wY hGY hgY
  have hrZ : IsRow Try.prog 26 Z.length := by rw [hZl]; exact rowBk
  have hBY := hB1.grown hgY hB1.size (fun q hq => by injection hq with hq; have := gH.out; omega)
  go_wp2_with fail
  refine bodyPost_ret (results_blk_tmp rfl rfl hGY hrZ) rfl ?_
  unfold DecEndB
  rw [hdkH.out]
  exact ⟨none, 0, by rw [← hZH.out]; rfl, ids_nil _, (fun x hx => by cases hx), hBY⟩

set_option maxRecDepth 100000 in
set_option maxHeartbeats 4000000 in
theorem r16Decode_long (b off : Nat) (n c : Nat) (xs : List Int) (M : Nat) (w : World) (hI : Ints .u8 w (some ⟨b, off, none⟩) n c xs) (h65 : ¬ n < 65) (hNe : xs.getD 64 0 = (M : Int)) (h32 : M ≤ 32) (hs : 65 + 32 * M < n) :
    Calls Try.prog 14 #[.slice (some ⟨b, off, none⟩) n c] w (DecEndB xs w) := by
  have hln := hI.len
  obtain ⟨Z, hZ⟩ : ∃ Z, bkC z32 z32 none 0 0 = Z := ⟨_, rfl⟩
  have hZ0 : Zero Try.prog 26 Z := by rw [← hZ]; exact zeroBk
  have hZl : Z.length = 65 := by rw [← hZ]; exact bkC_len rfl rfl
  have hZ1 : ∀ v ∈ Z, v.oneCell' = true := by rw [← hZ]; exact bkC_one _ _ _ _ _
  have hbt0 : Try.prog.built 26 [] = some Z.toArray := by rw [← hZ]; exact built_bk0
  have hZH := Lib.hid hZ
  clear hZ
  have hb := below1 w (.cells Z.toArray 26)
  have hk : Blk (w.alloc (.cells Z.toArray 26)) w.heap.size 26 Z := Blk.new w _ _
  obtain ⟨V, hV⟩ : ∃ V, w.alloc (.cells Z.toArray 26) = V := ⟨_, rfl⟩
  rw [hV] at hb hk
  obtain ⟨G, g9⟩ : ∃ G, w.heap.size = G := ⟨_, rfl⟩
  rw [g9] at hk
  have hIH := Lib.hid hI
  clear hI
  have hdkH := Lib.hid (show decK xs = (noBlk, 3) by unfold decK; rw [if_neg (by omega), hNe, if_neg (by omega), Int.toNat_natCast, if_neg (by omega), if_pos (by omega)])
  have h65i : ¬ (n : Int) < 65 := by omega
  have h32i : ¬ (32 : Int) < (M : Int) := by omega
  have hMi : (M : Int) ≤ 32 := by omega
  have hsi : ¬ (n : Int) < 65 + 32 * (M : Int) := by omega
  have hli : 65 + 32 * (M : Int) < (n : Int) := by omega
  go_enter Try.func14, Try.ntmps14
  go_wp2_with (first
    | ((with_reducible refine wpList_alloc_blk rfl 26 rfl hZ0 ?_))
    | ((with_reducible refine build_row rfl 26 #[] rfl (cells := Z.toArray) ?_ ?_); (refine Eq.trans (congrArg _ ?_) hbt0; kernel_rfl); refine RowKit.Hid.out ?_))
  refine Lib.hid ?_
  refine wpList_alloc_blk rfl 26 rfl hZ0 ?_
  try simp only [Act.put, List.setIfInBounds_toArray, List.set_cons_zero, List.set_cons_succ]
  try simp only [hV]
  have hGA := hk.alloc (.cells Z.toArray 26)
  have hNA := Blk.new V 26 Z
  have hBA := hb.alloc hb.size (.cells Z.toArray 26)
  have hnG : G < V.heap.size := hk.lt
  obtain ⟨N, hN⟩ : ∃ N, V.heap.size = N := ⟨_, rfl⟩
  rw [hN] at hNA hnG
  try rw [hN]
  have nGN := Lib.hid hnG
  obtain ⟨U, hU⟩ : ∃ W, V.alloc (.cells Z.toArray 26) = W := ⟨_, rfl⟩
  rw [hU] at hGA hNA hBA
  try rw [hU]
  have gH := Lib.hid g9
  clear hk hb hN hU hnG hV g9
  refine store_row rfl 26 (.tmp 4) (.tmp 8) rfl rfl rfl hNA rowBk hZl hZl hZ1 ?_
  intro w1 hN1 hg1
  have hG1 := hGA.grown hg1 (fun e => by injection e with e; have := nGN.out; omega)
  have hB1 := hBA.grown hg1 hBA.size (fun q hq => by injection hq with hq; have := nGN.out; have := gH.out; omega)
  clear hGA hNA hBA hg1
  have hI1 := hIH.out.keep hB1
  obtain ⟨_, _, h0 | ⟨b', off', hab, hat⟩⟩ := hI1
  · omega
  injection hab with hab
  injection hab with hb1 hb2
  subst hb1; subst hb2
  have c64 := hat 64 (by omega)
  rw [hNe] at c64
  clear hat
  clear h65 hln h32 hNe hs
  go_wp2_with ((with_reducible refine wpList_load_blk rfl 26 (.tmp 4) rfl ?_ hN1 rowBk hZl ?_); rfl; refine RowKit.Hid.out ?_)
  refine Lib.hid ?_
  try simp only [Act.put, List.setIfInBounds_toArray, List.set_cons_zero, List.set_cons_succ]
  refine store_row rfl 26 (.tmp 2) _ rfl rfl rfl hG1 rowBk hZl hZl hZ1 ?_
  intro wY hGY hgY
  have hrZ : IsRow Try.prog 26 Z.length := by rw [hZl]; exact rowBk
  have hBY := hB1.grown hgY hB1.size (fun q hq => by injection hq with hq; have := gH.out; omega)
  go_wp2_with fail
  refine bodyPost_ret (results_blk_tmp rfl rfl hGY hrZ) rfl ?_
  unfold DecEndB
  rw [hdkH.out]
  exact ⟨none, 0, by rw [← hZH.out]; rfl, ids_nil _, (fun x hx => by cases hx), hBY⟩
end Go.Proofs.Ytndodckcncejiaa

/-
  The document's own Decode of a block, whole. New memory alone is written. Conditions: bytes below 256, at most a million.
-/
namespace Go.Proofs.Ytndodckcncejiaa
open Go.RowKit

set_option maxRecDepth 100000 in
set_option maxHeartbeats 4000000 in
theorem r16Decode_ok (b off : Nat) (n c : Nat) (xs : List Int) (M : Nat) (w : World) (hI : Ints .u8 w (some ⟨b, off, none⟩) n c xs) (hNe : xs.getD 64 0 = (M : Int)) (h32 : M ≤ 32) (hs : n = 65 + 32 * M) :
    Calls Try.prog 14 #[.slice (some ⟨b, off, none⟩) n c] w (DecEndB xs w) := by
  have hln := hI.len
  obtain ⟨Z, hZ⟩ : ∃ Z, bkC z32 z32 none 0 0 = Z := ⟨_, rfl⟩
  have hZ0 : Zero Try.prog 26 Z := by rw [← hZ]; exact zeroBk
  have hZl : Z.length = 65 := by rw [← hZ]; exact bkC_len rfl rfl
  have hZ1 : ∀ v ∈ Z, v.oneCell' = true := by rw [← hZ]; exact bkC_one _ _ _ _ _
  have hbt0 : Try.prog.built 26 [] = some Z.toArray := by rw [← hZ]; exact built_bk0
  have hZH := Lib.hid hZ
  clear hZ
  have hb := below1 w (.cells Z.toArray 26)
  have hk : Blk (w.alloc (.cells Z.toArray 26)) w.heap.size 26 Z := Blk.new w _ _
  obtain ⟨V, hV⟩ : ∃ V, w.alloc (.cells Z.toArray 26) = V := ⟨_, rfl⟩
  rw [hV] at hb hk
  obtain ⟨G, g9⟩ : ∃ G, w.heap.size = G := ⟨_, rfl⟩
  rw [g9] at hk
  have hIH := Lib.hid hI
  clear hI
  have h65i : ¬ (n : Int) < 65 := by omega
  have h32i : ¬ (32 : Int) < (M : Int) := by omega
  have hMi : (M : Int) ≤ 32 := by omega
  have hsi : ¬ (n : Int) < 65 + 32 * (M : Int) := by omega
  have hli : ¬ 65 + 32 * (M : Int) < (n : Int) := by omega
  have hMH := Lib.hid h32
  have hnH := Lib.hid hs
  obtain ⟨i0, hi, hz0, hz1, hz2⟩ := info_id9
  have hdk : decK xs = if rightK (blkOf xs M) = true then (blkOf xs M, 0) else (noBlk, 4) := by unfold decK; rw [if_neg (by omega), hNe, if_neg (by omega), Int.toNat_natCast, if_neg (by omega), if_neg (by omega)]
  have hH : (xs.take 32).length = 32 := by rw [List.length_take]; omega
  have hP : ((xs.drop 32).take 32).length = 32 := by rw [List.length_take, List.length_drop]; omega
  have hzl : (xs.drop 65).length = 32 * M := by rw [List.length_drop]; omega
  have hid := fun (p : Nat) w' (h : Below w.heap.size w w') (hp : p + 32 ≤ n) => r16id_any (some ⟨b, off, none⟩) n c xs p w' (hIH.out.keep h) hp (by omega)
  have hlp := Lib.hid (fun (p : Nat) (hp : p + 32 ≤ n) => show (((xs.drop p).take 32).map (Value.int .u8)).length = 32 by rw [List.length_map, List.length_take, List.length_drop]; omega)
  have hop := Lib.hid (fun (p : Nat) => u8_one ((xs.drop p).take 32))
  obtain ⟨D, hD⟩ : ∃ D : Option Addr → Nat → Nat → List Value, ∀ b j d, bkC (xs.take 32) ((xs.drop 32).take 32) b j d = D b j d := ⟨_, fun _ _ _ => rfl⟩
  have hDl := Lib.hid (fun b j d => show (D b j d).length = 65 by rw [← hD]; exact bkC_len hH hP)
  have hD1 := Lib.hid (fun b j d => show ∀ v ∈ D b j d, v.oneCell' = true by rw [← hD]; exact bkC_one _ _ _ _ _)
  have hset := Lib.hid (fun b j d b' j' d' => show (D b j d).set 64 (.slice b' j' d') = D b' j' d' by rw [← hD, ← hD]; exact bkC_set hH hP b' j' d')
  have hc64 := Lib.hid (fun w' g b j d (h : Blk w' g 26 (D b j d)) => show w'.cell? ⟨g, 64, none⟩ = some (.slice b j d) by rw [← hD] at h; exact bk2 h hH hP)
  obtain ⟨K, hK⟩ : ∃ K, rightK (blkOf xs M) = K := ⟨_, rfl⟩
  rw [hK] at hdk
  have hRt := Lib.hid (fun tb td w' (hT : IdsAt w' tb M td (xs.drop 65)) => show Calls Try.prog 11 #[.agg (D tb M td).toArray] w' fun q w'' => q = .returned (.bool K) ∧ Below w'.heap.size w' w'' by
    have := r16Right_any (xs.take 32) ((xs.drop 32).take 32) tb M td (xs.drop 65) w' hH hP hT (by omega)
    rw [hD, show rightK ⟨xs.take 32, (xs.drop 32).take 32, M, xs.drop 65⟩ = K from hK] at this
    exact this)
  have hcells := Lib.hid (fun tb td => show D tb M td = bC (blkOf xs M) tb td by rw [← hD]; rfl)
  have hbt2 : Try.prog.built 26 [(0, .agg ((xs.take 32).map (Value.int .u8)).toArray), (1, .agg (((xs.drop 32).take 32).map (Value.int .u8)).toArray)] = some (D none 0 0).toArray := by rw [← hD]; exact built_bk2 _ _ hH hP
  have h0 : ∀ w', Below w.heap.size w w' → Calls Try.prog 35 #[.slice (some ⟨b, off, none⟩) n c, .int .i64 0] w' fun e w'' => e = .returned (.agg ((xs.take 32).map (Value.int .u8)).toArray) ∧ Below w'.heap.size w' w'' := fun w' h => by
    have := hid 0 w' h (by omega)
    rw [List.drop_zero] at this
    exact this
  have h1 : ∀ w', Below w.heap.size w w' → Calls Try.prog 35 #[.slice (some ⟨b, off, none⟩) n c, .int .i64 32] w' fun e w'' => e = .returned (.agg (((xs.drop 32).take 32).map (Value.int .u8)).toArray) ∧ Below w'.heap.size w' w'' := fun w' h => hid 32 w' h (by omega)
  have hidH := Lib.hid hid
  obtain ⟨X0, hX0⟩ : ∃ X, (xs.take 32).map (Value.int .u8) = X := ⟨_, rfl⟩
  obtain ⟨X1, hX1⟩ : ∃ X, ((xs.drop 32).take 32).map (Value.int .u8) = X := ⟨_, rfl⟩
  rw [hX0] at hbt2 h0
  rw [hX1] at hbt2 h1
  have h0H := Lib.hid h0
  have h1H := Lib.hid h1
  obtain ⟨C, hC⟩ : ∃ C, D none 0 0 = C := ⟨_, rfl⟩
  rw [hC] at hbt2
  have hCl : C.length = 65 := by rw [← hC]; exact hDl.out _ _ _
  have hC1 : ∀ v ∈ C, v.oneCell' = true := by rw [← hC]; exact hD1.out _ _ _
  have hCH := Lib.hid hC
  have hdkT := Lib.hid (fun h : K = true => show decK xs = (blkOf xs M, 0) by rw [hdk, if_pos h])
  have hdkF := Lib.hid (fun h : K = false => show decK xs = (noBlk, 4) by rw [hdk, if_neg (by rw [h]; decide)])
  have hzH := Lib.hid hzl
  have hstep := Lib.hid (fun j => show ((xs.drop 65).take (32 * (j + 1))).map (Value.int .u8) = ((xs.drop 65).take (32 * j)).map (Value.int .u8) ++ ((xs.drop (65 + 32 * j)).take 32).map (Value.int .u8) by rw [take_step, List.map_append]; unfold idP; rw [List.drop_drop])
  have hNeH := hNe
  clear hid h0 h1 hX0 hX1 hC hdk hK hH hP hzl hD h32 hs hln
  go_enter Try.func14, Try.ntmps14
  go_wp2_with (first
    | ((with_reducible refine wpList_alloc_blk rfl 26 rfl hZ0 ?_))
    | ((with_reducible refine build_row rfl 26 #[] rfl (cells := Z.toArray) ?_ ?_); (refine Eq.trans (congrArg _ ?_) hbt0; kernel_rfl); refine RowKit.Hid.out ?_))
  refine Lib.hid ?_
  refine wpList_alloc_blk rfl 26 rfl hZ0 ?_
  try simp only [Act.put, List.setIfInBounds_toArray, List.set_cons_zero, List.set_cons_succ]
  try simp only [hV]
  have hGA := hk.alloc (.cells Z.toArray 26)
  have hNA := Blk.new V 26 Z
  have hBA := hb.alloc hb.size (.cells Z.toArray 26)
  have hnG : G < V.heap.size := hk.lt
  obtain ⟨N, hN⟩ : ∃ N, V.heap.size = N := ⟨_, rfl⟩
  rw [hN] at hNA hnG
  try rw [hN]
  have nGN := Lib.hid hnG
  obtain ⟨U, hU⟩ : ∃ W, V.alloc (.cells Z.toArray 26) = W := ⟨_, rfl⟩
  rw [hU] at hGA hNA hBA
  try rw [hU]
  have gH := Lib.hid g9
  clear hk hb hN hU hnG hV g9
  refine store_row rfl 26 (.tmp 4) (.tmp 8) rfl rfl rfl hNA rowBk hZl hZl hZ1 ?_
  intro w1 hN1 hg1
  have hG1 := hGA.grown hg1 (fun e => by injection e with e; have := nGN.out; omega)
  have hB1 := hBA.grown hg1 hBA.size (fun q hq => by injection hq with hq; have := nGN.out; have := gH.out; omega)
  clear hGA hNA hBA hg1
  have hI1 := hIH.out.keep hB1
  obtain ⟨_, _, h0 | ⟨b', off', hab, hat⟩⟩ := hI1
  · omega
  injection hab with hab
  injection hab with hb1 hb2
  subst hb1; subst hb2
  have c64 := hat 64 (by omega)
  rw [hNe] at c64
  clear hat
  clear hNe hNeH
  go_wp2_with fail
  refine (h0H.out w1 hB1).mono ?_
  rintro q w2 ⟨rfl, b2⟩
  have hG2 := hG1.keep b2 hG1.lt
  have hN2 := hN1.keep b2 hN1.lt
  have hB2 := hB1.trans (b2.mono hB1.size)
  clear h0H hG1 hN1 hB1 b2 c64
  go_wp2_with fail
  refine (h1H.out w2 hB2).mono ?_
  rintro q w3 ⟨rfl, b3⟩
  have hG3 := hG2.keep b3 hG2.lt
  have hN3 := hN2.keep b3 hN2.lt
  have hB3 := hB2.trans (b3.mono hB2.size)
  clear h1H hG2 hN2 hB2 b3
  go_wp2_with ((with_reducible refine build_row rfl 26 #[(0, .tmp 35), (1, .tmp 37)] rfl (cells := C.toArray) ?_ ?_); (refine Eq.trans (congrArg _ ?_) hbt2; kernel_rfl); refine RowKit.Hid.out ?_)
  refine Lib.hid ?_
  refine wpList_alloc_blk rfl 26 rfl hZ0 ?_
  try simp only [Act.put, List.setIfInBounds_toArray, List.set_cons_zero, List.set_cons_succ]
  have hGA := hG3.alloc (.cells Z.toArray 26)
  have hNA := hN3.alloc (.cells Z.toArray 26)
  have hOA := Blk.new w3 26 Z
  have hBA := hB3.alloc hB3.size (.cells Z.toArray 26)
  have l1 : G < w3.heap.size := hG3.lt
  have l2 : N < w3.heap.size := hN3.lt
  have l3 : w.heap.size ≤ w3.heap.size := hB3.size
  obtain ⟨O, hO⟩ : ∃ N, w3.heap.size = N := ⟨_, rfl⟩
  rw [hO] at hOA l1 l2 l3 ⊢
  have nGO := Lib.hid l1
  have nNO := Lib.hid l2
  have hwO := Lib.hid l3
  obtain ⟨U, hU⟩ : ∃ W, w3.alloc (.cells Z.toArray 26) = W := ⟨_, rfl⟩
  rw [hU] at hGA hNA hOA hBA ⊢
  clear hG3 hN3 hB3 hO hU l1 l2 l3
  refine store_row rfl 26 (.tmp 6) (.tmp 38) rfl rfl rfl hOA rowBk hCl hZl hC1 ?_
  intro w4 hO4 hg4
  have hG4 := hGA.grown hg4 (fun e => by injection e with e; have := nGO.out; omega)
  have hN4 := hNA.grown hg4 (fun e => by injection e with e; have := nNO.out; omega)
  have hB4 := hBA.grown hg4 hBA.size (fun q hq => by injection hq with hq; have := hwO.out; omega)
  rw [← hCH.out] at hO4
  clear hGA hNA hOA hBA hg4
  go_wp2
  go_loopw [7] (fun i wr => ∃ j : Nat, j ≤ M ∧ i = .int .i64 j ∧ ∃ tb td, Blk wr O 26 (D tb j td) ∧ wr.ownsRow (O + 1) 23 32 (.slice tb j td) j (((xs.drop 65).take (32 * j)).map (Value.int .u8)) ∧ Blk wr N 26 Z ∧ Blk wr G 26 Z ∧ Below w.heap.size w wr) (fun i _ => M - (intOf i).toNat)
  case atStart => exact ⟨0, Nat.zero_le _, rfl, none, 0, hO4, World.ownsRow_nil _ _ _ _, hN4, hG4, hB4⟩
  case round =>
    clear hO4 hN4 hG4 hB4
    obtain ⟨j, hj, rfl, tb, td, hO0, hown0, hN0, hG0, hB0⟩ := hrel
    by_cases hlt : j < M
    · have hji : (j : Int) < (M : Int) := by omega
      have hltH := Lib.hid hlt
      have hp32 : 65 + 32 * j + 32 ≤ n := by have := hnH.out; omega
      obtain ⟨p, hp⟩ : ∃ p : Nat, 65 + 32 * j = p := ⟨_, rfl⟩
      have hstH := Lib.hid (hstep.out j)
      rw [hp] at hp32 hstH
      have hpi : (65 : Int) + ((32 * j : Nat) : Int) = (p : Int) := by omega
      obtain ⟨m, hm⟩ : ∃ m : Nat, 32 * j = m := ⟨_, rfl⟩
      have hmi : (32 : Int) * (j : Int) = (m : Int) := by omega
      rw [hm] at hpi
      have e1 : wrap64 ((32 : Int) * (j : Int)) = (m : Int) := by rw [hmi]; unfold wrap64; have := hMH.out; omega
      have e1' : IntKind.i64.wrap ((32 : Int) * (j : Int)) = (m : Int) := by rw [IntKind.wrap_i64, hmi]; have := hMH.out; omega
      have e3 : wrap64 ((65 : Int) + (m : Int)) = (p : Int) := by rw [hpi]; unfold wrap64; have := hMH.out; omega
      have e3' : IntKind.i64.wrap ((65 : Int) + (m : Int)) = (p : Int) := by rw [IntKind.wrap_i64, hpi]; have := hMH.out; omega
      have hlY := hlp.out p hp32
      have hY1 := hop.out p
      have hc := fun w' (h : Below w.heap.size w w') => hidH.out p w' h hp32
      obtain ⟨Y, hY⟩ : ∃ X, ((xs.drop p).take 32).map (Value.int .u8) = X := ⟨_, rfl⟩
      rw [hY] at hlY hY1 hc hstH
      have hlYH := Lib.hid hlY
      have hY1H := Lib.hid hY1
      obtain ⟨V, hV⟩ : ∃ V, wr.drew = V := ⟨_, rfl⟩
      have hOV : Blk V O 26 (D tb j td) := by rw [← hV]; exact hO0
      have hNV : Blk V N 26 Z := by rw [← hV]; exact hN0
      have hGV : Blk V G 26 Z := by rw [← hV]; exact hG0
      have hBV : Below w.heap.size w V := by rw [← hV]; exact Below.drew hB0
      have hWV : V.ownsRow (O + 1) 23 32 (.slice tb j td) j (((xs.drop 65).take (32 * j)).map (Value.int .u8)) := by rw [← hV]; exact own_stay9 hown0 (Below.drew (Below.refl _ _))
      have c0 := hc64.out _ _ _ _ _ hOV
      have hcH := Lib.hid (hc V hBV)
      have hKH := Lib.hid (And.intro hOV (And.intro hWV (And.intro hNV (And.intro hGV hBV))))
      clear hlt hj hp hm hmi hpi hlY hY1 hc hY hO0 hown0 hN0 hG0 hB0 hOV hNV hGV hBV hWV
      go_wp2_with fail
      refine region_seqS (fun _ => True) (by kernel_rfl) trivial ?_
      simp only [pairs, Nat.reduceAdd]
      try rw [hV]
      clear hV
      repeat (first
        | (refine SeqS.take (v := ?_) (by first | assumption | trivial) (by kernel_rfl) (by decide +kernel) (by decide +kernel) (Or.inl ⟨by rfl, ?_⟩) ?_
           rotate_left
           focus
             intro w' hb'
             go_simp
             with_reducible rfl
           simp only [Act.put, List.setIfInBounds_toArray, List.set_cons_zero, List.set_cons_succ])
        | (refine SeqS.take (v := ?_) (by first | assumption | trivial) (by kernel_rfl) (by decide +kernel) (by decide +kernel) (Or.inl ⟨by rfl, ?_⟩) ?_
           rotate_left
           focus
             intro w' hb'
             have d0 := e1
             go_simp
             with_reducible rfl
           simp only [Act.put, List.setIfInBounds_toArray, List.set_cons_zero, List.set_cons_succ])
        | (refine SeqS.take (v := ?_) (by first | assumption | trivial) (by kernel_rfl) (by decide +kernel) (by decide +kernel) (Or.inl ⟨by rfl, ?_⟩) ?_
           rotate_left
           focus
             intro w' hb'
             have d0 := e3
             go_simp
             with_reducible rfl
           simp only [Act.put, List.setIfInBounds_toArray, List.set_cons_zero, List.set_cons_succ])
        | (refine SeqS.take (v := undef) (by first | assumption | trivial) (by kernel_rfl) (by decide +kernel) (by decide +kernel) (Or.inr ⟨by rfl, rfl⟩) ?_
           simp only [Act.put, List.setIfInBounds_toArray, List.set_cons_zero, List.set_cons_succ])
        | (refine SeqS.take1 (v := ?_) (by first | assumption | trivial) (by kernel_rfl) (by decide +kernel) (by decide +kernel) (Or.inl ⟨by rfl, ?_⟩) ?_
           rotate_left
           focus
             intro w' hb'
             go_simp
             with_reducible rfl
           simp only [Act.put, List.setIfInBounds_toArray, List.set_cons_zero, List.set_cons_succ])
        | (refine SeqS.take1 (v := ?_) (by first | assumption | trivial) (by kernel_rfl) (by decide +kernel) (by decide +kernel) (Or.inl ⟨by rfl, ?_⟩) ?_
           rotate_left
           focus
             intro w' hb'
             have d0 := e1
             go_simp
             with_reducible rfl
           simp only [Act.put, List.setIfInBounds_toArray, List.set_cons_zero, List.set_cons_succ])
        | (refine SeqS.take1 (v := ?_) (by first | assumption | trivial) (by kernel_rfl) (by decide +kernel) (by decide +kernel) (Or.inl ⟨by rfl, ?_⟩) ?_
           rotate_left
           focus
             intro w' hb'
             have d0 := e3
             go_simp
             with_reducible rfl
           simp only [Act.put, List.setIfInBounds_toArray, List.set_cons_zero, List.set_cons_succ])
        | (refine SeqS.take1 (v := undef) (by first | assumption | trivial) (by kernel_rfl) (by decide +kernel) (by decide +kernel) (Or.inr ⟨by rfl, rfl⟩) ?_
           simp only [Act.put, List.setIfInBounds_toArray, List.set_cons_zero, List.set_cons_succ])
        | (refine SeqS.take2 (v := ?_) (by first | assumption | trivial) (by kernel_rfl) (by decide +kernel) (by decide +kernel) (Or.inl ⟨by rfl, ?_⟩) ?_
           rotate_left
           focus
             intro w' hb'
             go_simp
             with_reducible rfl
           simp only [Act.put, List.setIfInBounds_toArray, List.set_cons_zero, List.set_cons_succ])
        | (refine SeqS.take2 (v := ?_) (by first | assumption | trivial) (by kernel_rfl) (by decide +kernel) (by decide +kernel) (Or.inl ⟨by rfl, ?_⟩) ?_
           rotate_left
           focus
             intro w' hb'
             have d0 := e1
             go_simp
             with_reducible rfl
           simp only [Act.put, List.setIfInBounds_toArray, List.set_cons_zero, List.set_cons_succ])
        | (refine SeqS.take2 (v := ?_) (by first | assumption | trivial) (by kernel_rfl) (by decide +kernel) (by decide +kernel) (Or.inl ⟨by rfl, ?_⟩) ?_
           rotate_left
           focus
             intro w' hb'
             have d0 := e3
             go_simp
             with_reducible rfl
           simp only [Act.put, List.setIfInBounds_toArray, List.set_cons_zero, List.set_cons_succ])
        | (refine SeqS.take2 (v := undef) (by first | assumption | trivial) (by kernel_rfl) (by decide +kernel) (by decide +kernel) (Or.inr ⟨by rfl, rfl⟩) ?_
           simp only [Act.put, List.setIfInBounds_toArray, List.set_cons_zero, List.set_cons_succ])
        | (refine SeqS.take3 (v := ?_) (by first | assumption | trivial) (by kernel_rfl) (by decide +kernel) (by decide +kernel) (Or.inl ⟨by rfl, ?_⟩) ?_
           rotate_left
           focus
             intro w' hb'
             go_simp
             with_reducible rfl
           simp only [Act.put, List.setIfInBounds_toArray, List.set_cons_zero, List.set_cons_succ])
        | (refine SeqS.take3 (v := ?_) (by first | assumption | trivial) (by kernel_rfl) (by decide +kernel) (by decide +kernel) (Or.inl ⟨by rfl, ?_⟩) ?_
           rotate_left
           focus
             intro w' hb'
             have d0 := e1
             go_simp
             with_reducible rfl
           simp only [Act.put, List.setIfInBounds_toArray, List.set_cons_zero, List.set_cons_succ])
        | (refine SeqS.take3 (v := ?_) (by first | assumption | trivial) (by kernel_rfl) (by decide +kernel) (by decide +kernel) (Or.inl ⟨by rfl, ?_⟩) ?_
           rotate_left
           focus
             intro w' hb'
             have d0 := e3
             go_simp
             with_reducible rfl
           simp only [Act.put, List.setIfInBounds_toArray, List.set_cons_zero, List.set_cons_succ])
        | (refine SeqS.take3 (v := undef) (by first | assumption | trivial) (by kernel_rfl) (by decide +kernel) (by decide +kernel) (Or.inr ⟨by rfl, rfl⟩) ?_
           simp only [Act.put, List.setIfInBounds_toArray, List.set_cons_zero, List.set_cons_succ])
        | (refine SeqS.take4 (v := ?_) (by first | assumption | trivial) (by kernel_rfl) (by decide +kernel) (by decide +kernel) (Or.inl ⟨by rfl, ?_⟩) ?_
           rotate_left
           focus
             intro w' hb'
             go_simp
             with_reducible rfl
           simp only [Act.put, List.setIfInBounds_toArray, List.set_cons_zero, List.set_cons_succ])
        | (refine SeqS.take4 (v := ?_) (by first | assumption | trivial) (by kernel_rfl) (by decide +kernel) (by decide +kernel) (Or.inl ⟨by rfl, ?_⟩) ?_
           rotate_left
           focus
             intro w' hb'
             have d0 := e1
             go_simp
             with_reducible rfl
           simp only [Act.put, List.setIfInBounds_toArray, List.set_cons_zero, List.set_cons_succ])
        | (refine SeqS.take4 (v := ?_) (by first | assumption | trivial) (by kernel_rfl) (by decide +kernel) (by decide +kernel) (Or.inl ⟨by rfl, ?_⟩) ?_
           rotate_left
           focus
             intro w' hb'
             have d0 := e3
             go_simp
             with_reducible rfl
           simp only [Act.put, List.setIfInBounds_toArray, List.set_cons_zero, List.set_cons_succ])
        | (refine SeqS.take4 (v := undef) (by first | assumption | trivial) (by kernel_rfl) (by decide +kernel) (by decide +kernel) (Or.inr ⟨by rfl, rfl⟩) ?_
           simp only [Act.put, List.setIfInBounds_toArray, List.set_cons_zero, List.set_cons_succ]))
      refine SeqS.either (rs := [1, 6]) (by decide +kernel) ?_
      intro k hk
      simp only [List.mem_cons, List.not_mem_nil, or_false] at hk
      rcases hk with rfl | rfl
      · refine ⟨[], _, [_, _, _, _, _], rfl, by rfl, fun K5 hK5 => ?_⟩
        go_simp
        refine hK5 _ _ trivial ?_
        clear hK5 K5 c0
        try simp only [Act.put, List.setIfInBounds_toArray, List.set_cons_zero, List.set_cons_succ]
        refine SeqS.alone (by decide +kernel) (by rfl) (fun K6 hK6 => ?_)
        go_simp
        go_at_call 35
        refine hcH.out.mono ?_
        rintro e w3 ⟨rfl, b3⟩
        go_simp
        have bb : Below V.heap.size V w3 := b3
        have hO3 := hKH.out.1.keep bb hKH.out.1.lt
        have own3 := own_stay9 hKH.out.2.1 bb
        have hN3 := hKH.out.2.2.1.keep bb hKH.out.2.2.1.lt
        have hG3 := hKH.out.2.2.2.1.keep bb hKH.out.2.2.2.1.lt
        have hB3 := hKH.out.2.2.2.2.trans (bb.mono hKH.out.2.2.2.2.size)
        clear b3 bb hcH hKH
        have c3 := hc64.out _ _ _ _ _ hO3
        have own4H := Lib.hid (own3.alloc (.cells Y.toArray 23))
        have hnewH := Lib.hid (Blk.new w3 23 Y)
        have hO4 := hO3.alloc (.cells Y.toArray 23)
        have c4 := hc64.out _ _ _ _ _ hO4
        have hO4H := Lib.hid hO4
        have hN4H := Lib.hid (hN3.alloc (.cells Y.toArray 23))
        have hG4H := Lib.hid (hG3.alloc (.cells Y.toArray 23))
        have hB4H := Lib.hid (hB3.alloc hB3.size (.cells Y.toArray 23))
        have hszH := Lib.hid (show O + 1 ≤ (w3.alloc (.cells Y.toArray 23)).heap.size by rw [size1]; exact Nat.le_succ_of_le hO3.lt)
        clear hO4 hO3 hN3 hG3 hB3 own3
        refine hK6 _ _ trivial ?_
        clear hK6 K6
        try simp only [Act.put, List.setIfInBounds_toArray, List.set_cons_zero, List.set_cons_succ]
        refine SeqS.alone (by decide +kernel) (by rfl) (fun K7 hK7 => ?_)
        refine wp_buildSlice 24 23 1 #[(0, .tmp 50)] rfl Y.toArray i0 _ Try.underlying24 hi hz0 (by rw [hz1]; decide) (by rw [hz1]; decide) (fill_id i0 _ hz1 Y hlYH.out _ (by rw [Array.toList_map]; rfl)) ?_
        refine hK7 _ _ trivial ?_
        clear hK7 K7
        try simp only [Act.put, List.setIfInBounds_toArray, List.set_cons_zero, List.set_cons_succ]
        refine SeqS.alone (by decide +kernel) (by rfl) (fun K8 hK8 => ?_)
        refine wp_append_own _ (.tmp 45) (.tmp 51) 24 rfl (O + 1) 23 i0 _ 32 32 Try.underlying24 hi hz0 hz1 hz2 (by simp [Value.cells]) (by decide) _ _ _ rfl own4H.out ⟨w3.heap.size, 0, none⟩ 1 1 Y rfl hlYH.out ?c1 hY1H.out ?c3 ?c4 ?c5 ?_
        case c1 =>
          intro t u ht
          rw [add_at9, hnewH.out.cell]
          exact ht
        case c3 => have := hltH.out; have := hMH.out; unfold maxLen; omega
        case c4 => have := hltH.out; have := hMH.out; omega
        case c5 => exact hszH.out
        intro v5 W5 hown5 hg5 _
        obtain ⟨b5, d5, hv5⟩ := own_slice32 hown5
        subst hv5
        have hO5 := hO4H.out.grown hg5 (owns_blk16 own4H.out hO4H.out (by decide))
        have hN5 := hN4H.out.grown hg5 (owns_blk16 own4H.out hN4H.out (by decide))
        have hG5 := hG4H.out.grown hg5 (owns_blk16 own4H.out hG4H.out (by decide))
        have hB5 := hB4H.out.grown hg5 hB4H.out.size (fun q hq => by have := (own4H.out.lt q hq).1; have := hwO.out; omega)
        have f5 := hO5.frozen 64
        have c5 := hc64.out _ _ _ _ _ hO5
        have hsetO := hO5.set 64 (.slice b5 (j + 1) d5)
        rw [hset.out] at hsetO
        have gS := grown_setCell W5 O 64 (.slice b5 (j + 1) d5)
        have hownS := own_far9 hown5 gS (Nat.lt_succ_self O)
        have hNS := hN5.grown gS (fun e => by injection e with e; have := nNO.out; omega)
        have hGS := hG5.grown gS (fun e => by injection e with e; have := nGO.out; omega)
        have hBS := hB5.setCell (p := ⟨O, 64, none⟩) (by show w.heap.size ≤ O; exact hwO.out) (.slice b5 (j + 1) d5)
        rw [← hstH.out] at hownS
        have RH := Lib.hid (And.intro hsetO (And.intro hownS (And.intro hNS (And.intro hGS hBS))))
        clear hO5 hN5 hG5 hB5 hsetO gS hownS hNS hGS hBS hown5 hg5
        refine hK8 _ _ trivial ?_
        clear hK8 K8
        try simp only [Act.put, List.setIfInBounds_toArray, List.set_cons_zero, List.set_cons_succ]
        refine SeqS.alone (by decide +kernel) (by rfl) (fun K9 hK9 => ?_)
        go_simp
        refine hK9 _ _ trivial ?_
        clear hK9 K9
        try simp only [Act.put, List.setIfInBounds_toArray, List.set_cons_zero, List.set_cons_succ]
        refine SeqS.alone (by decide +kernel) (by rfl) (fun K9 hK9 => ?_)
        go_simp
        refine hK9 _ _ trivial ?_
        clear hK9 K9
        refine SeqS.done (by decide +kernel) ?_
        go_wp2
        exact ⟨⟨j + 1, by have := hltH.out; omega, by congr 1, b5, d5, RH.out.1, RH.out.2.1, RH.out.2.2.1, RH.out.2.2.2.1, RH.out.2.2.2.2⟩, by simp only [intOf]; have := hltH.out; omega⟩
      · refine ⟨[_], _, [_, _, _, _], rfl, by rfl, fun K5 hK5 => ?_⟩
        go_simp
        go_at_call 35
        refine hcH.out.mono ?_
        rintro e w3 ⟨rfl, b3⟩
        go_simp
        have bb : Below V.heap.size V w3 := b3
        have hO3 := hKH.out.1.keep bb hKH.out.1.lt
        have own3 := own_stay9 hKH.out.2.1 bb
        have hN3 := hKH.out.2.2.1.keep bb hKH.out.2.2.1.lt
        have hG3 := hKH.out.2.2.2.1.keep bb hKH.out.2.2.2.1.lt
        have hB3 := hKH.out.2.2.2.2.trans (bb.mono hKH.out.2.2.2.2.size)
        clear b3 bb hcH hKH
        have c3 := hc64.out _ _ _ _ _ hO3
        have own4H := Lib.hid (own3.alloc (.cells Y.toArray 23))
        have hnewH := Lib.hid (Blk.new w3 23 Y)
        have hO4 := hO3.alloc (.cells Y.toArray 23)
        have c4 := hc64.out _ _ _ _ _ hO4
        have hO4H := Lib.hid hO4
        have hN4H := Lib.hid (hN3.alloc (.cells Y.toArray 23))
        have hG4H := Lib.hid (hG3.alloc (.cells Y.toArray 23))
        have hB4H := Lib.hid (hB3.alloc hB3.size (.cells Y.toArray 23))
        have hszH := Lib.hid (show O + 1 ≤ (w3.alloc (.cells Y.toArray 23)).heap.size by rw [size1]; exact Nat.le_succ_of_le hO3.lt)
        clear hO4 hO3 hN3 hG3 hB3 own3
        refine hK5 _ _ trivial ?_
        clear hK5 K5 c0
        try simp only [Act.put, List.setIfInBounds_toArray, List.set_cons_zero, List.set_cons_succ]
        refine SeqS.either (rs := [1, 7]) (by decide +kernel) ?_
        intro k hk
        simp only [List.mem_cons, List.not_mem_nil, or_false] at hk
        rcases hk with rfl | rfl
        · refine ⟨[], _, [_, _, _, _], rfl, by rfl, fun K6 hK6 => ?_⟩
          go_simp
          refine hK6 _ _ trivial ?_
          clear hK6 K6
          try simp only [Act.put, List.setIfInBounds_toArray, List.set_cons_zero, List.set_cons_succ]
          refine SeqS.alone (by decide +kernel) (by rfl) (fun K7 hK7 => ?_)
          refine wp_buildSlice 24 23 1 #[(0, .tmp 50)] rfl Y.toArray i0 _ Try.underlying24 hi hz0 (by rw [hz1]; decide) (by rw [hz1]; decide) (fill_id i0 _ hz1 Y hlYH.out _ (by rw [Array.toList_map]; rfl)) ?_
          refine hK7 _ _ trivial ?_
          clear hK7 K7
          try simp only [Act.put, List.setIfInBounds_toArray, List.set_cons_zero, List.set_cons_succ]
          refine SeqS.alone (by decide +kernel) (by rfl) (fun K8 hK8 => ?_)
          refine wp_append_own _ (.tmp 45) (.tmp 51) 24 rfl (O + 1) 23 i0 _ 32 32 Try.underlying24 hi hz0 hz1 hz2 (by simp [Value.cells]) (by decide) _ _ _ rfl own4H.out ⟨w3.heap.size, 0, none⟩ 1 1 Y rfl hlYH.out ?c1 hY1H.out ?c3 ?c4 ?c5 ?_
          case c1 =>
            intro t u ht
            rw [add_at9, hnewH.out.cell]
            exact ht
          case c3 => have := hltH.out; have := hMH.out; unfold maxLen; omega
          case c4 => have := hltH.out; have := hMH.out; omega
          case c5 => exact hszH.out
          intro v5 W5 hown5 hg5 _
          obtain ⟨b5, d5, hv5⟩ := own_slice32 hown5
          subst hv5
          have hO5 := hO4H.out.grown hg5 (owns_blk16 own4H.out hO4H.out (by decide))
          have hN5 := hN4H.out.grown hg5 (owns_blk16 own4H.out hN4H.out (by decide))
          have hG5 := hG4H.out.grown hg5 (owns_blk16 own4H.out hG4H.out (by decide))
          have hB5 := hB4H.out.grown hg5 hB4H.out.size (fun q hq => by have := (own4H.out.lt q hq).1; have := hwO.out; omega)
          have f5 := hO5.frozen 64
          have c5 := hc64.out _ _ _ _ _ hO5
          have hsetO := hO5.set 64 (.slice b5 (j + 1) d5)
          rw [hset.out] at hsetO
          have gS := grown_setCell W5 O 64 (.slice b5 (j + 1) d5)
          have hownS := own_far9 hown5 gS (Nat.lt_succ_self O)
          have hNS := hN5.grown gS (fun e => by injection e with e; have := nNO.out; omega)
          have hGS := hG5.grown gS (fun e => by injection e with e; have := nGO.out; omega)
          have hBS := hB5.setCell (p := ⟨O, 64, none⟩) (by show w.heap.size ≤ O; exact hwO.out) (.slice b5 (j + 1) d5)
          rw [← hstH.out] at hownS
          have RH := Lib.hid (And.intro hsetO (And.intro hownS (And.intro hNS (And.intro hGS hBS))))
          clear hO5 hN5 hG5 hB5 hsetO gS hownS hNS hGS hBS hown5 hg5
          refine hK8 _ _ trivial ?_
          clear hK8 K8
          try simp only [Act.put, List.setIfInBounds_toArray, List.set_cons_zero, List.set_cons_succ]
          refine SeqS.alone (by decide +kernel) (by rfl) (fun K9 hK9 => ?_)
          go_simp
          refine hK9 _ _ trivial ?_
          clear hK9 K9
          try simp only [Act.put, List.setIfInBounds_toArray, List.set_cons_zero, List.set_cons_succ]
          refine SeqS.alone (by decide +kernel) (by rfl) (fun K9 hK9 => ?_)
          go_simp
          refine hK9 _ _ trivial ?_
          clear hK9 K9
          refine SeqS.done (by decide +kernel) ?_
          go_wp2
          exact ⟨⟨j + 1, by have := hltH.out; omega, by congr 1, b5, d5, RH.out.1, RH.out.2.1, RH.out.2.2.1, RH.out.2.2.2.1, RH.out.2.2.2.2⟩, by simp only [intOf]; have := hltH.out; omega⟩
        · refine ⟨[_], _, [_, _, _], rfl, by rfl, fun K6 hK6 => ?_⟩
          refine wp_buildSlice 24 23 1 #[(0, .tmp 50)] rfl Y.toArray i0 _ Try.underlying24 hi hz0 (by rw [hz1]; decide) (by rw [hz1]; decide) (fill_id i0 _ hz1 Y hlYH.out _ (by rw [Array.toList_map]; rfl)) ?_
          refine hK6 _ _ trivial ?_
          clear hK6 K6
          try simp only [Act.put, List.setIfInBounds_toArray, List.set_cons_zero, List.set_cons_succ]
          refine SeqS.alone (by decide +kernel) (by rfl) (fun K7 hK7 => ?_)
          go_simp
          refine hK7 _ _ trivial ?_
          clear hK7 K7
          try simp only [Act.put, List.setIfInBounds_toArray, List.set_cons_zero, List.set_cons_succ]
          refine SeqS.alone (by decide +kernel) (by rfl) (fun K8 hK8 => ?_)
          refine wp_append_own _ (.tmp 45) (.tmp 51) 24 rfl (O + 1) 23 i0 _ 32 32 Try.underlying24 hi hz0 hz1 hz2 (by simp [Value.cells]) (by decide) _ _ _ rfl own4H.out ⟨w3.heap.size, 0, none⟩ 1 1 Y rfl hlYH.out ?c1 hY1H.out ?c3 ?c4 ?c5 ?_
          case c1 =>
            intro t u ht
            rw [add_at9, hnewH.out.cell]
            exact ht
          case c3 => have := hltH.out; have := hMH.out; unfold maxLen; omega
          case c4 => have := hltH.out; have := hMH.out; omega
          case c5 => exact hszH.out
          intro v5 W5 hown5 hg5 _
          obtain ⟨b5, d5, hv5⟩ := own_slice32 hown5
          subst hv5
          have hO5 := hO4H.out.grown hg5 (owns_blk16 own4H.out hO4H.out (by decide))
          have hN5 := hN4H.out.grown hg5 (owns_blk16 own4H.out hN4H.out (by decide))
          have hG5 := hG4H.out.grown hg5 (owns_blk16 own4H.out hG4H.out (by decide))
          have hB5 := hB4H.out.grown hg5 hB4H.out.size (fun q hq => by have := (own4H.out.lt q hq).1; have := hwO.out; omega)
          have f5 := hO5.frozen 64
          have c5 := hc64.out _ _ _ _ _ hO5
          have hsetO := hO5.set 64 (.slice b5 (j + 1) d5)
          rw [hset.out] at hsetO
          have gS := grown_setCell W5 O 64 (.slice b5 (j + 1) d5)
          have hownS := own_far9 hown5 gS (Nat.lt_succ_self O)
          have hNS := hN5.grown gS (fun e => by injection e with e; have := nNO.out; omega)
          have hGS := hG5.grown gS (fun e => by injection e with e; have := nGO.out; omega)
          have hBS := hB5.setCell (p := ⟨O, 64, none⟩) (by show w.heap.size ≤ O; exact hwO.out) (.slice b5 (j + 1) d5)
          rw [← hstH.out] at hownS
          have RH := Lib.hid (And.intro hsetO (And.intro hownS (And.intro hNS (And.intro hGS hBS))))
          clear hO5 hN5 hG5 hB5 hsetO gS hownS hNS hGS hBS hown5 hg5
          refine hK8 _ _ trivial ?_
          clear hK8 K8
          try simp only [Act.put, List.setIfInBounds_toArray, List.set_cons_zero, List.set_cons_succ]
          refine SeqS.alone (by decide +kernel) (by rfl) (fun K9 hK9 => ?_)
          go_simp
          refine hK9 _ _ trivial ?_
          clear hK9 K9
          try simp only [Act.put, List.setIfInBounds_toArray, List.set_cons_zero, List.set_cons_succ]
          refine SeqS.alone (by decide +kernel) (by rfl) (fun K9 hK9 => ?_)
          go_simp
          refine hK9 _ _ trivial ?_
          clear hK9 K9
          refine SeqS.done (by decide +kernel) ?_
          go_wp2
          exact ⟨⟨j + 1, by have := hltH.out; omega, by congr 1, b5, d5, RH.out.1, RH.out.2.1, RH.out.2.2.1, RH.out.2.2.2.1, RH.out.2.2.2.2⟩, by simp only [intOf]; have := hltH.out; omega⟩
    · obtain rfl : M = j := by omega
      have hji : ¬ (M : Int) < (M : Int) := by omega
      rw [take_ids hzH.out] at hown0
      have hT := IdsAt.of_owns hown0
      have hlo := Lib.hid (show ∀ x, tb = some x → w.heap.size ≤ x.block ∧ x.block ≠ G from fun x hx => by have := (hown0.lt x.block (by rw [hx]; rfl)).1; have := hwO.out; have := nGO.out; exact ⟨by omega, by omega⟩)
      have hDl0 := hDl.out tb M td
      have hD10 := hD1.out tb M td
      have hR0 := fun w' (h : Below wr.heap.size wr w') => hRt.out tb td w' (hT.keep h)
      have hcl0 := Lib.hid (hcells.out tb td)
      obtain ⟨C9, hC9⟩ : ∃ C, D tb M td = C := ⟨_, rfl⟩
      rw [hC9] at hO0 hDl0 hD10 hR0 hcl0
      have hR0H := Lib.hid hR0
      clear hlt hj hown0 hC9 hR0
      go_wp2_with ((with_reducible refine wpList_load_blk rfl 26 (.tmp 6) rfl ?_ hO0 rowBk hDl0 ?_); rfl)
      refine (hR0H.out wr (Below.refl _ _)).mono ?_
      rintro q w9 ⟨rfl, b9⟩
      have hO9 := hO0.keep b9 hO0.lt
      have hN9 := hN0.keep b9 hN0.lt
      have hG9 := hG0.keep b9 hG0.lt
      have hB9 := hB0.trans (b9.mono hB0.size)
      have hT9 := hT.keep b9
      clear hO0 hN0 hG0 hB0 hT b9 hR0H
      cases K with
      | true =>
        go_wp2_with ((with_reducible refine wpList_load_blk rfl 26 (.tmp 6) rfl ?_ hO9 rowBk hDl0 ?_); rfl; refine RowKit.Hid.out ?_)
        refine Lib.hid ?_
        try simp only [Act.put, List.setIfInBounds_toArray, List.set_cons_zero, List.set_cons_succ]
        refine store_row rfl 26 (.tmp 2) (.tmp 58) rfl rfl rfl hG9 rowBk hDl0 hZl hD10 ?_
        intro wY hGY hgY
        have hrC : IsRow Try.prog 26 C9.length := by rw [hDl0]; exact rowBk
        have hBY := hB9.grown hgY hB9.size (fun q hq => by injection hq with hq; have := gH.out; omega)
        have hTY : IdsAt wY tb M td (xs.drop 65) := by
          refine ⟨hT9.1, hT9.2.1, ?_⟩
          rcases hT9.2.2 with h0 | ⟨b', off, ha, hc⟩
          · exact .inl h0
          · exact .inr ⟨b', off, ha, fun i hi => hgY.cell (hc i hi) (fun e => by injection e with e; exact (hlo.out _ ha).2 e)⟩
        go_wp2_with fail
        refine bodyPost_ret (results_blk_tmp rfl rfl hGY hrC) rfl ?_
        unfold DecEndB
        rw [hdkT.out (by first | exact rfl | trivial)]
        exact ⟨tb, td, by rw [hcl0.out]; rfl, hTY, fun x hx => (hlo.out x hx).1, hBY⟩
      | false =>
        go_wp2_with ((with_reducible refine wpList_load_blk rfl 26 (.tmp 4) rfl ?_ hN9 rowBk hZl ?_); rfl; refine RowKit.Hid.out ?_)
        refine Lib.hid ?_
        try simp only [Act.put, List.setIfInBounds_toArray, List.set_cons_zero, List.set_cons_succ]
        refine store_row rfl 26 (.tmp 2) (.tmp 57) rfl rfl rfl hG9 rowBk hZl hZl hZ1 ?_
        intro wY hGY hgY
        have hrZ : IsRow Try.prog 26 Z.length := by rw [hZl]; exact rowBk
        have hBY := hB9.grown hgY hB9.size (fun q hq => by injection hq with hq; have := gH.out; omega)
        go_wp2_with fail
        refine bodyPost_ret (results_blk_tmp rfl rfl hGY hrZ) rfl ?_
        unfold DecEndB
        rw [hdkF.out (by first | exact rfl | trivial)]
        exact ⟨none, 0, by rw [← hZH.out]; rfl, ids_nil _, (fun x hx => by cases hx), hBY⟩

theorem r16Decode_any (a : Option Addr) (n c : Nat) (xs : List Int) (w : World) (hI : Ints .u8 w a n c xs) (hr : okB xs) :
    Calls Try.prog 14 #[.slice a n c] w (DecEndB xs w) := by
  have hln := hI.len
  by_cases h65 : n < 65
  · exact r16Decode_few a n c xs w hI h65
  obtain ⟨b, off, rfl, _⟩ := hI.at (by omega)
  have hb : 0 ≤ xs.getD 64 0 ∧ xs.getD 64 0 < 256 := by
    rw [List.getD_eq_getElem?_getD, List.getElem?_eq_getElem (by omega)]
    exact hr _ (List.getElem_mem (by omega))
  obtain ⟨M, hM⟩ : ∃ M : Nat, xs.getD 64 0 = (M : Int) := ⟨(xs.getD 64 0).toNat, by omega⟩
  by_cases h32 : 32 < M
  · exact r16Decode_many b off n c xs M w hI h65 hM (by omega) h32
  by_cases hs : n < 65 + 32 * M
  · exact r16Decode_short b off n c xs M w hI h65 hM (by omega) hs
  by_cases hl : 65 + 32 * M < n
  · exact r16Decode_long b off n c xs M w hI h65 hM (by omega) hl
  exact r16Decode_ok b off n c xs M w hI hM (by omega) (by omega)
end Go.Proofs.Ytndodckcncejiaa

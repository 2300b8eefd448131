/-
  Texts of stages that were proved on their own, joined: BkRight, BkDecode, KcRight, KcRightB, KcRightC, KcRightD, BfDecode. Each begins with its own words.
-/
import Derived.Test.YtaaflnmdaplfkaaJKcAll19
import Derived.Deep.Slices
import Derived.Test.YtaaflnmdaplfkaaJKcAll12
import Derived.Test.YtaaflnmdaplfkaaJKcAll17
import Derived.Test.YtaaflnmdaplfkaaJKcAll13
import Derived.Test.YtaaflnmdaplfkaaJKcAll11
import Derived.Test.YtaaflnmdaplfkaaJKcAll10
import Derived.Test.YtaaflnmdaplfkaaJKcAll16
import Derived.Test.YtaaflnmdaplfkaaBlocks2

/-
  What block's Right, Child and Copy (by slices.Clone) come to. New memory alone is written. Conditions: at most a hundred thousand ids, bytes below 256; an id has 32 bytes.
-/
namespace Go.Proofs.Ytaaflnmdaplfkaa
open Go.RowKit

set_option maxRecDepth 100000 in
set_option maxHeartbeats 2000000 in
theorem bkRight_any (H P : List Int) (a : Option Addr) (n c : Nat) (zs : List Int) (w : World) (hH : H.length = 32) (hP : P.length = 32) (hT : IdsAt w a n c zs) (ho : okB zs) (hn : n ≤ 100000) :
    Calls Try.prog 23 #[.agg (bkC H P a n c).toArray] w fun q w' => q = .returned (.bool (rightK ⟨H, P, n, zs⟩)) ∧ Below w.heap.size w w' := by
  have heq := fun w' => eqId16 H P hH hP w'
  have hr1 := rowId_of hH
  have hr2 := rowId_of hP
  have hb := below1 w (.cells (bkC H P a n c).toArray 31)
  have hk := Blk.new w 31 (bkC H P a n c)
  have p0 := bk0 hk
  have p1 := bk1 hk hH
  have p2 := bk2 hk hH hP
  obtain ⟨C, hC⟩ : ∃ C, bkC H P a n c = C := ⟨_, rfl⟩
  rw [hC] at hb p0 p1 p2
  rw [hC]
  obtain ⟨V, hV⟩ : ∃ V, w.alloc (.cells C.toArray 31) = V := ⟨_, rfl⟩
  rw [hV] at hb p0 p1 p2
  have hc := Lib.hid (bkTwice_any a n c zs V (hT.keep hb) ho hn)
  obtain ⟨G, g9⟩ : ∃ G, w.heap.size = G := ⟨_, rfl⟩
  rw [g9] at p0 p1 p2
  unfold rightK
  dsimp only
  obtain ⟨T, hTw⟩ : ∃ C, twiceL zs n = C := ⟨_, rfl⟩
  rw [hTw] at hc ⊢
  obtain ⟨F, hF⟩ : ∃ C, (H == P) = C := ⟨_, rfl⟩
  rw [hF] at heq ⊢
  obtain ⟨X0, hX0⟩ : ∃ C, H.map (Value.int .u8) = C := ⟨_, rfl⟩
  obtain ⟨X1, hX1⟩ : ∃ C, P.map (Value.int .u8) = C := ⟨_, rfl⟩
  rw [hX0] at p0 hr1 heq
  rw [hX1] at p1 hr2 heq
  have hng := noGuardIds
  have hbH := Lib.hid hb
  clear hk hC hF hX0 hX1 hb hT hTw ho
  by_cases h32 : n ≤ 32
  · have h32i : (n : Int) ≤ 32 := by omega
    rw [show decide (n ≤ 32) = true from decide_eq_true h32, Bool.true_and]
    clear h32 hn
    cases F with
    | true =>
      go_enter Try.func23, Try.ntmps23
      go_wp2_with ((with_reducible refine box_row rfl 31 (.tmp 0) rfl C ?_ ?_); rfl; refine RowKit.Hid.out ?_)
      refine Lib.hid ?_
      clear hV g9
      go_wp2_with (first
        | ((with_reducible refine load_pif rfl 28 (.tmp 8) rfl ?_ X0 p0 hr1 ?_); rfl)
        | ((with_reducible refine load_pif rfl 28 (.tmp 10) rfl ?_ X1 p1 hr2 ?_); rfl))
      go_ret
      exact ⟨by first | rfl | simp, hbH.out⟩
    | false =>
      go_enter Try.func23, Try.ntmps23
      go_wp2_with ((with_reducible refine box_row rfl 31 (.tmp 0) rfl C ?_ ?_); rfl; refine RowKit.Hid.out ?_)
      refine Lib.hid ?_
      clear hV g9
      go_wp2_with (first
        | ((with_reducible refine load_pif rfl 28 (.tmp 8) rfl ?_ X0 p0 hr1 ?_); rfl)
        | ((with_reducible refine load_pif rfl 28 (.tmp 10) rfl ?_ X1 p1 hr2 ?_); rfl))
      refine hc.out.mono ?_
      rintro q w1 ⟨rfl, b1⟩
      go_wp2
      go_ret
      exact ⟨by first | rfl | simp, hbH.out.trans (b1.mono hbH.out.size)⟩
  · have h32i : ¬ (n : Int) ≤ 32 := by omega
    rw [show decide (n ≤ 32) = false from decide_eq_false h32, Bool.false_and]
    clear h32 hn
    go_enter Try.func23, Try.ntmps23
    go_wp2_with ((with_reducible refine box_row rfl 31 (.tmp 0) rfl C ?_ ?_); rfl; refine RowKit.Hid.out ?_)
    refine Lib.hid ?_
    clear hV g9
    go_wp2_with (first
      | ((with_reducible refine load_pif rfl 28 (.tmp 8) rfl ?_ X0 p0 hr1 ?_); rfl)
      | ((with_reducible refine load_pif rfl 28 (.tmp 10) rfl ?_ X1 p1 hr2 ?_); rfl))
    go_ret
    exact ⟨by first | rfl | simp, hbH.out⟩

theorem iNone (cap : Nat) (w : World) : Sem.run Try.prog (binOp BinOp.eql 29 (.slice none 0 cap) (.slice none 0 0)) w = .ok (.bool true) w := by kernel_rfl
theorem iSome (x : Addr) (n cap : Nat) (w : World) : Sem.run Try.prog (binOp BinOp.eql 29 (.slice (some x) n cap) (.slice none 0 0)) w = .ok (.bool false) w := by kernel_rfl
set_option maxRecDepth 100000 in
set_option maxHeartbeats 800000 in
theorem bkClone_any (a : Option Addr) (n c : Nat) (zs : List Int) (w : World) (hT : IdsAt w a n c zs) (hn : n ≤ 100000) :
    Calls Try.prog 59 #[.slice a n c] w fun e w' => ∃ b d, e = .returned (.slice b n d) ∧ w'.ownsRow w.heap.size 28 32 (.slice b n d) n (zs.map (Value.int .u8)) ∧ Below w.heap.size w w' := by
  obtain ⟨i0, hi, hz0, hz1, hz2⟩ := info_id9
  have hl := hT.1
  have hnH := Lib.hid hn
  clear hn
  cases a with
  | none =>
    have h0 : n = 0 := by
      rcases hT.2.2 with h | ⟨b, off, h, _⟩
      · exact h
      · cases h
    subst h0
    obtain rfl : zs = [] := List.length_eq_zero_iff.1 hl
    have heq := iNone c
    go_enter Try.func59, Try.ntmps59
    go_wp2
    go_ret
    exact ⟨none, 0, rfl, World.ownsRow_nil _ _ _ _, Below.refl _ _⟩
  | some ad =>
    have q3 : Below w.heap.size w (w.alloc (.cells #[] 28)) := below1 _ _
    have heq := iSome ad n c
    have hcl := Lib.hid (show (zs.map (Value.int .u8)).length = n * 32 by rw [List.length_map, hl, Nat.mul_comm])
    have hone := Lib.hid (u8_one zs)
    have hcells := Lib.hid (show ∀ j u, (zs.map (Value.int .u8))[j]? = some u → (w.alloc (.cells #[] 28)).cell? (ad.add j) = some u by
      rcases hT.2.2 with h0 | ⟨b, off, hA, hc⟩
      · intro j u hj
        have := (List.getElem?_eq_some_iff.1 hj).1
        rw [List.length_map, hl] at this
        omega
      · injection hA with hA
        subst hA
        intro j u hj
        have hjl := (List.getElem?_eq_some_iff.1 hj).1
        rw [List.length_map] at hjl
        have h1 := hc j (by omega)
        rw [List.getElem?_map, List.getElem?_eq_getElem hjl] at hj
        rw [List.getD_eq_getElem?_getD, List.getElem?_eq_getElem hjl] at h1
        injection hj with hj
        subst hj
        rw [show (⟨b, off, none⟩ : Addr).add j = ⟨b, off + j, none⟩ by simp [Addr.add]]
        exact (q3.cell (World.block_lt_of_cell? w _ h1)).trans h1)
    have q3H := Lib.hid q3
    obtain ⟨CS, hCS⟩ : ∃ CS, zs.map (Value.int .u8) = CS := ⟨_, rfl⟩
    rw [hCS] at hcl hone hcells ⊢
    clear hT hl q3 hCS
    go_enter Try.func59, Try.ntmps59
    go_wp2_with (at_builtin
                 refine wpList_append_own _ rfl (.tmp 5) (.tmp 6) 29 rfl w.heap.size 28 i0 _ 32 32 Try.underlying29 hi hz0 hz1 hz2 (by simp [Value.cells]) (by decide) (.slice (some ⟨w.heap.size, 0, none⟩) 0 0) 0 [] rfl (World.ownsRow_made w #[] 0 (Nat.le_refl _) (Nat.zero_le _) rfl) ad n c CS rfl hcl.out hcells.out hone.out ?_ ?_ q3H.out.size ?_
                 (have := hnH.out; unfold maxLen; omega)
                 (have := hnH.out; omega)
                 intro v4 w4 hown4 hg4 _
                 refine RowKit.Hid.out ?_)
    refine Lib.hid ?_
    rw [List.nil_append, Nat.zero_add] at hown4
    have hex : ∃ b c, v4 = .slice b n c := own_slice32 hown4
    obtain ⟨b, d, hv⟩ := hex
    rw [hv] at hown4 ⊢
    have hB : Below w.heap.size w w4 := q3H.out.grown hg4 q3H.out.size (fun q hq => by injection hq with hq; rw [← hq]; exact Nat.le_refl _)
    go_wp2
    go_ret
    exact ⟨b, d, rfl, hown4, hB⟩

set_option maxRecDepth 100000 in
set_option maxHeartbeats 1000000 in
theorem bkCopy_any (H P : List Int) (a : Option Addr) (n c : Nat) (zs : List Int) (w : World) (hH : H.length = 32) (hP : P.length = 32) (hT : IdsAt w a n c zs) (hn : n ≤ 100000) :
    Calls Try.prog 36 #[.agg (bkC H P a n c).toArray] w fun q w' => ∃ b d, q = .returned (.agg (bkC H P b n d).toArray) ∧ w'.ownsRow w.heap.size 28 32 (.slice b n d) n (zs.map (Value.int .u8)) ∧ Below w.heap.size w w' := by
  have hset := fun b m d => bkC_set (a := a) (n := n) (c := c) hH hP b m d
  have hone := fun b m d => bkC_one H P b m d
  have hlen := fun b m d => bkC_len (a := b) (n := m) (c := d) hH hP
  have e5 := fun w' g (h : Blk w' g 31 (bkC H P a n c)) => bk2 h hH hP
  obtain ⟨D, hD⟩ : ∃ D, bkC H P = D := ⟨_, rfl⟩
  rw [hD] at hset hone hlen e5
  rw [hD]
  obtain ⟨C, hC⟩ : ∃ C, D a n c = C := ⟨_, rfl⟩
  rw [hC] at hset e5
  rw [hC]
  clear hC hD
  obtain ⟨Z, hZ⟩ : ∃ Z, bkC z32 z32 none 0 0 = Z := ⟨_, rfl⟩
  have hZ0 : Zero Try.prog 31 Z := by rw [← hZ]; exact zeroBk
  have hZl : Z.length = 65 := by rw [← hZ]; exact bkC_len rfl rfl
  clear hZ
  have hb := below2 w (.cells C.toArray 31) (.cells Z.toArray 31)
  have hk : Blk ((w.alloc (.cells C.toArray 31)).alloc (.cells Z.toArray 31)) w.heap.size 31 C := (Blk.new w _ C).alloc _
  have hk2 : Blk ((w.alloc (.cells C.toArray 31)).alloc (.cells Z.toArray 31)) (w.heap.size + 1) 31 Z := Blk.new1 w _ _ _
  obtain ⟨V, hV⟩ : ∃ V, (w.alloc (.cells C.toArray 31)).alloc (.cells Z.toArray 31) = V := ⟨_, rfl⟩
  rw [hV] at hb hk hk2
  have hcl := bkClone_any a n c zs V (hT.keep hb) hn
  have hbH := Lib.hid hb
  clear hT hn hb
  obtain ⟨G, g9⟩ : ∃ G, w.heap.size = G := ⟨_, rfl⟩
  rw [g9] at hk hk2
  have c5 := e5 V G hk
  go_enter Try.func36, Try.ntmps36
  go_wp2_with (first
    | ((with_reducible refine box_row rfl 31 (.tmp 0) rfl C ?_ ?_); rfl)
    | ((with_reducible refine wpList_alloc_blk rfl 31 rfl hZ0 ?_); refine RowKit.Hid.out ?_))
  refine Lib.hid ?_
  go_wp2_with fail
  refine hcl.mono ?_
  rintro q w1 ⟨b, d, rfl, ho, b1⟩
  have gH := Lib.hid g9
  clear hcl c5 g9 hV
  have hk1 := hk.keep b1 hk.lt
  have hk21 := hk2.keep b1 hk2.lt
  have c5 := e5 w1 G hk1
  have f5 := hk1.frozen 64
  have hs1 := hset b n d
  have hB1 := hbH.out.trans (b1.mono hbH.out.size)
  have hkS : Blk (w1.setCell ⟨G, 64, none⟩ (.slice b n d)) G 31 (D b n d) := by
    have := hk1.set 64 (.slice b n d)
    rw [hs1] at this
    exact this
  have hkZ : Blk (w1.setCell ⟨G, 64, none⟩ (.slice b n d)) (G + 1) 31 Z := hk21.far (by show G + 1 ≠ G; omega) _
  have hBS : Below w.heap.size w (w1.setCell ⟨G, 64, none⟩ (.slice b n d)) := hB1.setCell (p := ⟨G, 64, none⟩) (by show w.heap.size ≤ G; rw [gH.out]; exact Nat.le_refl _) _
  have oS : (w1.setCell ⟨G, 64, none⟩ (.slice b n d)).ownsRow V.heap.size 28 32 (.slice b n d) n (zs.map (Value.int .u8)) := own_far9 ho (grown_setCell w1 G 64 _) hk.lt
  obtain ⟨U, hU⟩ : ∃ U, w1.setCell ⟨G, 64, none⟩ (.slice b n d) = U := ⟨_, rfl⟩
  rw [hU] at hkS hkZ hBS oS
  have hVs := Lib.hid hk2.lt
  clear ho b1 hk1 hk21 hB1 hs1 hk hk2 hset e5
  have hr : IsRow Try.prog 31 65 := rowBk
  go_wp2_with ((with_reducible refine wpList_load_blk rfl 31 (.tmp 1) rfl ?_ hkS hr (hlen b n d) ?_); rfl; refine RowKit.Hid.out ?_)
  refine Lib.hid ?_
  refine store_row rfl 31 (.tmp 2) (.tmp 7) rfl rfl rfl hkZ hr (hlen b n d) hZl (hone b n d) ?_
  intro w2 hb2 hg2
  have hr2 : IsRow Try.prog 31 (D b n d).length := by rw [hlen b n d]; exact rowBk
  go_wp2_with fail
  refine bodyPost_ret (results_blk rfl rfl hb2 hr2) rfl ?_
  refine ⟨b, d, rfl, ?_, ?_⟩
  · have := own_far9 oS hg2 hVs.out
    exact own_low9 this (by have := hbH.out.size; omega)
  · exact hBS.grown hg2 hBS.size (fun q hq => by injection hq with hq; have := gH.out; omega)
end Go.Proofs.Ytaaflnmdaplfkaa

/-
  What block's Decode comes to. New memory alone is written. Conditions: bytes below 256, at most a million.
-/
namespace Go.Proofs.Ytaaflnmdaplfkaa
open Go.RowKit

theorem blk_moved {F : Nat → Prop} {w w' : World} {g : Nat} {t : TypeId} {cs : List Value} (h : Blk w g t cs) (hm : Moved F w w') (hF : ¬ F g) : Blk w' g t cs := (hm.2 g h.lt hF).trans h
/-- A block's cells, its ids at b. -/
def bC (m : BlkV) (b : Option Addr) (d : Nat) : List Value := bkC m.hash m.parent b m.n d
/-- What a decoding ends with. -/
def DecEndB (xs : List Int) (w : World) (q : Ending) (w' : World) : Prop := ∃ b d, q = .returned (.tuple #[.agg (bC (decK xs).1 b d).toArray, .int .i64 (decK xs).2]) ∧ IdsAt w' b (decK xs).1.n d (decK xs).1.ids ∧ (∀ x, b = some x → w.heap.size ≤ x.block) ∧ Below w.heap.size w w'
theorem ids_nil (w : World) : IdsAt w none 0 0 [] := ⟨rfl, Nat.le_refl _, .inl rfl⟩

set_option maxRecDepth 100000 in
set_option maxHeartbeats 4000000 in
theorem bkDecode_any (a : Option Addr) (n c : Nat) (xs : List Int) (w : World) (hI : Ints .u8 w a n c xs) (hr : okB xs) (hn : n ≤ 1000000) :
    Calls Try.prog 54 #[.slice a n c] w (DecEndB xs w) := by
  have hln := hI.len
  obtain ⟨Z, hZ⟩ : ∃ Z, bkC z32 z32 none 0 0 = Z := ⟨_, rfl⟩
  have hZ0 : Zero Try.prog 31 Z := by rw [← hZ]; exact zeroBk
  have hZl : Z.length = 65 := by rw [← hZ]; exact bkC_len rfl rfl
  have hZ1 : ∀ v ∈ Z, v.oneCell' = true := by rw [← hZ]; exact bkC_one _ _ _ _ _
  have hbt0 : Try.prog.built 31 [] = some Z.toArray := by rw [← hZ]; exact built_bk0
  have hZH := Lib.hid hZ
  clear hZ
  obtain ⟨Zr, hZr⟩ : ∃ Z, List.replicate 32 (Value.int .u8 0) = Z := ⟨_, rfl⟩
  have hRl : Zr.length = 32 := by rw [← hZr]; rfl
  have hR0 : Zero Try.prog 28 Zr := by rw [← hZr]; exact zeroId9
  clear hZr
  have hb := below1 w (.cells Z.toArray 31)
  have hk : Blk (w.alloc (.cells Z.toArray 31)) w.heap.size 31 Z := Blk.new w _ _
  obtain ⟨V, hV⟩ : ∃ V, w.alloc (.cells Z.toArray 31) = V := ⟨_, rfl⟩
  rw [hV] at hb hk
  have hnew := Lib.hid (pNew_any a n c xs V (hI.keep hb) hr hn)
  obtain ⟨G, g9⟩ : ∃ G, w.heap.size = G := ⟨_, rfl⟩
  rw [g9] at hk
  have gH := Lib.hid g9
  obtain ⟨E, hdn, hend1, hend2⟩ := bk_read hr
  have hH := bdH_len xs
  have hP := bdP_len xs
  obtain ⟨H, hHe⟩ : ∃ H, bdH xs = H := ⟨_, rfl⟩
  obtain ⟨P, hPe⟩ : ∃ H, bdP xs = H := ⟨_, rfl⟩
  obtain ⟨zs, hze⟩ : ∃ H, bdZ xs = H := ⟨_, rfl⟩
  rw [hHe] at hH hend2
  rw [hPe] at hP hend2
  rw [hze] at hend2
  unfold bdZ at hze
  unfold bdH at hHe
  unfold bdP at hPe
  unfold bd4 at hdn hend2 hze
  unfold bd3 at hdn hend2 hze
  unfold bd2 at hdn hend2 hze
  unfold bd1 at hdn hend2 hze hPe
  obtain ⟨⟨p1, e1, m1⟩, hs1⟩ : ∃ q, rdStep xs.length 0 0 32 = q := ⟨_, rfl⟩
  rw [hs1] at hdn hend2 hze hPe
  dsimp only at hdn hend2 hze hPe
  obtain ⟨⟨p2, e2, m2⟩, hs2⟩ : ∃ q, rdStep xs.length p1 e1 32 = q := ⟨_, rfl⟩
  rw [hs2] at hdn hend2 hze
  dsimp only at hdn hend2 hze
  obtain ⟨⟨p3, e3, m3⟩, hs3⟩ : ∃ q, rdCount xs p2 e2 1 32 = q := ⟨_, rfl⟩
  rw [hs3] at hdn hend2 hze
  dsimp only at hdn hend2 hze
  obtain ⟨⟨p4, e4, m4⟩, hs4⟩ : ∃ q, rdIds xs.length p3 e3 m3 = q := ⟨_, rfl⟩
  rw [hs4] at hdn hend2 hze
  dsimp only at hdn hend2 hze
  have hlX := rowId_of hH
  have hlY := rowId_of hP
  have hX1 := u8_one H
  have hY1 := u8_one P
  have hXl : (H.map (Value.int .u8)).length = 32 := by rw [List.length_map, hH]
  have hYl : (P.map (Value.int .u8)).length = 32 := by rw [List.length_map, hP]
  have hbt3 := fun b d => built_bk3 H P b m4 d hH hP
  have hDl := fun b d => bkC_len (a := b) (n := m4) (c := d) hH hP
  have hD1 := fun b d => bkC_one H P b m4 d
  have hRt := Lib.hid (fun b d w' (hT : IdsAt w' b m4 d zs) (ho : okB zs) (hn : m4 ≤ 100000) => bkRight_any H P b m4 d zs w' hH hP hT ho hn)
  have hcells := Lib.hid (fun b d => (rfl : bkC H P b m4 d = bC ⟨H, P, m4, zs⟩ b d))
  obtain ⟨D, hD⟩ : ∃ D, (fun b d => bkC H P b m4 d) = D := ⟨_, rfl⟩
  have hDe : ∀ b d, bkC H P b m4 d = D b d := fun b d => by rw [← hD]
  have hbt3 := fun b d => (hbt3 b d).trans (by rw [hDe])
  have hDl := fun b d => (congrArg List.length (hDe b d)).symm.trans (hDl b d)
  have hD1 : ∀ b d, ∀ v ∈ D b d, v.oneCell' = true := fun b d => by rw [← hDe]; exact hD1 b d
  have hRt := Lib.hid (fun b d w' (hT : IdsAt w' b m4 d zs) (ho : okB zs) (hn : m4 ≤ 100000) => by have := hRt.out b d w' hT ho hn; rw [hDe] at this; exact this)
  have hDeH := Lib.hid hDe
  clear hDe hD
  obtain ⟨X, hX⟩ : ∃ X, H.map (Value.int .u8) = X := ⟨_, rfl⟩
  obtain ⟨Y, hY⟩ : ∃ X, P.map (Value.int .u8) = X := ⟨_, rfl⟩
  rw [hX] at hlX hX1 hXl hbt3
  rw [hY] at hlY hY1 hYl hbt3
  have hend1H := Lib.hid hend1
  have hend2H := Lib.hid hend2
  have hHP := Lib.hid (And.intro hHe hPe)
  have hXY := Lib.hid (And.intro hX hY)
  clear hend1 hend2 hHe hPe hX hY hI hr hn hln
  go_enter Try.func54, Try.ntmps54
  go_wp2_with ((with_reducible refine wpList_alloc_blk rfl 31 rfl hZ0 ?_); refine RowKit.Hid.out ?_)
  refine Lib.hid ?_
  clear hV
  go_wp2_with fail
  refine hnew.out.mono ?_
  rintro r w1 ⟨g, F, rfl, hR1, hF1, b1⟩
  have hG1 := hk.keep b1 hk.lt
  have hB1 := hb.trans (b1.mono hb.size)
  have nG : Hid (¬ F G) := Lib.hid (fun h => by have := hF1 _ h; have := hk.lt; omega)
  have hFg : Hid (∀ b, F b → w.heap.size ≤ b) := Lib.hid (fun b hb' => Nat.le_trans hb.size (hF1 b hb'))
  clear hk hb b1 hnew hF1
  have cn := pId_any hR1
  rw [hHP.out.1, hs1] at cn
  dsimp only at cn
  rw [hXY.out.1] at cn
  clear hR1
  go_wp2_with fail
  refine cn.mono ?_
  rintro r w2 ⟨rfl, hR2, hm2⟩
  have hG2 := blk_moved hG1 hm2 nG.out
  have hB2 := hB1.trans (hm2.below hFg.out hB1.size)
  clear cn hG1 hB1 hm2
  -- the Hash
  go_wp2_with ((with_reducible refine wpList_alloc_blk rfl 28 rfl hR0 ?_); refine RowKit.Hid.out ?_)
  refine Lib.hid ?_
  try simp only [Act.put, List.setIfInBounds_toArray, List.set_cons_zero, List.set_cons_succ]
  have hGA := hG2.alloc (.cells Zr.toArray 28)
  have hNA := Blk.new w2 28 Zr
  have hBA := hB2.alloc hB2.size (.cells Zr.toArray 28)
  have hnG : G < w2.heap.size := hG2.lt
  have hRA := hR2.keep (w' := w2.alloc (.cells Zr.toArray 28)) (fun b hb => Below.heap_alloc w2 _ b (hR2.lt b hb)) (by rw [size1]; omega)
  have nN0 : ¬ F w2.heap.size := fun h => Nat.lt_irrefl _ (hR2.lt _ h)
  have hw2 : w.heap.size ≤ w2.heap.size := hB2.size
  obtain ⟨N, hN⟩ : ∃ N, w2.heap.size = N := ⟨_, rfl⟩
  rw [hN] at hNA hnG nN0 hw2 ⊢
  have nN := Lib.hid nN0
  have nGN := Lib.hid hnG
  have hwN := Lib.hid hw2
  obtain ⟨U, hU⟩ : ∃ W, w2.alloc (.cells Zr.toArray 28) = W := ⟨_, rfl⟩
  rw [hU] at hGA hNA hBA hRA ⊢
  clear hR2 hG2 hB2 hN hU nN0 hnG hw2
  refine store_row rfl 28 (.tmp 5) (.tmp 13) rfl rfl rfl hNA rowId9 hXl hRl hX1 ?_
  intro w3 hN3 hg3
  have hG3 := hGA.grown hg3 (fun e => by injection e with e; have := nGN.out; omega)
  have hR3 := hRA.keep (fun b hb => hg3.block b (hRA.lt b hb) (fun e => by injection e with e; subst e; exact nN.out hb)) hg3.size
  have hB3 := hBA.grown hg3 hBA.size (fun q hq => by injection hq with hq; have := hwN.out; omega)
  clear hGA hNA hBA hRA hg3
  have cn := pId_any hR3
  rw [hHP.out.2, hs2] at cn
  dsimp only at cn
  rw [hXY.out.2] at cn
  clear hR3
  go_wp2_with fail
  refine cn.mono ?_
  rintro r w4 ⟨rfl, hR4, hm4⟩
  have hG4 := blk_moved hG3 hm4 nG.out
  have hN4 := blk_moved hN3 hm4 nN.out
  have hB4 := hB3.trans (hm4.below hFg.out hB3.size)
  clear cn hG3 hN3 hB3 hm4
  -- the Parent
  go_wp2_with ((with_reducible refine wpList_alloc_blk rfl 28 rfl hR0 ?_); refine RowKit.Hid.out ?_)
  refine Lib.hid ?_
  try simp only [Act.put, List.setIfInBounds_toArray, List.set_cons_zero, List.set_cons_succ]
  have hGA := hG4.alloc (.cells Zr.toArray 28)
  have hNA := hN4.alloc (.cells Zr.toArray 28)
  have hMA := Blk.new w4 28 Zr
  have hBA := hB4.alloc hB4.size (.cells Zr.toArray 28)
  have hnM : N < w4.heap.size := hN4.lt
  have hnG : G < w4.heap.size := hG4.lt
  have hRA := hR4.keep (w' := w4.alloc (.cells Zr.toArray 28)) (fun b hb => Below.heap_alloc w4 _ b (hR4.lt b hb)) (by rw [size1]; omega)
  have nM0 : ¬ F w4.heap.size := fun h => Nat.lt_irrefl _ (hR4.lt _ h)
  have hw4 : w.heap.size ≤ w4.heap.size := hB4.size
  obtain ⟨M, hM⟩ : ∃ N, w4.heap.size = N := ⟨_, rfl⟩
  rw [hM] at hMA hnM hnG nM0 hw4 ⊢
  have nM := Lib.hid nM0
  have nNM := Lib.hid hnM
  have nGM := Lib.hid hnG
  have hwM := Lib.hid hw4
  obtain ⟨U, hU⟩ : ∃ W, w4.alloc (.cells Zr.toArray 28) = W := ⟨_, rfl⟩
  rw [hU] at hGA hNA hMA hBA hRA ⊢
  clear hR4 hG4 hN4 hB4 hM hU nM0 hnM hnG hw4
  refine store_row rfl 28 (.tmp 6) (.tmp 15) rfl rfl rfl hMA rowId9 hYl hRl hY1 ?_
  intro w5 hM5 hg5
  have hG5 := hGA.grown hg5 (fun e => by injection e with e; have := nGM.out; omega)
  have hN5 := hNA.grown hg5 (fun e => by injection e with e; have := nNM.out; omega)
  have hR5 := hRA.keep (fun b hb => hg5.block b (hRA.lt b hb) (fun e => by injection e with e; subst e; exact nM.out hb)) hg5.size
  have hB5 := hBA.grown hg5 hBA.size (fun q hq => by injection hq with hq; have := hwM.out; omega)
  clear hGA hNA hMA hBA hRA hg5
  have cn := pCount_any 1 32 (by decide) hR5
  rw [hs3] at cn
  dsimp only at cn
  clear hR5
  go_wp2_with fail
  refine cn.mono ?_
  rintro r w6 ⟨rfl, hR6, hm6⟩
  have hG6 := blk_moved hG5 hm6 nG.out
  have hN6 := blk_moved hN5 hm6 nN.out
  have hM6 := blk_moved hM5 hm6 nM.out
  have hB6 := hB5.trans (hm6.below hFg.out hB5.size)
  clear cn hG5 hN5 hM5 hB5 hm6
  have cn := pIds_own m3 hR6
  rw [hs4] at cn
  dsimp only at cn
  rw [hze] at cn
  clear hR6
  go_wp2_with fail
  refine cn.mono ?_
  rintro r w7 ⟨tb, td, rfl, hT7, hloc7, hR7, hm7⟩
  have hG7 := blk_moved hG6 hm7 nG.out
  have hN7 := blk_moved hN6 hm7 nN.out
  have hM7 := blk_moved hM6 hm7 nM.out
  have hB7 := hB6.trans (hm7.below hFg.out hB6.size)
  have hlo := Lib.hid (show ∀ x, tb = some x → w.heap.size ≤ x.block ∧ x.block ≠ G from fun x hx => ⟨Nat.le_trans hB6.size (hloc7 x hx), fun e => by have := hloc7 x hx; have := hG6.lt; omega⟩)
  clear cn hG6 hN6 hM6 hB6 hm7 hloc7
  have cd := pDone_any hR7
  rw [hdn] at cd
  clear hR7
  go_wp2_with fail
  refine cd.mono ?_
  rintro r w8 ⟨rfl, b8⟩
  have hG8 := hG7.keep b8 hG7.lt
  have hN8 := hN7.keep b8 hN7.lt
  have hM8 := hM7.keep b8 hM7.lt
  have hT8 := hT7.keep b8
  have hB8 := hB7.trans (b8.mono hB7.size)
  clear cd hG7 hN7 hM7 hT7 hB7 b8
  by_cases hE0 : E = 0
  · subst hE0
    obtain ⟨hbo, hok, hle, hdk⟩ := hend2H.out rfl
    have hRt8 := Lib.hid (fun w' (h : Below w8.heap.size w8 w') => hRt.out tb td w' (hT8.keep h) hok.2.2.2.2.2 (by omega))
    have hrk : rightK (blkOf xs m4) = rightK ⟨H, P, m4, zs⟩ := by rw [hbo]
    obtain ⟨K, hK⟩ : ∃ K, rightK ⟨H, P, m4, zs⟩ = K := ⟨_, rfl⟩
    rw [hrk, hK, hbo] at hdk
    rw [hK] at hRt8
    have hdkH := Lib.hid hdk
    have hbt := hbt3 tb td
    have hDl8 := hDl tb td
    have hD18 := hD1 tb td
    have hT8H := Lib.hid hT8
    have hG8H := Lib.hid (And.intro hG8 hB8)
    obtain ⟨C, hC⟩ : ∃ C, D tb td = C := ⟨_, rfl⟩
    rw [hC] at hbt hDl8 hD18 hRt8
    have hCH := Lib.hid hC
    clear hbo hok hle hdk hrk hK hend1H hend2H hRt hT8 hG8 hB8 hDl hD1 hbt3 hC
    go_wp2_with (first
      | ((with_reducible refine wpList_load_blk rfl 28 (.tmp 5) rfl ?_ hN8 rowId9 hXl ?_); rfl)
      | ((with_reducible refine wpList_load_blk rfl 28 (.tmp 6) rfl ?_ hM8 rowId9 hYl ?_); rfl)
      | ((with_reducible refine build_row rfl 31 #[(0, .tmp 26), (1, .tmp 27), (2, .tmp 28)] rfl (cells := C.toArray) ?_ ?_); (refine Eq.trans (congrArg _ ?_) hbt; kernel_rfl); refine RowKit.Hid.out ?_))
    refine Lib.hid ?_
    refine wpList_alloc_blk rfl 31 rfl hZ0 ?_
    try simp only [Act.put, List.setIfInBounds_toArray, List.set_cons_zero, List.set_cons_succ]
    have bA := below1 w8 (.cells Z.toArray 31)
    have hOA := Blk.new w8 31 Z
    have hGl : G < w8.heap.size := hG8H.out.1.lt
    obtain ⟨O, hO⟩ : ∃ N, w8.heap.size = N := ⟨_, rfl⟩
    rw [hO] at hOA hGl ⊢
    have nGO := Lib.hid hGl
    obtain ⟨U, hU⟩ : ∃ W, w8.alloc (.cells Z.toArray 31) = W := ⟨_, rfl⟩
    rw [hU] at bA hOA ⊢
    have hOH := Lib.hid hO
    clear hU hO hGl hN8 hM8
    refine store_row rfl 31 (.tmp 9) (.tmp 29) rfl rfl rfl hOA rowBk hDl8 hZl hD18 ?_
    intro w9 hO9 hg9
    have b9 : Below w8.heap.size w8 w9 := bA.grown hg9 bA.size (fun q hq => by injection hq with hq; have := hOH.out; omega)
    clear bA hOA hg9
    have b9H := Lib.hid b9
    have cr := hRt8.out w9 b9
    clear hRt8 b9
    go_wp2_with ((with_reducible refine wpList_load_blk rfl 31 (.tmp 9) rfl ?_ hO9 rowBk hDl8 ?_); rfl)
    refine cr.mono ?_
    rintro r w10 ⟨rfl, b10⟩
    have hO10 := hO9.keep b10 hO9.lt
    have bb : Below w8.heap.size w8 w10 := b9H.out.trans (b10.mono b9H.out.size)
    have hG10 := hG8H.out.1.keep bb hG8H.out.1.lt
    have hB10 := hG8H.out.2.trans (bb.mono hG8H.out.2.size)
    have hT10 := hT8H.out.keep bb
    clear cr hO9 b10 bb b9H hG8H hT8H
    cases K with
    | true =>
      go_wp2_with ((with_reducible refine wpList_load_blk rfl 31 (.tmp 9) rfl ?_ hO10 rowBk hDl8 ?_); rfl; refine RowKit.Hid.out ?_)
      refine Lib.hid ?_
      try simp only [Act.put, List.setIfInBounds_toArray, List.set_cons_zero, List.set_cons_succ]
      refine store_row rfl 31 (.tmp 2) (.tmp 34) rfl rfl rfl hG10 rowBk hDl8 hZl hD18 ?_
      intro wY hGY hgY
      have hrC : IsRow Try.prog 31 C.length := by rw [hDl8]; exact rowBk
      have hBY := hB10.grown hgY hB10.size (fun q hq => by injection hq with hq; have := gH.out; omega)
      have hTY : IdsAt wY tb m4 td zs := by
        refine ⟨hT10.1, hT10.2.1, ?_⟩
        rcases hT10.2.2 with h0 | ⟨b', off, ha, hc⟩
        · exact .inl h0
        · exact .inr ⟨b', off, ha, fun i hi => hgY.cell (hc i hi) (fun e => by injection e with e; exact (hlo.out _ ha).2 e)⟩
      go_wp2_with fail
      refine bodyPost_ret (results_blk_tmp rfl rfl hGY hrC) rfl ?_
      unfold DecEndB
      rw [hdkH.out]
      refine ⟨tb, td, ?_, hTY, fun x hx => (hlo.out x hx).1, hBY⟩
      rw [← hCH.out, ← hDeH.out]
      rfl
    | false =>
      go_wp2_with ((with_reducible refine build_row rfl 31 #[] rfl (cells := Z.toArray) ?_ ?_); (refine Eq.trans (congrArg _ ?_) hbt0; kernel_rfl); refine RowKit.Hid.out ?_)
      refine Lib.hid ?_
      try simp only [Act.put, List.setIfInBounds_toArray, List.set_cons_zero, List.set_cons_succ]
      refine store_row rfl 31 (.tmp 2) (.tmp 33) rfl rfl rfl hG10 rowBk hZl hZl hZ1 ?_
      intro wY hGY hgY
      have hrZ : IsRow Try.prog 31 Z.length := by rw [hZl]; exact rowBk
      have hBY := hB10.grown hgY hB10.size (fun q hq => by injection hq with hq; have := gH.out; omega)
      go_wp2_with fail
      refine bodyPost_ret (results_blk_tmp rfl rfl hGY hrZ) rfl ?_
      unfold DecEndB
      rw [hdkH.out]
      exact ⟨none, 0, by rw [← hZH.out]; rfl, ids_nil _, (fun x hx => by cases hx), hBY⟩
  · have hnz : ¬ E = 0 := hE0
    have hnb : (E != 0) = true := bne_iff_ne.2 hE0
    have hdk := hend1H.out hE0
    have hdkH := Lib.hid hdk
    clear hN8 hM8 hT8 hdk hend1H hend2H hRt
    go_wp2_with ((with_reducible refine build_row rfl 31 #[] rfl (cells := Z.toArray) ?_ ?_); (refine Eq.trans (congrArg _ ?_) hbt0; kernel_rfl); refine RowKit.Hid.out ?_)
    refine Lib.hid ?_
    refine wpList_mv rfl (.tmp 8) rfl rfl ?_
    try simp only [Act.put, List.setIfInBounds_toArray, List.set_cons_zero, List.set_cons_succ]
    refine store_row rfl 31 (.tmp 2) (.tmp 24) rfl rfl rfl hG8 rowBk hZl hZl hZ1 ?_
    intro wY hGY hgY
    have hrZ : IsRow Try.prog 31 Z.length := by rw [hZl]; exact rowBk
    have hBY := hB8.grown hgY hB8.size (fun q hq => by injection hq with hq; have := gH.out; omega)
    go_wp2_with fail
    refine bodyPost_ret (results_blk_tmp rfl rfl hGY hrZ) rfl ?_
    unfold DecEndB
    rw [hdkH.out]
    exact ⟨none, 0, by rw [← hZH.out]; rfl, ids_nil _, (fun x hx => by cases hx), hBY⟩
end Go.Proofs.Ytaaflnmdaplfkaa

/-
  What record's Right comes to. New memory alone is written. Conditions: the fields' ranges; at most a hundred thousand ids.
-/
namespace Go.Proofs.Ytaaflnmdaplfkaa
open Go.RowKit

theorem mays (s q o : Int) (g x : List Int) (b : BlkV) : mayC ⟨⟨1, s, q, o, g, x⟩, b⟩ = (decide (1 ≤ o) && decide (o ≤ 64)) ∧ mayC ⟨⟨2, s, q, o, g, x⟩, b⟩ = decide (x.length ≤ 600) ∧ mayC ⟨⟨4, s, q, o, g, x⟩, b⟩ = true ∧ mayC ⟨⟨5, s, q, o, g, x⟩, b⟩ = rightK b ∧ mayC ⟨⟨6, s, q, o, g, x⟩, b⟩ = true := ⟨rfl, rfl, rfl, rfl, rfl⟩
theorem owns (s q o : Int) (g x : List Int) (b : BlkV) : ownC ⟨⟨1, s, q, o, g, x⟩, b⟩ = ⟨⟨1, s, 0, o, z16, []⟩, noBlk⟩ ∧ ownC ⟨⟨2, s, q, o, g, x⟩, b⟩ = ⟨⟨2, s, q, 0, g, x⟩, noBlk⟩ ∧ ownC ⟨⟨4, s, q, o, g, x⟩, b⟩ = ⟨⟨4, s, 0, 0, z16, []⟩, noBlk⟩ ∧
    ownC ⟨⟨5, s, q, o, g, x⟩, b⟩ = ⟨⟨5, 0, 0, 0, z16, []⟩, b⟩ ∧ ownC ⟨⟨6, s, q, o, g, x⟩, b⟩ = ⟨⟨6, 0, 0, 0, z16, []⟩, bareK b⟩ := ⟨rfl, rfl, rfl, rfl, rfl⟩

set_option maxRecDepth 100000 in
set_option maxHeartbeats 4000000 in
theorem kcRight_1 (S Q O : Int) (H xs h p : List Int) (m : Nat) (zs : List Int) (a b : Option Addr) (c d : Nat) (w : World) (hr : RecOk ⟨⟨1, S, Q, O, H, xs⟩, ⟨h, p, m, zs⟩⟩) (hI : RecAt w ⟨⟨1, S, Q, O, H, xs⟩, ⟨h, p, m, zs⟩⟩ a c b d) (hn : m ≤ 100000) :
    Calls Try.prog 10 #[.agg (rC ⟨⟨1, S, Q, O, H, xs⟩, ⟨h, p, m, zs⟩⟩ a c b d).toArray] w fun q w' => q = .returned (.bool (rightRec ⟨⟨1, S, Q, O, H, xs⟩, ⟨h, p, m, zs⟩⟩)) ∧ Below w.heap.size w w' := by
  rw [rightRec_own, (mays _ _ _ _ _ _).1, (owns _ _ _ _ _ _).1]
  have hRO : RecOk ⟨⟨1, S, 0, O, z16, []⟩, noBlk⟩ := ⟨ok_msg hr.1.ses zero_ok hr.1.quo rfl z16_range okB_nil, noBlk_ok⟩
  obtain ⟨K, hK⟩ : ∃ K : Int, 1 = K := ⟨_, rfl⟩
  rw [hK] at hr hI hRO ⊢
  obtain ⟨⟨_, _, _, hl, hhr, hx⟩, ⟨hh, hp, hzl, hho, hpo, hzo⟩⟩ := id hr
  dsimp only at hl hhr hx hh hp hzl hho hpo hzo
  have hln := hI.1.len
  dsimp only at hln
  have hCl := rcC_len (K := K) (S := S) (Q := Q) (O := O) (a := a) (n := xs.length) (c := c) (b := b) (m := m) (d := d) hl hh hp
  have e0 := Lib.hid (fun w' g (k : Blk w' g 33 (rcC K S Q O H a xs.length c h p b m d)) => rc0 k)
  have e1 := Lib.hid (fun w' g (k : Blk w' g 33 (rcC K S Q O H a xs.length c h p b m d)) => rc1 k)
  have e2 := Lib.hid (fun w' g (k : Blk w' g 33 (rcC K S Q O H a xs.length c h p b m d)) => rc2 k)
  have e3 := Lib.hid (fun w' g (k : Blk w' g 33 (rcC K S Q O H a xs.length c h p b m d)) => rc3 k)
  have e4 := Lib.hid (fun w' g (k : Blk w' g 33 (rcC K S Q O H a xs.length c h p b m d)) => rc4 k)
  have e5 := Lib.hid (fun w' g (k : Blk w' g 33 (rcC K S Q O H a xs.length c h p b m d)) => rc5 k hl)
  have e6 := Lib.hid (fun w' g (k : Blk w' g 33 (rcC K S Q O H a xs.length c h p b m d)) => rc6 k hl)
  have e7 := Lib.hid (fun w' g (k : Blk w' g 33 (rcC K S Q O H a xs.length c h p b m d)) => rc7 k hl)
  have hsm := fun w' (s : RecV) a' c' b' d' (k : Below w.heap.size w w') (hs : RecOk s) (hJ : RecAt w' s a' c' b' d') => kcSame_any ⟨⟨K, S, Q, O, H, xs⟩, ⟨h, p, m, zs⟩⟩ s a b a' b' c d c' d' w' hr hs (hI.keep k) hJ hn
  unfold rC at hsm ⊢
  dsimp only at hsm hn ⊢
  obtain ⟨C, hC⟩ : ∃ C, rcC K S Q O H a xs.length c h p b m d = C := ⟨_, rfl⟩
  rw [hC] at hsm hCl e0 e1 e2 e3 e4 e5 e6 e7
  rw [hC]
  have hsm := Lib.hid hsm
  have hrC : IsRow Try.prog 33 C.length := rowRc_of hCl
  have hbt := built_rc1 K
  have hEl := rcC_len (K := K) (S := 0) (Q := 0) (O := 0) (H := z16) (a := none) (n := 0) (c := 0) (h := z32) (p := z32) (b := none) (m := 0) (d := 0) rfl rfl rfl
  have hE1 := rcC_one (K := K) (S := 0) (Q := 0) (O := 0) (H := z16) (a := none) (n := 0) (c := 0) (h := z32) (p := z32) (b := none) (m := 0) (d := 0)
  obtain ⟨E, hE⟩ : ∃ E, rcC K 0 0 0 z16 none 0 0 z32 z32 none 0 0 = E := ⟨_, rfl⟩
  rw [hE] at hbt hEl hE1
  have hEH := Lib.hid hE
  obtain ⟨Z, hZ⟩ : ∃ Z, rC noRec none 0 none 0 = Z := ⟨_, rfl⟩
  have hZ0 : Zero Try.prog 33 Z := by rw [← hZ]; exact zeroRc
  have hZl : Z.length = 86 := by rw [← hZ]; exact rC_len noRec_ok _ _ _ _
  have hb := below1 w (.cells C.toArray 33)
  have hk : Blk (w.alloc (.cells C.toArray 33)) w.heap.size 33 C := Blk.new w _ C
  obtain ⟨V, hV⟩ : ∃ V, w.alloc (.cells C.toArray 33) = V := ⟨_, rfl⟩
  rw [hV] at hb hk
  obtain ⟨G, g9⟩ : ∃ G, w.heap.size = G := ⟨_, rfl⟩
  rw [g9] at hk
  have gH := Lib.hid g9
  have c0 := e0.out V G hk
  clear hE hZ hC
  have hs1 := fun w' k => hsm.out w' ⟨⟨K, S, 0, O, z16, []⟩, noBlk⟩ none 0 none 0 k hRO ⟨⟨rfl, Nat.le_refl _, .inl rfl⟩, ⟨rfl, Nat.le_refl _, .inl rfl⟩⟩
  obtain ⟨T, hT⟩ : ∃ T, sameRec ⟨⟨K, S, Q, O, H, xs⟩, ⟨h, p, m, zs⟩⟩ ⟨⟨K, S, 0, O, z16, []⟩, noBlk⟩ = T := ⟨_, rfl⟩
  rw [hT] at hs1 ⊢
  dsimp only [List.length_nil, noBlk] at hs1
  have x1 := rcC_set1 (K := K) (S := 0) (Q := 0) (O := 0) (H := z16) (a := none) (n := 0) (c := 0) (h := z32) (p := z32) (b := none) (m := 0) (d := 0) S
  have x3 := rcC_set3 (K := K) (S := S) (Q := 0) (O := 0) (H := z16) (a := none) (n := 0) (c := 0) (h := z32) (p := z32) (b := none) (m := 0) (d := 0) O
  have f1 := fun w' g (k : Blk w' g 33 (rcC K 0 0 0 z16 none 0 0 z32 z32 none 0 0)) => rc1 k
  have f3 := fun w' g (k : Blk w' g 33 (rcC K S 0 0 z16 none 0 0 z32 z32 none 0 0)) => rc3 k
  rw [hEH.out] at x1 f1
  have hFl := rcC_len (K := K) (S := S) (Q := 0) (O := O) (H := z16) (a := none) (n := 0) (c := 0) (h := z32) (p := z32) (b := none) (m := 0) (d := 0) rfl rfl rfl
  obtain ⟨E1, hE1e⟩ : ∃ E, rcC K S 0 0 z16 none 0 0 z32 z32 none 0 0 = E := ⟨_, rfl⟩
  obtain ⟨F, hF⟩ : ∃ E, rcC K S 0 O z16 none 0 0 z32 z32 none 0 0 = E := ⟨_, rfl⟩
  rw [hE1e] at x1 x3 f3
  rw [hF] at x3 hs1 hFl
  have hX := Lib.hid (And.intro x1 x3)
  have f1 := Lib.hid f1
  have f3 := Lib.hid f3
  have hs1 := Lib.hid hs1
  clear hsm hE1e hF hr hI hRO x1 x3 hT
  subst hK
  by_cases o1 : 1 ≤ O
  · rw [decide_eq_true o1, Bool.true_and]
    by_cases o2 : O ≤ 64
    · rw [decide_eq_true o2, Bool.true_and]
      go_enter Try.func10, Try.ntmps10
      go_wp2_with ((with_reducible refine box_row rfl 33 (.tmp 0) rfl C ?_ ?_); rfl; refine RowKit.Hid.out ?_)
      refine Lib.hid ?_
      clear hV
      go_wp2_with ((with_reducible refine build_row rfl 33 #[(0, .tmp 6)] rfl (cells := E.toArray) ?_ ?_); (refine Eq.trans (congrArg _ ?_) hbt; kernel_rfl); refine RowKit.Hid.out ?_)
      refine Lib.hid ?_
      refine wpList_alloc_blk rfl 33 rfl hZ0 ?_
      try simp only [Act.put, List.setIfInBounds_toArray, List.set_cons_zero, List.set_cons_succ]
      have hkA := hk.alloc (.cells Z.toArray 33)
      have hnA := Blk.new V 33 Z
      have hBA := hb.alloc hb.size (.cells Z.toArray 33)
      have hnG : G < V.heap.size := hk.lt
      obtain ⟨N, hN⟩ : ∃ N, V.heap.size = N := ⟨_, rfl⟩
      rw [hN] at hnA hnG ⊢
      obtain ⟨U, hU⟩ : ∃ W, V.alloc (.cells Z.toArray 33) = W := ⟨_, rfl⟩
      rw [hU] at hkA hnA hBA ⊢
      have nGN := Lib.hid hnG
      clear hk hb hN hU c0
      refine store_row rfl 33 (.tmp 3) (.tmp 7) rfl rfl rfl hnA rowRc hEl hZl hE1 ?_
      intro w2 hn2 hg2
      have hk2 := hkA.grown hg2 (fun e => by injection e with e; omega)
      have B2 := hBA.grown hg2 hBA.size (fun q hq => by injection hq with hq; have := gH.out; omega)
      have c0 := e0.out w2 G hk2
      clear hkA hnA hBA hg2 hnG g9
      go_wp2_with fail
      obtain ⟨V5, hV5⟩ : ∃ V, w2.drew = V := ⟨_, rfl⟩
      have hk5 : Blk V5 G 33 C := by rw [← hV5]; exact hk2
      have hn5 : Blk V5 N 33 E := by rw [← hV5]; exact hn2
      have B5 : Below w.heap.size w V5 := by rw [← hV5]; exact Below.drew B2
      have hwN : w.heap.size ≤ N := by have := nGN.out; have := gH.out; omega
      have hkS := Lib.hid (hk5.far (p := ⟨N, 1, none⟩) (by show G ≠ N; have := nGN.out; omega) (.int .u32 S))
      have hnS := hn5.set 1 (.int .u32 S)
      rw [hX.out.1] at hnS
      have BS := B5.setCell (p := ⟨N, 1, none⟩) hwN (.int .u32 S)
      have g1 := f1.out V5 N hn5
      have z1 := hn5.frozen 1
      refine region_seqS (fun w' => Blk w' G 33 C) (by kernel_rfl) hk2 ?_
      simp only [pairs, Nat.reduceAdd]
      try rw [hV5]
      clear hV5 hk2 hn2 B2 c0
      repeat (first
        | (refine SeqS.take (v := ?_) (by first | assumption | trivial) (by kernel_rfl) (by decide +kernel) (by decide +kernel) (Or.inl ⟨by rfl, ?_⟩) ?_
           rotate_left
           focus
             intro w' hb'
             go_simp
             with_reducible rfl
           simp only [Act.put, List.setIfInBounds_toArray, List.set_cons_zero, List.set_cons_succ])
        | (refine SeqS.take (v := ?_) (by first | assumption | trivial) (by kernel_rfl) (by decide +kernel) (by decide +kernel) (Or.inl ⟨by rfl, ?_⟩) ?_
           rotate_left
           focus
             intro w' hb'
             have d0 := e1.out w' G hb'
             go_simp
             with_reducible rfl
           simp only [Act.put, List.setIfInBounds_toArray, List.set_cons_zero, List.set_cons_succ])
        | (refine SeqS.take (v := ?_) (by first | assumption | trivial) (by kernel_rfl) (by decide +kernel) (by decide +kernel) (Or.inl ⟨by rfl, ?_⟩) ?_
           rotate_left
           focus
             intro w' hb'
             have d0 := e3.out w' G hb'
             go_simp
             with_reducible rfl
           simp only [Act.put, List.setIfInBounds_toArray, List.set_cons_zero, List.set_cons_succ])
        | (refine SeqS.take (v := undef) (by first | assumption | trivial) (by kernel_rfl) (by decide +kernel) (by decide +kernel) (Or.inr ⟨by rfl, rfl⟩) ?_
           simp only [Act.put, List.setIfInBounds_toArray, List.set_cons_zero, List.set_cons_succ])
        | (refine SeqS.take1 (v := ?_) (by first | assumption | trivial) (by kernel_rfl) (by decide +kernel) (by decide +kernel) (Or.inl ⟨by rfl, ?_⟩) ?_
           rotate_left
           focus
             intro w' hb'
             go_simp
             with_reducible rfl
           simp only [Act.put, List.setIfInBounds_toArray, List.set_cons_zero, List.set_cons_succ])
        | (refine SeqS.take1 (v := ?_) (by first | assumption | trivial) (by kernel_rfl) (by decide +kernel) (by decide +kernel) (Or.inl ⟨by rfl, ?_⟩) ?_
           rotate_left
           focus
             intro w' hb'
             have d0 := e1.out w' G hb'
             go_simp
             with_reducible rfl
           simp only [Act.put, List.setIfInBounds_toArray, List.set_cons_zero, List.set_cons_succ])
        | (refine SeqS.take1 (v := ?_) (by first | assumption | trivial) (by kernel_rfl) (by decide +kernel) (by decide +kernel) (Or.inl ⟨by rfl, ?_⟩) ?_
           rotate_left
           focus
             intro w' hb'
             have d0 := e3.out w' G hb'
             go_simp
             with_reducible rfl
           simp only [Act.put, List.setIfInBounds_toArray, List.set_cons_zero, List.set_cons_succ])
        | (refine SeqS.take1 (v := undef) (by first | assumption | trivial) (by kernel_rfl) (by decide +kernel) (by decide +kernel) (Or.inr ⟨by rfl, rfl⟩) ?_
           simp only [Act.put, List.setIfInBounds_toArray, List.set_cons_zero, List.set_cons_succ])
        | (refine SeqS.take2 (v := ?_) (by first | assumption | trivial) (by kernel_rfl) (by decide +kernel) (by decide +kernel) (Or.inl ⟨by rfl, ?_⟩) ?_
           rotate_left
           focus
             intro w' hb'
             go_simp
             with_reducible rfl
           simp only [Act.put, List.setIfInBounds_toArray, List.set_cons_zero, List.set_cons_succ])
        | (refine SeqS.take2 (v := ?_) (by first | assumption | trivial) (by kernel_rfl) (by decide +kernel) (by decide +kernel) (Or.inl ⟨by rfl, ?_⟩) ?_
           rotate_left
           focus
             intro w' hb'
             have d0 := e1.out w' G hb'
             go_simp
             with_reducible rfl
           simp only [Act.put, List.setIfInBounds_toArray, List.set_cons_zero, List.set_cons_succ])
        | (refine SeqS.take2 (v := ?_) (by first | assumption | trivial) (by kernel_rfl) (by decide +kernel) (by decide +kernel) (Or.inl ⟨by rfl, ?_⟩) ?_
           rotate_left
           focus
             intro w' hb'
             have d0 := e3.out w' G hb'
             go_simp
             with_reducible rfl
           simp only [Act.put, List.setIfInBounds_toArray, List.set_cons_zero, List.set_cons_succ])
        | (refine SeqS.take2 (v := undef) (by first | assumption | trivial) (by kernel_rfl) (by decide +kernel) (by decide +kernel) (Or.inr ⟨by rfl, rfl⟩) ?_
           simp only [Act.put, List.setIfInBounds_toArray, List.set_cons_zero, List.set_cons_succ])
        | (refine SeqS.take3 (v := ?_) (by first | assumption | trivial) (by kernel_rfl) (by decide +kernel) (by decide +kernel) (Or.inl ⟨by rfl, ?_⟩) ?_
           rotate_left
           focus
             intro w' hb'
             go_simp
             with_reducible rfl
           simp only [Act.put, List.setIfInBounds_toArray, List.set_cons_zero, List.set_cons_succ])
        | (refine SeqS.take3 (v := ?_) (by first | assumption | trivial) (by kernel_rfl) (by decide +kernel) (by decide +kernel) (Or.inl ⟨by rfl, ?_⟩) ?_
           rotate_left
           focus
             intro w' hb'
             have d0 := e1.out w' G hb'
             go_simp
             with_reducible rfl
           simp only [Act.put, List.setIfInBounds_toArray, List.set_cons_zero, List.set_cons_succ])
        | (refine SeqS.take3 (v := ?_) (by first | assumption | trivial) (by kernel_rfl) (by decide +kernel) (by decide +kernel) (Or.inl ⟨by rfl, ?_⟩) ?_
           rotate_left
           focus
             intro w' hb'
             have d0 := e3.out w' G hb'
             go_simp
             with_reducible rfl
           simp only [Act.put, List.setIfInBounds_toArray, List.set_cons_zero, List.set_cons_succ])
        | (refine SeqS.take3 (v := undef) (by first | assumption | trivial) (by kernel_rfl) (by decide +kernel) (by decide +kernel) (Or.inr ⟨by rfl, rfl⟩) ?_
           simp only [Act.put, List.setIfInBounds_toArray, List.set_cons_zero, List.set_cons_succ])
        | (refine SeqS.take4 (v := ?_) (by first | assumption | trivial) (by kernel_rfl) (by decide +kernel) (by decide +kernel) (Or.inl ⟨by rfl, ?_⟩) ?_
           rotate_left
           focus
             intro w' hb'
             go_simp
             with_reducible rfl
           simp only [Act.put, List.setIfInBounds_toArray, List.set_cons_zero, List.set_cons_succ])
        | (refine SeqS.take4 (v := ?_) (by first | assumption | trivial) (by kernel_rfl) (by decide +kernel) (by decide +kernel) (Or.inl ⟨by rfl, ?_⟩) ?_
           rotate_left
           focus
             intro w' hb'
             have d0 := e1.out w' G hb'
             go_simp
             with_reducible rfl
           simp only [Act.put, List.setIfInBounds_toArray, List.set_cons_zero, List.set_cons_succ])
        | (refine SeqS.take4 (v := ?_) (by first | assumption | trivial) (by kernel_rfl) (by decide +kernel) (by decide +kernel) (Or.inl ⟨by rfl, ?_⟩) ?_
           rotate_left
           focus
             intro w' hb'
             have d0 := e3.out w' G hb'
             go_simp
             with_reducible rfl
           simp only [Act.put, List.setIfInBounds_toArray, List.set_cons_zero, List.set_cons_succ])
        | (refine SeqS.take4 (v := undef) (by first | assumption | trivial) (by kernel_rfl) (by decide +kernel) (by decide +kernel) (Or.inr ⟨by rfl, rfl⟩) ?_
           simp only [Act.put, List.setIfInBounds_toArray, List.set_cons_zero, List.set_cons_succ]))
      refine SeqS.alone (by decide +kernel) (by rfl) (fun K5 hK5 => ?_)
      go_simp
      refine hK5 _ _ hkS.out ?_
      clear hK5 K5 g1 z1 hk5 hn5 B5
      try simp only [Act.put, List.setIfInBounds_toArray, List.set_cons_zero, List.set_cons_succ]
      obtain ⟨V6, hV6⟩ : ∃ V, V5.setCell ⟨N, 1, none⟩ (.int .u32 S) = V := ⟨_, rfl⟩
      rw [hV6] at hkS hnS BS ⊢
      clear hV6
      have hkT := Lib.hid (hkS.out.far (p := ⟨N, 3, none⟩) (by show G ≠ N; have := nGN.out; omega) (.int .u32 O))
      have hnT := hnS.set 3 (.int .u32 O)
      rw [hX.out.2] at hnT
      have BT := BS.setCell (p := ⟨N, 3, none⟩) hwN (.int .u32 O)
      have g3 := f3.out V6 N hnS
      have z3 := hnS.frozen 3
      repeat (first
        | (refine SeqS.take (v := ?_) (by first | assumption | trivial) (by kernel_rfl) (by decide +kernel) (by decide +kernel) (Or.inl ⟨by rfl, ?_⟩) ?_
           rotate_left
           focus
             intro w' hb'
             go_simp
             with_reducible rfl
           simp only [Act.put, List.setIfInBounds_toArray, List.set_cons_zero, List.set_cons_succ])
        | (refine SeqS.take (v := undef) (by first | assumption | trivial) (by kernel_rfl) (by decide +kernel) (by decide +kernel) (Or.inr ⟨by rfl, rfl⟩) ?_
           simp only [Act.put, List.setIfInBounds_toArray, List.set_cons_zero, List.set_cons_succ])
        | (refine SeqS.take1 (v := ?_) (by first | assumption | trivial) (by kernel_rfl) (by decide +kernel) (by decide +kernel) (Or.inl ⟨by rfl, ?_⟩) ?_
           rotate_left
           focus
             intro w' hb'
             go_simp
             with_reducible rfl
           simp only [Act.put, List.setIfInBounds_toArray, List.set_cons_zero, List.set_cons_succ])
        | (refine SeqS.take1 (v := undef) (by first | assumption | trivial) (by kernel_rfl) (by decide +kernel) (by decide +kernel) (Or.inr ⟨by rfl, rfl⟩) ?_
           simp only [Act.put, List.setIfInBounds_toArray, List.set_cons_zero, List.set_cons_succ])
        | (refine SeqS.take2 (v := ?_) (by first | assumption | trivial) (by kernel_rfl) (by decide +kernel) (by decide +kernel) (Or.inl ⟨by rfl, ?_⟩) ?_
           rotate_left
           focus
             intro w' hb'
             go_simp
             with_reducible rfl
           simp only [Act.put, List.setIfInBounds_toArray, List.set_cons_zero, List.set_cons_succ])
        | (refine SeqS.take2 (v := undef) (by first | assumption | trivial) (by kernel_rfl) (by decide +kernel) (by decide +kernel) (Or.inr ⟨by rfl, rfl⟩) ?_
           simp only [Act.put, List.setIfInBounds_toArray, List.set_cons_zero, List.set_cons_succ]))
      refine SeqS.alone (by decide +kernel) (by rfl) (fun K5 hK5 => ?_)
      go_simp
      refine hK5 _ _ hkT.out ?_
      clear hK5 K5 g3 z3 hnS BS hkS
      try simp only [Act.put, List.setIfInBounds_toArray, List.set_cons_zero, List.set_cons_succ]
      obtain ⟨w4, hw4⟩ : ∃ V, V6.setCell ⟨N, 3, none⟩ (.int .u32 O) = V := ⟨_, rfl⟩
      rw [hw4] at hkT hnT BT ⊢
      clear hw4
      refine SeqS.done (by decide +kernel) ?_
      have hk4 := hkT.out
      have hn4 := hnT
      have B4 := BT
      have c3 := e3.out w4 G hk4
      have sm := Lib.hid (hs1.out w4 B4)
      clear hkT hnT BT hs1
      go_wp2_with (first
        | ((with_reducible refine load_if rfl 33 (.tmp 1) rfl ?_ hk4 rowRc hCl ?_); rfl)
        | ((with_reducible refine load_if rfl 33 (.tmp 3) rfl ?_ hn4 rowRc hFl ?_); rfl))
      refine sm.out.mono ?_
      rintro q w5 ⟨rfl, b5⟩
      go_wp2
      go_ret
      exact ⟨by first | rfl | simp, B4.trans (b5.mono B4.size)⟩
    · rw [decide_eq_false o2, Bool.false_and]
      go_enter Try.func10, Try.ntmps10
      go_wp2_with ((with_reducible refine box_row rfl 33 (.tmp 0) rfl C ?_ ?_); rfl; refine RowKit.Hid.out ?_)
      refine Lib.hid ?_
      clear hV
      go_wp2_with ((with_reducible refine build_row rfl 33 #[(0, .tmp 6)] rfl (cells := E.toArray) ?_ ?_); (refine Eq.trans (congrArg _ ?_) hbt; kernel_rfl); refine RowKit.Hid.out ?_)
      refine Lib.hid ?_
      refine wpList_alloc_blk rfl 33 rfl hZ0 ?_
      try simp only [Act.put, List.setIfInBounds_toArray, List.set_cons_zero, List.set_cons_succ]
      have hkA := hk.alloc (.cells Z.toArray 33)
      have hnA := Blk.new V 33 Z
      have hBA := hb.alloc hb.size (.cells Z.toArray 33)
      have hnG : G < V.heap.size := hk.lt
      obtain ⟨N, hN⟩ : ∃ N, V.heap.size = N := ⟨_, rfl⟩
      rw [hN] at hnA hnG ⊢
      obtain ⟨U, hU⟩ : ∃ W, V.alloc (.cells Z.toArray 33) = W := ⟨_, rfl⟩
      rw [hU] at hkA hnA hBA ⊢
      have nGN := Lib.hid hnG
      clear hk hb hN hU c0
      refine store_row rfl 33 (.tmp 3) (.tmp 7) rfl rfl rfl hnA rowRc hEl hZl hE1 ?_
      intro w2 hn2 hg2
      have hk2 := hkA.grown hg2 (fun e => by injection e with e; omega)
      have B2 := hBA.grown hg2 hBA.size (fun q hq => by injection hq with hq; have := gH.out; omega)
      have c0 := e0.out w2 G hk2
      clear hkA hnA hBA hg2 hnG g9
      go_wp2_with fail
      obtain ⟨V5, hV5⟩ : ∃ V, w2.drew = V := ⟨_, rfl⟩
      have hk5 : Blk V5 G 33 C := by rw [← hV5]; exact hk2
      have hn5 : Blk V5 N 33 E := by rw [← hV5]; exact hn2
      have B5 : Below w.heap.size w V5 := by rw [← hV5]; exact Below.drew B2
      have hwN : w.heap.size ≤ N := by have := nGN.out; have := gH.out; omega
      have hkS := Lib.hid (hk5.far (p := ⟨N, 1, none⟩) (by show G ≠ N; have := nGN.out; omega) (.int .u32 S))
      have hnS := hn5.set 1 (.int .u32 S)
      rw [hX.out.1] at hnS
      have BS := B5.setCell (p := ⟨N, 1, none⟩) hwN (.int .u32 S)
      have g1 := f1.out V5 N hn5
      have z1 := hn5.frozen 1
      refine region_seqS (fun w' => Blk w' G 33 C) (by kernel_rfl) hk2 ?_
      simp only [pairs, Nat.reduceAdd]
      try rw [hV5]
      clear hV5 hk2 hn2 B2 c0
      repeat (first
        | (refine SeqS.take (v := ?_) (by first | assumption | trivial) (by kernel_rfl) (by decide +kernel) (by decide +kernel) (Or.inl ⟨by rfl, ?_⟩) ?_
           rotate_left
           focus
             intro w' hb'
             go_simp
             with_reducible rfl
           simp only [Act.put, List.setIfInBounds_toArray, List.set_cons_zero, List.set_cons_succ])
        | (refine SeqS.take (v := ?_) (by first | assumption | trivial) (by kernel_rfl) (by decide +kernel) (by decide +kernel) (Or.inl ⟨by rfl, ?_⟩) ?_
           rotate_left
           focus
             intro w' hb'
             have d0 := e1.out w' G hb'
             go_simp
             with_reducible rfl
           simp only [Act.put, List.setIfInBounds_toArray, List.set_cons_zero, List.set_cons_succ])
        | (refine SeqS.take (v := ?_) (by first | assumption | trivial) (by kernel_rfl) (by decide +kernel) (by decide +kernel) (Or.inl ⟨by rfl, ?_⟩) ?_
           rotate_left
           focus
             intro w' hb'
             have d0 := e3.out w' G hb'
             go_simp
             with_reducible rfl
           simp only [Act.put, List.setIfInBounds_toArray, List.set_cons_zero, List.set_cons_succ])
        | (refine SeqS.take (v := undef) (by first | assumption | trivial) (by kernel_rfl) (by decide +kernel) (by decide +kernel) (Or.inr ⟨by rfl, rfl⟩) ?_
           simp only [Act.put, List.setIfInBounds_toArray, List.set_cons_zero, List.set_cons_succ])
        | (refine SeqS.take1 (v := ?_) (by first | assumption | trivial) (by kernel_rfl) (by decide +kernel) (by decide +kernel) (Or.inl ⟨by rfl, ?_⟩) ?_
           rotate_left
           focus
             intro w' hb'
             go_simp
             with_reducible rfl
           simp only [Act.put, List.setIfInBounds_toArray, List.set_cons_zero, List.set_cons_succ])
        | (refine SeqS.take1 (v := ?_) (by first | assumption | trivial) (by kernel_rfl) (by decide +kernel) (by decide +kernel) (Or.inl ⟨by rfl, ?_⟩) ?_
           rotate_left
           focus
             intro w' hb'
             have d0 := e1.out w' G hb'
             go_simp
             with_reducible rfl
           simp only [Act.put, List.setIfInBounds_toArray, List.set_cons_zero, List.set_cons_succ])
        | (refine SeqS.take1 (v := ?_) (by first | assumption | trivial) (by kernel_rfl) (by decide +kernel) (by decide +kernel) (Or.inl ⟨by rfl, ?_⟩) ?_
           rotate_left
           focus
             intro w' hb'
             have d0 := e3.out w' G hb'
             go_simp
             with_reducible rfl
           simp only [Act.put, List.setIfInBounds_toArray, List.set_cons_zero, List.set_cons_succ])
        | (refine SeqS.take1 (v := undef) (by first | assumption | trivial) (by kernel_rfl) (by decide +kernel) (by decide +kernel) (Or.inr ⟨by rfl, rfl⟩) ?_
           simp only [Act.put, List.setIfInBounds_toArray, List.set_cons_zero, List.set_cons_succ])
        | (refine SeqS.take2 (v := ?_) (by first | assumption | trivial) (by kernel_rfl) (by decide +kernel) (by decide +kernel) (Or.inl ⟨by rfl, ?_⟩) ?_
           rotate_left
           focus
             intro w' hb'
             go_simp
             with_reducible rfl
           simp only [Act.put, List.setIfInBounds_toArray, List.set_cons_zero, List.set_cons_succ])
        | (refine SeqS.take2 (v := ?_) (by first | assumption | trivial) (by kernel_rfl) (by decide +kernel) (by decide +kernel) (Or.inl ⟨by rfl, ?_⟩) ?_
           rotate_left
           focus
             intro w' hb'
             have d0 := e1.out w' G hb'
             go_simp
             with_reducible rfl
           simp only [Act.put, List.setIfInBounds_toArray, List.set_cons_zero, List.set_cons_succ])
        | (refine SeqS.take2 (v := ?_) (by first | assumption | trivial) (by kernel_rfl) (by decide +kernel) (by decide +kernel) (Or.inl ⟨by rfl, ?_⟩) ?_
           rotate_left
           focus
             intro w' hb'
             have d0 := e3.out w' G hb'
             go_simp
             with_reducible rfl
           simp only [Act.put, List.setIfInBounds_toArray, List.set_cons_zero, List.set_cons_succ])
        | (refine SeqS.take2 (v := undef) (by first | assumption | trivial) (by kernel_rfl) (by decide +kernel) (by decide +kernel) (Or.inr ⟨by rfl, rfl⟩) ?_
           simp only [Act.put, List.setIfInBounds_toArray, List.set_cons_zero, List.set_cons_succ])
        | (refine SeqS.take3 (v := ?_) (by first | assumption | trivial) (by kernel_rfl) (by decide +kernel) (by decide +kernel) (Or.inl ⟨by rfl, ?_⟩) ?_
           rotate_left
           focus
             intro w' hb'
             go_simp
             with_reducible rfl
           simp only [Act.put, List.setIfInBounds_toArray, List.set_cons_zero, List.set_cons_succ])
        | (refine SeqS.take3 (v := ?_) (by first | assumption | trivial) (by kernel_rfl) (by decide +kernel) (by decide +kernel) (Or.inl ⟨by rfl, ?_⟩) ?_
           rotate_left
           focus
             intro w' hb'
             have d0 := e1.out w' G hb'
             go_simp
             with_reducible rfl
           simp only [Act.put, List.setIfInBounds_toArray, List.set_cons_zero, List.set_cons_succ])
        | (refine SeqS.take3 (v := ?_) (by first | assumption | trivial) (by kernel_rfl) (by decide +kernel) (by decide +kernel) (Or.inl ⟨by rfl, ?_⟩) ?_
           rotate_left
           focus
             intro w' hb'
             have d0 := e3.out w' G hb'
             go_simp
             with_reducible rfl
           simp only [Act.put, List.setIfInBounds_toArray, List.set_cons_zero, List.set_cons_succ])
        | (refine SeqS.take3 (v := undef) (by first | assumption | trivial) (by kernel_rfl) (by decide +kernel) (by decide +kernel) (Or.inr ⟨by rfl, rfl⟩) ?_
           simp only [Act.put, List.setIfInBounds_toArray, List.set_cons_zero, List.set_cons_succ])
        | (refine SeqS.take4 (v := ?_) (by first | assumption | trivial) (by kernel_rfl) (by decide +kernel) (by decide +kernel) (Or.inl ⟨by rfl, ?_⟩) ?_
           rotate_left
           focus
             intro w' hb'
             go_simp
             with_reducible rfl
           simp only [Act.put, List.setIfInBounds_toArray, List.set_cons_zero, List.set_cons_succ])
        | (refine SeqS.take4 (v := ?_) (by first | assumption | trivial) (by kernel_rfl) (by decide +kernel) (by decide +kernel) (Or.inl ⟨by rfl, ?_⟩) ?_
           rotate_left
           focus
             intro w' hb'
             have d0 := e1.out w' G hb'
             go_simp
             with_reducible rfl
           simp only [Act.put, List.setIfInBounds_toArray, List.set_cons_zero, List.set_cons_succ])
        | (refine SeqS.take4 (v := ?_) (by first | assumption | trivial) (by kernel_rfl) (by decide +kernel) (by decide +kernel) (Or.inl ⟨by rfl, ?_⟩) ?_
           rotate_left
           focus
             intro w' hb'
             have d0 := e3.out w' G hb'
             go_simp
             with_reducible rfl
           simp only [Act.put, List.setIfInBounds_toArray, List.set_cons_zero, List.set_cons_succ])
        | (refine SeqS.take4 (v := undef) (by first | assumption | trivial) (by kernel_rfl) (by decide +kernel) (by decide +kernel) (Or.inr ⟨by rfl, rfl⟩) ?_
           simp only [Act.put, List.setIfInBounds_toArray, List.set_cons_zero, List.set_cons_succ]))
      refine SeqS.alone (by decide +kernel) (by rfl) (fun K5 hK5 => ?_)
      go_simp
      refine hK5 _ _ hkS.out ?_
      clear hK5 K5 g1 z1 hk5 hn5 B5
      try simp only [Act.put, List.setIfInBounds_toArray, List.set_cons_zero, List.set_cons_succ]
      obtain ⟨V6, hV6⟩ : ∃ V, V5.setCell ⟨N, 1, none⟩ (.int .u32 S) = V := ⟨_, rfl⟩
      rw [hV6] at hkS hnS BS ⊢
      clear hV6
      have hkT := Lib.hid (hkS.out.far (p := ⟨N, 3, none⟩) (by show G ≠ N; have := nGN.out; omega) (.int .u32 O))
      have hnT := hnS.set 3 (.int .u32 O)
      rw [hX.out.2] at hnT
      have BT := BS.setCell (p := ⟨N, 3, none⟩) hwN (.int .u32 O)
      have g3 := f3.out V6 N hnS
      have z3 := hnS.frozen 3
      repeat (first
        | (refine SeqS.take (v := ?_) (by first | assumption | trivial) (by kernel_rfl) (by decide +kernel) (by decide +kernel) (Or.inl ⟨by rfl, ?_⟩) ?_
           rotate_left
           focus
             intro w' hb'
             go_simp
             with_reducible rfl
           simp only [Act.put, List.setIfInBounds_toArray, List.set_cons_zero, List.set_cons_succ])
        | (refine SeqS.take (v := undef) (by first | assumption | trivial) (by kernel_rfl) (by decide +kernel) (by decide +kernel) (Or.inr ⟨by rfl, rfl⟩) ?_
           simp only [Act.put, List.setIfInBounds_toArray, List.set_cons_zero, List.set_cons_succ])
        | (refine SeqS.take1 (v := ?_) (by first | assumption | trivial) (by kernel_rfl) (by decide +kernel) (by decide +kernel) (Or.inl ⟨by rfl, ?_⟩) ?_
           rotate_left
           focus
             intro w' hb'
             go_simp
             with_reducible rfl
           simp only [Act.put, List.setIfInBounds_toArray, List.set_cons_zero, List.set_cons_succ])
        | (refine SeqS.take1 (v := undef) (by first | assumption | trivial) (by kernel_rfl) (by decide +kernel) (by decide +kernel) (Or.inr ⟨by rfl, rfl⟩) ?_
           simp only [Act.put, List.setIfInBounds_toArray, List.set_cons_zero, List.set_cons_succ])
        | (refine SeqS.take2 (v := ?_) (by first | assumption | trivial) (by kernel_rfl) (by decide +kernel) (by decide +kernel) (Or.inl ⟨by rfl, ?_⟩) ?_
           rotate_left
           focus
             intro w' hb'
             go_simp
             with_reducible rfl
           simp only [Act.put, List.setIfInBounds_toArray, List.set_cons_zero, List.set_cons_succ])
        | (refine SeqS.take2 (v := undef) (by first | assumption | trivial) (by kernel_rfl) (by decide +kernel) (by decide +kernel) (Or.inr ⟨by rfl, rfl⟩) ?_
           simp only [Act.put, List.setIfInBounds_toArray, List.set_cons_zero, List.set_cons_succ]))
      refine SeqS.alone (by decide +kernel) (by rfl) (fun K5 hK5 => ?_)
      go_simp
      refine hK5 _ _ hkT.out ?_
      clear hK5 K5 g3 z3 hnS BS hkS
      try simp only [Act.put, List.setIfInBounds_toArray, List.set_cons_zero, List.set_cons_succ]
      obtain ⟨w4, hw4⟩ : ∃ V, V6.setCell ⟨N, 3, none⟩ (.int .u32 O) = V := ⟨_, rfl⟩
      rw [hw4] at hkT hnT BT ⊢
      clear hw4
      refine SeqS.done (by decide +kernel) ?_
      have hk4 := hkT.out
      have hn4 := hnT
      have B4 := BT
      have c3 := e3.out w4 G hk4
      have sm := Lib.hid (hs1.out w4 B4)
      clear hkT hnT BT hs1
      go_wp2
      simp only [decide_eq_false (show ¬ O ≤ 64 by omega)]
      go_wp2
      go_ret
      exact ⟨by first | rfl | simp, B4⟩
  · rw [decide_eq_false o1, Bool.false_and, Bool.false_and]
    go_enter Try.func10, Try.ntmps10
    go_wp2_with ((with_reducible refine box_row rfl 33 (.tmp 0) rfl C ?_ ?_); rfl; refine RowKit.Hid.out ?_)
    refine Lib.hid ?_
    clear hV
    go_wp2_with ((with_reducible refine build_row rfl 33 #[(0, .tmp 6)] rfl (cells := E.toArray) ?_ ?_); (refine Eq.trans (congrArg _ ?_) hbt; kernel_rfl); refine RowKit.Hid.out ?_)
    refine Lib.hid ?_
    refine wpList_alloc_blk rfl 33 rfl hZ0 ?_
    try simp only [Act.put, List.setIfInBounds_toArray, List.set_cons_zero, List.set_cons_succ]
    have hkA := hk.alloc (.cells Z.toArray 33)
    have hnA := Blk.new V 33 Z
    have hBA := hb.alloc hb.size (.cells Z.toArray 33)
    have hnG : G < V.heap.size := hk.lt
    obtain ⟨N, hN⟩ : ∃ N, V.heap.size = N := ⟨_, rfl⟩
    rw [hN] at hnA hnG ⊢
    obtain ⟨U, hU⟩ : ∃ W, V.alloc (.cells Z.toArray 33) = W := ⟨_, rfl⟩
    rw [hU] at hkA hnA hBA ⊢
    have nGN := Lib.hid hnG
    clear hk hb hN hU c0
    refine store_row rfl 33 (.tmp 3) (.tmp 7) rfl rfl rfl hnA rowRc hEl hZl hE1 ?_
    intro w2 hn2 hg2
    have hk2 := hkA.grown hg2 (fun e => by injection e with e; omega)
    have B2 := hBA.grown hg2 hBA.size (fun q hq => by injection hq with hq; have := gH.out; omega)
    have c0 := e0.out w2 G hk2
    clear hkA hnA hBA hg2 hnG g9
    go_wp2_with fail
    obtain ⟨V5, hV5⟩ : ∃ V, w2.drew = V := ⟨_, rfl⟩
    have hk5 : Blk V5 G 33 C := by rw [← hV5]; exact hk2
    have hn5 : Blk V5 N 33 E := by rw [← hV5]; exact hn2
    have B5 : Below w.heap.size w V5 := by rw [← hV5]; exact Below.drew B2
    have hwN : w.heap.size ≤ N := by have := nGN.out; have := gH.out; omega
    have hkS := Lib.hid (hk5.far (p := ⟨N, 1, none⟩) (by show G ≠ N; have := nGN.out; omega) (.int .u32 S))
    have hnS := hn5.set 1 (.int .u32 S)
    rw [hX.out.1] at hnS
    have BS := B5.setCell (p := ⟨N, 1, none⟩) hwN (.int .u32 S)
    have g1 := f1.out V5 N hn5
    have z1 := hn5.frozen 1
    refine region_seqS (fun w' => Blk w' G 33 C) (by kernel_rfl) hk2 ?_
    simp only [pairs, Nat.reduceAdd]
    try rw [hV5]
    clear hV5 hk2 hn2 B2 c0
    repeat (first
      | (refine SeqS.take (v := ?_) (by first | assumption | trivial) (by kernel_rfl) (by decide +kernel) (by decide +kernel) (Or.inl ⟨by rfl, ?_⟩) ?_
         rotate_left
         focus
           intro w' hb'
           go_simp
           with_reducible rfl
         simp only [Act.put, List.setIfInBounds_toArray, List.set_cons_zero, List.set_cons_succ])
      | (refine SeqS.take (v := ?_) (by first | assumption | trivial) (by kernel_rfl) (by decide +kernel) (by decide +kernel) (Or.inl ⟨by rfl, ?_⟩) ?_
         rotate_left
         focus
           intro w' hb'
           have d0 := e1.out w' G hb'
           go_simp
           with_reducible rfl
         simp only [Act.put, List.setIfInBounds_toArray, List.set_cons_zero, List.set_cons_succ])
      | (refine SeqS.take (v := ?_) (by first | assumption | trivial) (by kernel_rfl) (by decide +kernel) (by decide +kernel) (Or.inl ⟨by rfl, ?_⟩) ?_
         rotate_left
         focus
           intro w' hb'
           have d0 := e3.out w' G hb'
           go_simp
           with_reducible rfl
         simp only [Act.put, List.setIfInBounds_toArray, List.set_cons_zero, List.set_cons_succ])
      | (refine SeqS.take (v := undef) (by first | assumption | trivial) (by kernel_rfl) (by decide +kernel) (by decide +kernel) (Or.inr ⟨by rfl, rfl⟩) ?_
         simp only [Act.put, List.setIfInBounds_toArray, List.set_cons_zero, List.set_cons_succ])
      | (refine SeqS.take1 (v := ?_) (by first | assumption | trivial) (by kernel_rfl) (by decide +kernel) (by decide +kernel) (Or.inl ⟨by rfl, ?_⟩) ?_
         rotate_left
         focus
           intro w' hb'
           go_simp
           with_reducible rfl
         simp only [Act.put, List.setIfInBounds_toArray, List.set_cons_zero, List.set_cons_succ])
      | (refine SeqS.take1 (v := ?_) (by first | assumption | trivial) (by kernel_rfl) (by decide +kernel) (by decide +kernel) (Or.inl ⟨by rfl, ?_⟩) ?_
         rotate_left
         focus
           intro w' hb'
           have d0 := e1.out w' G hb'
           go_simp
           with_reducible rfl
         simp only [Act.put, List.setIfInBounds_toArray, List.set_cons_zero, List.set_cons_succ])
      | (refine SeqS.take1 (v := ?_) (by first | assumption | trivial) (by kernel_rfl) (by decide +kernel) (by decide +kernel) (Or.inl ⟨by rfl, ?_⟩) ?_
         rotate_left
         focus
           intro w' hb'
           have d0 := e3.out w' G hb'
           go_simp
           with_reducible rfl
         simp only [Act.put, List.setIfInBounds_toArray, List.set_cons_zero, List.set_cons_succ])
      | (refine SeqS.take1 (v := undef) (by first | assumption | trivial) (by kernel_rfl) (by decide +kernel) (by decide +kernel) (Or.inr ⟨by rfl, rfl⟩) ?_
         simp only [Act.put, List.setIfInBounds_toArray, List.set_cons_zero, List.set_cons_succ])
      | (refine SeqS.take2 (v := ?_) (by first | assumption | trivial) (by kernel_rfl) (by decide +kernel) (by decide +kernel) (Or.inl ⟨by rfl, ?_⟩) ?_
         rotate_left
         focus
           intro w' hb'
           go_simp
           with_reducible rfl
         simp only [Act.put, List.setIfInBounds_toArray, List.set_cons_zero, List.set_cons_succ])
      | (refine SeqS.take2 (v := ?_) (by first | assumption | trivial) (by kernel_rfl) (by decide +kernel) (by decide +kernel) (Or.inl ⟨by rfl, ?_⟩) ?_
         rotate_left
         focus
           intro w' hb'
           have d0 := e1.out w' G hb'
           go_simp
           with_reducible rfl
         simp only [Act.put, List.setIfInBounds_toArray, List.set_cons_zero, List.set_cons_succ])
      | (refine SeqS.take2 (v := ?_) (by first | assumption | trivial) (by kernel_rfl) (by decide +kernel) (by decide +kernel) (Or.inl ⟨by rfl, ?_⟩) ?_
         rotate_left
         focus
           intro w' hb'
           have d0 := e3.out w' G hb'
           go_simp
           with_reducible rfl
         simp only [Act.put, List.setIfInBounds_toArray, List.set_cons_zero, List.set_cons_succ])
      | (refine SeqS.take2 (v := undef) (by first | assumption | trivial) (by kernel_rfl) (by decide +kernel) (by decide +kernel) (Or.inr ⟨by rfl, rfl⟩) ?_
         simp only [Act.put, List.setIfInBounds_toArray, List.set_cons_zero, List.set_cons_succ])
      | (refine SeqS.take3 (v := ?_) (by first | assumption | trivial) (by kernel_rfl) (by decide +kernel) (by decide +kernel) (Or.inl ⟨by rfl, ?_⟩) ?_
         rotate_left
         focus
           intro w' hb'
           go_simp
           with_reducible rfl
         simp only [Act.put, List.setIfInBounds_toArray, List.set_cons_zero, List.set_cons_succ])
      | (refine SeqS.take3 (v := ?_) (by first | assumption | trivial) (by kernel_rfl) (by decide +kernel) (by decide +kernel) (Or.inl ⟨by rfl, ?_⟩) ?_
         rotate_left
         focus
           intro w' hb'
           have d0 := e1.out w' G hb'
           go_simp
           with_reducible rfl
         simp only [Act.put, List.setIfInBounds_toArray, List.set_cons_zero, List.set_cons_succ])
      | (refine SeqS.take3 (v := ?_) (by first | assumption | trivial) (by kernel_rfl) (by decide +kernel) (by decide +kernel) (Or.inl ⟨by rfl, ?_⟩) ?_
         rotate_left
         focus
           intro w' hb'
           have d0 := e3.out w' G hb'
           go_simp
           with_reducible rfl
         simp only [Act.put, List.setIfInBounds_toArray, List.set_cons_zero, List.set_cons_succ])
      | (refine SeqS.take3 (v := undef) (by first | assumption | trivial) (by kernel_rfl) (by decide +kernel) (by decide +kernel) (Or.inr ⟨by rfl, rfl⟩) ?_
         simp only [Act.put, List.setIfInBounds_toArray, List.set_cons_zero, List.set_cons_succ])
      | (refine SeqS.take4 (v := ?_) (by first | assumption | trivial) (by kernel_rfl) (by decide +kernel) (by decide +kernel) (Or.inl ⟨by rfl, ?_⟩) ?_
         rotate_left
         focus
           intro w' hb'
           go_simp
           with_reducible rfl
         simp only [Act.put, List.setIfInBounds_toArray, List.set_cons_zero, List.set_cons_succ])
      | (refine SeqS.take4 (v := ?_) (by first | assumption | trivial) (by kernel_rfl) (by decide +kernel) (by decide +kernel) (Or.inl ⟨by rfl, ?_⟩) ?_
         rotate_left
         focus
           intro w' hb'
           have d0 := e1.out w' G hb'
           go_simp
           with_reducible rfl
         simp only [Act.put, List.setIfInBounds_toArray, List.set_cons_zero, List.set_cons_succ])
      | (refine SeqS.take4 (v := ?_) (by first | assumption | trivial) (by kernel_rfl) (by decide +kernel) (by decide +kernel) (Or.inl ⟨by rfl, ?_⟩) ?_
         rotate_left
         focus
           intro w' hb'
           have d0 := e3.out w' G hb'
           go_simp
           with_reducible rfl
         simp only [Act.put, List.setIfInBounds_toArray, List.set_cons_zero, List.set_cons_succ])
      | (refine SeqS.take4 (v := undef) (by first | assumption | trivial) (by kernel_rfl) (by decide +kernel) (by decide +kernel) (Or.inr ⟨by rfl, rfl⟩) ?_
         simp only [Act.put, List.setIfInBounds_toArray, List.set_cons_zero, List.set_cons_succ]))
    refine SeqS.alone (by decide +kernel) (by rfl) (fun K5 hK5 => ?_)
    go_simp
    refine hK5 _ _ hkS.out ?_
    clear hK5 K5 g1 z1 hk5 hn5 B5
    try simp only [Act.put, List.setIfInBounds_toArray, List.set_cons_zero, List.set_cons_succ]
    obtain ⟨V6, hV6⟩ : ∃ V, V5.setCell ⟨N, 1, none⟩ (.int .u32 S) = V := ⟨_, rfl⟩
    rw [hV6] at hkS hnS BS ⊢
    clear hV6
    have hkT := Lib.hid (hkS.out.far (p := ⟨N, 3, none⟩) (by show G ≠ N; have := nGN.out; omega) (.int .u32 O))
    have hnT := hnS.set 3 (.int .u32 O)
    rw [hX.out.2] at hnT
    have BT := BS.setCell (p := ⟨N, 3, none⟩) hwN (.int .u32 O)
    have g3 := f3.out V6 N hnS
    have z3 := hnS.frozen 3
    repeat (first
      | (refine SeqS.take (v := ?_) (by first | assumption | trivial) (by kernel_rfl) (by decide +kernel) (by decide +kernel) (Or.inl ⟨by rfl, ?_⟩) ?_
         rotate_left
         focus
           intro w' hb'
           go_simp
           with_reducible rfl
         simp only [Act.put, List.setIfInBounds_toArray, List.set_cons_zero, List.set_cons_succ])
      | (refine SeqS.take (v := undef) (by first | assumption | trivial) (by kernel_rfl) (by decide +kernel) (by decide +kernel) (Or.inr ⟨by rfl, rfl⟩) ?_
         simp only [Act.put, List.setIfInBounds_toArray, List.set_cons_zero, List.set_cons_succ])
      | (refine SeqS.take1 (v := ?_) (by first | assumption | trivial) (by kernel_rfl) (by decide +kernel) (by decide +kernel) (Or.inl ⟨by rfl, ?_⟩) ?_
         rotate_left
         focus
           intro w' hb'
           go_simp
           with_reducible rfl
         simp only [Act.put, List.setIfInBounds_toArray, List.set_cons_zero, List.set_cons_succ])
      | (refine SeqS.take1 (v := undef) (by first | assumption | trivial) (by kernel_rfl) (by decide +kernel) (by decide +kernel) (Or.inr ⟨by rfl, rfl⟩) ?_
         simp only [Act.put, List.setIfInBounds_toArray, List.set_cons_zero, List.set_cons_succ])
      | (refine SeqS.take2 (v := ?_) (by first | assumption | trivial) (by kernel_rfl) (by decide +kernel) (by decide +kernel) (Or.inl ⟨by rfl, ?_⟩) ?_
         rotate_left
         focus
           intro w' hb'
           go_simp
           with_reducible rfl
         simp only [Act.put, List.setIfInBounds_toArray, List.set_cons_zero, List.set_cons_succ])
      | (refine SeqS.take2 (v := undef) (by first | assumption | trivial) (by kernel_rfl) (by decide +kernel) (by decide +kernel) (Or.inr ⟨by rfl, rfl⟩) ?_
         simp only [Act.put, List.setIfInBounds_toArray, List.set_cons_zero, List.set_cons_succ]))
    refine SeqS.alone (by decide +kernel) (by rfl) (fun K5 hK5 => ?_)
    go_simp
    refine hK5 _ _ hkT.out ?_
    clear hK5 K5 g3 z3 hnS BS hkS
    try simp only [Act.put, List.setIfInBounds_toArray, List.set_cons_zero, List.set_cons_succ]
    obtain ⟨w4, hw4⟩ : ∃ V, V6.setCell ⟨N, 3, none⟩ (.int .u32 O) = V := ⟨_, rfl⟩
    rw [hw4] at hkT hnT BT ⊢
    clear hw4
    refine SeqS.done (by decide +kernel) ?_
    have hk4 := hkT.out
    have hn4 := hnT
    have B4 := BT
    have c3 := e3.out w4 G hk4
    have sm := Lib.hid (hs1.out w4 B4)
    clear hkT hnT BT hs1
    go_wp2
    go_ret
    exact ⟨by first | rfl | simp, B4⟩
end Go.Proofs.Ytaaflnmdaplfkaa

/-
  What record's Right comes to, of an Upload and of a Close. New memory alone is written. Conditions: the fields' ranges; at most a hundred thousand ids.
-/
namespace Go.Proofs.Ytaaflnmdaplfkaa
open Go.RowKit

set_option maxRecDepth 100000 in
set_option maxHeartbeats 4000000 in
theorem kcRight_2 (S Q O : Int) (H xs h p : List Int) (m : Nat) (zs : List Int) (a b : Option Addr) (c d : Nat) (w : World) (hr : RecOk ⟨⟨2, S, Q, O, H, xs⟩, ⟨h, p, m, zs⟩⟩) (hI : RecAt w ⟨⟨2, S, Q, O, H, xs⟩, ⟨h, p, m, zs⟩⟩ a c b d) (hn : m ≤ 100000) :
    Calls Try.prog 10 #[.agg (rC ⟨⟨2, S, Q, O, H, xs⟩, ⟨h, p, m, zs⟩⟩ a c b d).toArray] w fun q w' => q = .returned (.bool (rightRec ⟨⟨2, S, Q, O, H, xs⟩, ⟨h, p, m, zs⟩⟩)) ∧ Below w.heap.size w w' := by
  rw [rightRec_own, (mays _ _ _ _ _ _).2.1, (owns _ _ _ _ _ _).2.1]
  have hRO : RecOk ⟨⟨2, S, Q, 0, H, xs⟩, noBlk⟩ := ⟨ok_msg hr.1.ses hr.1.seq zero_ok hr.1.hl hr.1.hr hr.1.br, noBlk_ok⟩
  obtain ⟨K, hK⟩ : ∃ K : Int, 2 = K := ⟨_, rfl⟩
  rw [hK] at hr hI hRO ⊢
  obtain ⟨⟨_, _, _, hl, hhr, hx⟩, ⟨hh, hp, hzl, hho, hpo, hzo⟩⟩ := id hr
  dsimp only at hl hhr hx hh hp hzl hho hpo hzo
  have hln := hI.1.len
  dsimp only at hln
  have hCl := rcC_len (K := K) (S := S) (Q := Q) (O := O) (a := a) (n := xs.length) (c := c) (b := b) (m := m) (d := d) hl hh hp
  have e0 := Lib.hid (fun w' g (k : Blk w' g 33 (rcC K S Q O H a xs.length c h p b m d)) => rc0 k)
  have e1 := Lib.hid (fun w' g (k : Blk w' g 33 (rcC K S Q O H a xs.length c h p b m d)) => rc1 k)
  have e2 := Lib.hid (fun w' g (k : Blk w' g 33 (rcC K S Q O H a xs.length c h p b m d)) => rc2 k)
  have e3 := Lib.hid (fun w' g (k : Blk w' g 33 (rcC K S Q O H a xs.length c h p b m d)) => rc3 k)
  have e4 := Lib.hid (fun w' g (k : Blk w' g 33 (rcC K S Q O H a xs.length c h p b m d)) => rc4 k)
  have e5 := Lib.hid (fun w' g (k : Blk w' g 33 (rcC K S Q O H a xs.length c h p b m d)) => rc5 k hl)
  have e6 := Lib.hid (fun w' g (k : Blk w' g 33 (rcC K S Q O H a xs.length c h p b m d)) => rc6 k hl)
  have e7 := Lib.hid (fun w' g (k : Blk w' g 33 (rcC K S Q O H a xs.length c h p b m d)) => rc7 k hl)
  have hsm := fun w' (s : RecV) a' c' b' d' (k : Below w.heap.size w w') (hs : RecOk s) (hJ : RecAt w' s a' c' b' d') => kcSame_any ⟨⟨K, S, Q, O, H, xs⟩, ⟨h, p, m, zs⟩⟩ s a b a' b' c d c' d' w' hr hs (hI.keep k) hJ hn
  unfold rC at hsm ⊢
  dsimp only at hsm hn ⊢
  obtain ⟨C, hC⟩ : ∃ C, rcC K S Q O H a xs.length c h p b m d = C := ⟨_, rfl⟩
  rw [hC] at hsm hCl e0 e1 e2 e3 e4 e5 e6 e7
  rw [hC]
  have hsm := Lib.hid hsm
  have hrC : IsRow Try.prog 33 C.length := rowRc_of hCl
  have hbt := built_rc1 K
  have hEl := rcC_len (K := K) (S := 0) (Q := 0) (O := 0) (H := z16) (a := none) (n := 0) (c := 0) (h := z32) (p := z32) (b := none) (m := 0) (d := 0) rfl rfl rfl
  have hE1 := rcC_one (K := K) (S := 0) (Q := 0) (O := 0) (H := z16) (a := none) (n := 0) (c := 0) (h := z32) (p := z32) (b := none) (m := 0) (d := 0)
  obtain ⟨E, hE⟩ : ∃ E, rcC K 0 0 0 z16 none 0 0 z32 z32 none 0 0 = E := ⟨_, rfl⟩
  rw [hE] at hbt hEl hE1
  have hEH := Lib.hid hE
  obtain ⟨Z, hZ⟩ : ∃ Z, rC noRec none 0 none 0 = Z := ⟨_, rfl⟩
  have hZ0 : Zero Try.prog 33 Z := by rw [← hZ]; exact zeroRc
  have hZl : Z.length = 86 := by rw [← hZ]; exact rC_len noRec_ok _ _ _ _
  have hb := below1 w (.cells C.toArray 33)
  have hk : Blk (w.alloc (.cells C.toArray 33)) w.heap.size 33 C := Blk.new w _ C
  obtain ⟨V, hV⟩ : ∃ V, w.alloc (.cells C.toArray 33) = V := ⟨_, rfl⟩
  rw [hV] at hb hk
  obtain ⟨G, g9⟩ : ∃ G, w.heap.size = G := ⟨_, rfl⟩
  rw [g9] at hk
  have gH := Lib.hid g9
  have c0 := e0.out V G hk
  clear hE hZ hC
  have hs1 := fun w' (k : Below w.heap.size w w') => hsm.out w' ⟨⟨K, S, Q, 0, H, xs⟩, noBlk⟩ a c none 0 k hRO ⟨hI.1.keep k, ⟨rfl, Nat.le_refl _, .inl rfl⟩⟩
  obtain ⟨T, hT⟩ : ∃ T, sameRec ⟨⟨K, S, Q, O, H, xs⟩, ⟨h, p, m, zs⟩⟩ ⟨⟨K, S, Q, 0, H, xs⟩, noBlk⟩ = T := ⟨_, rfl⟩
  rw [hT] at hs1 ⊢
  dsimp only [noBlk] at hs1
  obtain ⟨n, hnx⟩ : ∃ n, xs.length = n := ⟨_, rfl⟩
  rw [hnx] at e5 hs1 ⊢
  have x1 := rcC_set1 (K := K) (S := 0) (Q := 0) (O := 0) (H := z16) (a := none) (n := 0) (c := 0) (h := z32) (p := z32) (b := none) (m := 0) (d := 0) S
  have x2 := rcC_set2 (K := K) (S := S) (Q := 0) (O := 0) (H := z16) (a := none) (n := 0) (c := 0) (h := z32) (p := z32) (b := none) (m := 0) (d := 0) Q
  have x4 := rcC_over4 (K := K) (S := S) (Q := Q) (O := 0) (H := z16) (a := none) (n := 0) (c := 0) (h := z32) (p := z32) (b := none) (m := 0) (d := 0) H rfl hl
  have x5 := rcC_set5 (K := K) (S := S) (Q := Q) (O := 0) (H := H) (a := none) (n := 0) (c := 0) (h := z32) (p := z32) (b := none) (m := 0) (d := 0) hl a n c
  have f1 := fun w' g (k : Blk w' g 33 (rcC K 0 0 0 z16 none 0 0 z32 z32 none 0 0)) => rc1 k
  have f2 := fun w' g (k : Blk w' g 33 (rcC K S 0 0 z16 none 0 0 z32 z32 none 0 0)) => rc2 k
  have f5 := fun w' g (k : Blk w' g 33 (rcC K S Q 0 H none 0 0 z32 z32 none 0 0)) => rc5 k hl
  rw [hEH.out] at x1 f1
  have hE2l := rcC_len (K := K) (S := S) (Q := Q) (O := 0) (H := z16) (a := none) (n := 0) (c := 0) (h := z32) (p := z32) (b := none) (m := 0) (d := 0) rfl rfl rfl
  have hFl := rcC_len (K := K) (S := S) (Q := Q) (O := 0) (H := H) (a := a) (n := n) (c := c) (h := z32) (p := z32) (b := none) (m := 0) (d := 0) hl rfl rfl
  have hrX : IsRow Try.prog 25 (H.map (Value.int .u8)).length := rowHint_of hl
  have hXl : (H.map (Value.int .u8)).length = 16 := by rw [List.length_map, hl]
  have hX1 := u8_one H
  obtain ⟨X, hX⟩ : ∃ X, H.map (Value.int .u8) = X := ⟨_, rfl⟩
  rw [hX] at e4 x4 hrX hXl hX1
  obtain ⟨E1, hE1e⟩ : ∃ E, rcC K S 0 0 z16 none 0 0 z32 z32 none 0 0 = E := ⟨_, rfl⟩
  obtain ⟨E2, hE2e⟩ : ∃ E, rcC K S Q 0 z16 none 0 0 z32 z32 none 0 0 = E := ⟨_, rfl⟩
  obtain ⟨E3, hE3e⟩ : ∃ E, rcC K S Q 0 H none 0 0 z32 z32 none 0 0 = E := ⟨_, rfl⟩
  obtain ⟨F, hF⟩ : ∃ E, rcC K S Q 0 H a n c z32 z32 none 0 0 = E := ⟨_, rfl⟩
  rw [hE1e] at x1 x2 f2
  rw [hE2e] at x2 x4 hE2l
  rw [hE3e] at x4 x5 f5
  rw [hF] at x5 hs1 hFl
  have x1 := Lib.hid x1
  have x2 := Lib.hid x2
  have x4 := Lib.hid x4
  have x5 := Lib.hid x5
  have f1 := Lib.hid f1
  have f2 := Lib.hid f2
  have f5 := Lib.hid f5
  have hs1 := Lib.hid hs1
  clear hsm hE1e hE2e hE3e hF hr hI hRO hT hX hln hnx
  subst hK
  by_cases hn6 : n ≤ 600
  · have hn6i : (n : Int) ≤ 600 := by omega
    rw [decide_eq_true hn6, Bool.true_and]
    clear hn6
    go_enter Try.func10, Try.ntmps10
    go_wp2_with ((with_reducible refine box_row rfl 33 (.tmp 0) rfl C ?_ ?_); rfl; refine RowKit.Hid.out ?_)
    refine Lib.hid ?_
    clear hV
    go_wp2_with ((with_reducible refine build_row rfl 33 #[(0, .tmp 6)] rfl (cells := E.toArray) ?_ ?_); (refine Eq.trans (congrArg _ ?_) hbt; kernel_rfl); refine RowKit.Hid.out ?_)
    refine Lib.hid ?_
    refine wpList_alloc_blk rfl 33 rfl hZ0 ?_
    try simp only [Act.put, List.setIfInBounds_toArray, List.set_cons_zero, List.set_cons_succ]
    have hkA := hk.alloc (.cells Z.toArray 33)
    have hnA := Blk.new V 33 Z
    have hBA := hb.alloc hb.size (.cells Z.toArray 33)
    have hnG : G < V.heap.size := hk.lt
    obtain ⟨N, hN⟩ : ∃ N, V.heap.size = N := ⟨_, rfl⟩
    rw [hN] at hnA hnG ⊢
    obtain ⟨U, hU⟩ : ∃ W, V.alloc (.cells Z.toArray 33) = W := ⟨_, rfl⟩
    rw [hU] at hkA hnA hBA ⊢
    have nGN := Lib.hid hnG
    clear hk hb hN hU c0
    refine store_row rfl 33 (.tmp 3) (.tmp 7) rfl rfl rfl hnA rowRc hEl hZl hE1 ?_
    intro w2 hn2 hg2
    have hk2 := hkA.grown hg2 (fun e => by injection e with e; omega)
    have B2 := hBA.grown hg2 hBA.size (fun q hq => by injection hq with hq; have := gH.out; omega)
    have c0 := e0.out w2 G hk2
    clear hkA hnA hBA hg2 hnG g9
    go_wp2_with fail
    obtain ⟨V5, hV5⟩ : ∃ V, w2.drew = V := ⟨_, rfl⟩
    have hk5 : Blk V5 G 33 C := by rw [← hV5]; exact hk2
    have hn5 : Blk V5 N 33 E := by rw [← hV5]; exact hn2
    have B5 : Below w.heap.size w V5 := by rw [← hV5]; exact Below.drew B2
    have hwN : w.heap.size ≤ N := by have := nGN.out; have := gH.out; omega
    have hkS := Lib.hid (hk5.far (p := ⟨N, 1, none⟩) (by show G ≠ N; have := nGN.out; omega) (.int .u32 S))
    have hnS := hn5.set 1 (.int .u32 S)
    rw [x1.out] at hnS
    have BS := B5.setCell (p := ⟨N, 1, none⟩) hwN (.int .u32 S)
    have g1 := f1.out V5 N hn5
    have z1 := hn5.frozen 1
    refine region_seqS (fun w' => Blk w' G 33 C) (by kernel_rfl) hk2 ?_
    simp only [pairs, Nat.reduceAdd]
    try rw [hV5]
    clear hV5 hk2 hn2 B2 c0
    repeat (first
      | (refine SeqS.take (v := .agg (X).toArray) (by first | assumption | trivial) (by kernel_rfl) (by decide +kernel) (by decide +kernel) (yields_part (by rfl) 25 (.tmp 32) rfl rfl (fun w' h => e4.out w' G h) (hrX)) ?_
         simp only [Act.put, List.setIfInBounds_toArray, List.set_cons_zero, List.set_cons_succ])
      | (refine SeqS.take (v := ?_) (by first | assumption | trivial) (by kernel_rfl) (by decide +kernel) (by decide +kernel) (Or.inl ⟨by rfl, ?_⟩) ?_
         rotate_left
         focus
           intro w' hb'
           go_simp
           with_reducible rfl
         simp only [Act.put, List.setIfInBounds_toArray, List.set_cons_zero, List.set_cons_succ])
      | (refine SeqS.take (v := ?_) (by first | assumption | trivial) (by kernel_rfl) (by decide +kernel) (by decide +kernel) (Or.inl ⟨by rfl, ?_⟩) ?_
         rotate_left
         focus
           intro w' hb'
           have d0 := e1.out w' G hb'
           go_simp
           with_reducible rfl
         simp only [Act.put, List.setIfInBounds_toArray, List.set_cons_zero, List.set_cons_succ])
      | (refine SeqS.take (v := ?_) (by first | assumption | trivial) (by kernel_rfl) (by decide +kernel) (by decide +kernel) (Or.inl ⟨by rfl, ?_⟩) ?_
         rotate_left
         focus
           intro w' hb'
           have d0 := e2.out w' G hb'
           go_simp
           with_reducible rfl
         simp only [Act.put, List.setIfInBounds_toArray, List.set_cons_zero, List.set_cons_succ])
      | (refine SeqS.take (v := ?_) (by first | assumption | trivial) (by kernel_rfl) (by decide +kernel) (by decide +kernel) (Or.inl ⟨by rfl, ?_⟩) ?_
         rotate_left
         focus
           intro w' hb'
           have d0 := e5.out w' G hb'
           go_simp
           with_reducible rfl
         simp only [Act.put, List.setIfInBounds_toArray, List.set_cons_zero, List.set_cons_succ])
      | (refine SeqS.take (v := undef) (by first | assumption | trivial) (by kernel_rfl) (by decide +kernel) (by decide +kernel) (Or.inr ⟨by rfl, rfl⟩) ?_
         simp only [Act.put, List.setIfInBounds_toArray, List.set_cons_zero, List.set_cons_succ])
      | (refine SeqS.take1 (v := .agg (X).toArray) (by first | assumption | trivial) (by kernel_rfl) (by decide +kernel) (by decide +kernel) (yields_part (by rfl) 25 (.tmp 32) rfl rfl (fun w' h => e4.out w' G h) (hrX)) ?_
         simp only [Act.put, List.setIfInBounds_toArray, List.set_cons_zero, List.set_cons_succ])
      | (refine SeqS.take1 (v := ?_) (by first | assumption | trivial) (by kernel_rfl) (by decide +kernel) (by decide +kernel) (Or.inl ⟨by rfl, ?_⟩) ?_
         rotate_left
         focus
           intro w' hb'
           go_simp
           with_reducible rfl
         simp only [Act.put, List.setIfInBounds_toArray, List.set_cons_zero, List.set_cons_succ])
      | (refine SeqS.take1 (v := ?_) (by first | assumption | trivial) (by kernel_rfl) (by decide +kernel) (by decide +kernel) (Or.inl ⟨by rfl, ?_⟩) ?_
         rotate_left
         focus
           intro w' hb'
           have d0 := e1.out w' G hb'
           go_simp
           with_reducible rfl
         simp only [Act.put, List.setIfInBounds_toArray, List.set_cons_zero, List.set_cons_succ])
      | (refine SeqS.take1 (v := ?_) (by first | assumption | trivial) (by kernel_rfl) (by decide +kernel) (by decide +kernel) (Or.inl ⟨by rfl, ?_⟩) ?_
         rotate_left
         focus
           intro w' hb'
           have d0 := e2.out w' G hb'
           go_simp
           with_reducible rfl
         simp only [Act.put, List.setIfInBounds_toArray, List.set_cons_zero, List.set_cons_succ])
      | (refine SeqS.take1 (v := ?_) (by first | assumption | trivial) (by kernel_rfl) (by decide +kernel) (by decide +kernel) (Or.inl ⟨by rfl, ?_⟩) ?_
         rotate_left
         focus
           intro w' hb'
           have d0 := e5.out w' G hb'
           go_simp
           with_reducible rfl
         simp only [Act.put, List.setIfInBounds_toArray, List.set_cons_zero, List.set_cons_succ])
      | (refine SeqS.take1 (v := undef) (by first | assumption | trivial) (by kernel_rfl) (by decide +kernel) (by decide +kernel) (Or.inr ⟨by rfl, rfl⟩) ?_
         simp only [Act.put, List.setIfInBounds_toArray, List.set_cons_zero, List.set_cons_succ])
      | (refine SeqS.take2 (v := .agg (X).toArray) (by first | assumption | trivial) (by kernel_rfl) (by decide +kernel) (by decide +kernel) (yields_part (by rfl) 25 (.tmp 32) rfl rfl (fun w' h => e4.out w' G h) (hrX)) ?_
         simp only [Act.put, List.setIfInBounds_toArray, List.set_cons_zero, List.set_cons_succ])
      | (refine SeqS.take2 (v := ?_) (by first | assumption | trivial) (by kernel_rfl) (by decide +kernel) (by decide +kernel) (Or.inl ⟨by rfl, ?_⟩) ?_
         rotate_left
         focus
           intro w' hb'
           go_simp
           with_reducible rfl
         simp only [Act.put, List.setIfInBounds_toArray, List.set_cons_zero, List.set_cons_succ])
      | (refine SeqS.take2 (v := ?_) (by first | assumption | trivial) (by kernel_rfl) (by decide +kernel) (by decide +kernel) (Or.inl ⟨by rfl, ?_⟩) ?_
         rotate_left
         focus
           intro w' hb'
           have d0 := e1.out w' G hb'
           go_simp
           with_reducible rfl
         simp only [Act.put, List.setIfInBounds_toArray, List.set_cons_zero, List.set_cons_succ])
      | (refine SeqS.take2 (v := ?_) (by first | assumption | trivial) (by kernel_rfl) (by decide +kernel) (by decide +kernel) (Or.inl ⟨by rfl, ?_⟩) ?_
         rotate_left
         focus
           intro w' hb'
           have d0 := e2.out w' G hb'
           go_simp
           with_reducible rfl
         simp only [Act.put, List.setIfInBounds_toArray, List.set_cons_zero, List.set_cons_succ])
      | (refine SeqS.take2 (v := ?_) (by first | assumption | trivial) (by kernel_rfl) (by decide +kernel) (by decide +kernel) (Or.inl ⟨by rfl, ?_⟩) ?_
         rotate_left
         focus
           intro w' hb'
           have d0 := e5.out w' G hb'
           go_simp
           with_reducible rfl
         simp only [Act.put, List.setIfInBounds_toArray, List.set_cons_zero, List.set_cons_succ])
      | (refine SeqS.take2 (v := undef) (by first | assumption | trivial) (by kernel_rfl) (by decide +kernel) (by decide +kernel) (Or.inr ⟨by rfl, rfl⟩) ?_
         simp only [Act.put, List.setIfInBounds_toArray, List.set_cons_zero, List.set_cons_succ])
      | (refine SeqS.take3 (v := .agg (X).toArray) (by first | assumption | trivial) (by kernel_rfl) (by decide +kernel) (by decide +kernel) (yields_part (by rfl) 25 (.tmp 32) rfl rfl (fun w' h => e4.out w' G h) (hrX)) ?_
         simp only [Act.put, List.setIfInBounds_toArray, List.set_cons_zero, List.set_cons_succ])
      | (refine SeqS.take3 (v := ?_) (by first | assumption | trivial) (by kernel_rfl) (by decide +kernel) (by decide +kernel) (Or.inl ⟨by rfl, ?_⟩) ?_
         rotate_left
         focus
           intro w' hb'
           go_simp
           with_reducible rfl
         simp only [Act.put, List.setIfInBounds_toArray, List.set_cons_zero, List.set_cons_succ])
      | (refine SeqS.take3 (v := ?_) (by first | assumption | trivial) (by kernel_rfl) (by decide +kernel) (by decide +kernel) (Or.inl ⟨by rfl, ?_⟩) ?_
         rotate_left
         focus
           intro w' hb'
           have d0 := e1.out w' G hb'
           go_simp
           with_reducible rfl
         simp only [Act.put, List.setIfInBounds_toArray, List.set_cons_zero, List.set_cons_succ])
      | (refine SeqS.take3 (v := ?_) (by first | assumption | trivial) (by kernel_rfl) (by decide +kernel) (by decide +kernel) (Or.inl ⟨by rfl, ?_⟩) ?_
         rotate_left
         focus
           intro w' hb'
           have d0 := e2.out w' G hb'
           go_simp
           with_reducible rfl
         simp only [Act.put, List.setIfInBounds_toArray, List.set_cons_zero, List.set_cons_succ])
      | (refine SeqS.take3 (v := ?_) (by first | assumption | trivial) (by kernel_rfl) (by decide +kernel) (by decide +kernel) (Or.inl ⟨by rfl, ?_⟩) ?_
         rotate_left
         focus
           intro w' hb'
           have d0 := e5.out w' G hb'
           go_simp
           with_reducible rfl
         simp only [Act.put, List.setIfInBounds_toArray, List.set_cons_zero, List.set_cons_succ])
      | (refine SeqS.take3 (v := undef) (by first | assumption | trivial) (by kernel_rfl) (by decide +kernel) (by decide +kernel) (Or.inr ⟨by rfl, rfl⟩) ?_
         simp only [Act.put, List.setIfInBounds_toArray, List.set_cons_zero, List.set_cons_succ])
      | (refine SeqS.take4 (v := .agg (X).toArray) (by first | assumption | trivial) (by kernel_rfl) (by decide +kernel) (by decide +kernel) (yields_part (by rfl) 25 (.tmp 32) rfl rfl (fun w' h => e4.out w' G h) (hrX)) ?_
         simp only [Act.put, List.setIfInBounds_toArray, List.set_cons_zero, List.set_cons_succ])
      | (refine SeqS.take4 (v := ?_) (by first | assumption | trivial) (by kernel_rfl) (by decide +kernel) (by decide +kernel) (Or.inl ⟨by rfl, ?_⟩) ?_
         rotate_left
         focus
           intro w' hb'
           go_simp
           with_reducible rfl
         simp only [Act.put, List.setIfInBounds_toArray, List.set_cons_zero, List.set_cons_succ])
      | (refine SeqS.take4 (v := ?_) (by first | assumption | trivial) (by kernel_rfl) (by decide +kernel) (by decide +kernel) (Or.inl ⟨by rfl, ?_⟩) ?_
         rotate_left
         focus
           intro w' hb'
           have d0 := e1.out w' G hb'
           go_simp
           with_reducible rfl
         simp only [Act.put, List.setIfInBounds_toArray, List.set_cons_zero, List.set_cons_succ])
      | (refine SeqS.take4 (v := ?_) (by first | assumption | trivial) (by kernel_rfl) (by decide +kernel) (by decide +kernel) (Or.inl ⟨by rfl, ?_⟩) ?_
         rotate_left
         focus
           intro w' hb'
           have d0 := e2.out w' G hb'
           go_simp
           with_reducible rfl
         simp only [Act.put, List.setIfInBounds_toArray, List.set_cons_zero, List.set_cons_succ])
      | (refine SeqS.take4 (v := ?_) (by first | assumption | trivial) (by kernel_rfl) (by decide +kernel) (by decide +kernel) (Or.inl ⟨by rfl, ?_⟩) ?_
         rotate_left
         focus
           intro w' hb'
           have d0 := e5.out w' G hb'
           go_simp
           with_reducible rfl
         simp only [Act.put, List.setIfInBounds_toArray, List.set_cons_zero, List.set_cons_succ])
      | (refine SeqS.take4 (v := undef) (by first | assumption | trivial) (by kernel_rfl) (by decide +kernel) (by decide +kernel) (Or.inr ⟨by rfl, rfl⟩) ?_
         simp only [Act.put, List.setIfInBounds_toArray, List.set_cons_zero, List.set_cons_succ])
      | (refine SeqS.take5 (v := .agg (X).toArray) (by first | assumption | trivial) (by kernel_rfl) (by decide +kernel) (by decide +kernel) (yields_part (by rfl) 25 (.tmp 32) rfl rfl (fun w' h => e4.out w' G h) (hrX)) ?_
         simp only [Act.put, List.setIfInBounds_toArray, List.set_cons_zero, List.set_cons_succ])
      | (refine SeqS.take5 (v := ?_) (by first | assumption | trivial) (by kernel_rfl) (by decide +kernel) (by decide +kernel) (Or.inl ⟨by rfl, ?_⟩) ?_
         rotate_left
         focus
           intro w' hb'
           go_simp
           with_reducible rfl
         simp only [Act.put, List.setIfInBounds_toArray, List.set_cons_zero, List.set_cons_succ])
      | (refine SeqS.take5 (v := ?_) (by first | assumption | trivial) (by kernel_rfl) (by decide +kernel) (by decide +kernel) (Or.inl ⟨by rfl, ?_⟩) ?_
         rotate_left
         focus
           intro w' hb'
           have d0 := e1.out w' G hb'
           go_simp
           with_reducible rfl
         simp only [Act.put, List.setIfInBounds_toArray, List.set_cons_zero, List.set_cons_succ])
      | (refine SeqS.take5 (v := ?_) (by first | assumption | trivial) (by kernel_rfl) (by decide +kernel) (by decide +kernel) (Or.inl ⟨by rfl, ?_⟩) ?_
         rotate_left
         focus
           intro w' hb'
           have d0 := e2.out w' G hb'
           go_simp
           with_reducible rfl
         simp only [Act.put, List.setIfInBounds_toArray, List.set_cons_zero, List.set_cons_succ])
      | (refine SeqS.take5 (v := ?_) (by first | assumption | trivial) (by kernel_rfl) (by decide +kernel) (by decide +kernel) (Or.inl ⟨by rfl, ?_⟩) ?_
         rotate_left
         focus
           intro w' hb'
           have d0 := e5.out w' G hb'
           go_simp
           with_reducible rfl
         simp only [Act.put, List.setIfInBounds_toArray, List.set_cons_zero, List.set_cons_succ])
      | (refine SeqS.take5 (v := undef) (by first | assumption | trivial) (by kernel_rfl) (by decide +kernel) (by decide +kernel) (Or.inr ⟨by rfl, rfl⟩) ?_
         simp only [Act.put, List.setIfInBounds_toArray, List.set_cons_zero, List.set_cons_succ])
      | (refine SeqS.take6 (v := .agg (X).toArray) (by first | assumption | trivial) (by kernel_rfl) (by decide +kernel) (by decide +kernel) (yields_part (by rfl) 25 (.tmp 32) rfl rfl (fun w' h => e4.out w' G h) (hrX)) ?_
         simp only [Act.put, List.setIfInBounds_toArray, List.set_cons_zero, List.set_cons_succ])
      | (refine SeqS.take6 (v := ?_) (by first | assumption | trivial) (by kernel_rfl) (by decide +kernel) (by decide +kernel) (Or.inl ⟨by rfl, ?_⟩) ?_
         rotate_left
         focus
           intro w' hb'
           go_simp
           with_reducible rfl
         simp only [Act.put, List.setIfInBounds_toArray, List.set_cons_zero, List.set_cons_succ])
      | (refine SeqS.take6 (v := ?_) (by first | assumption | trivial) (by kernel_rfl) (by decide +kernel) (by decide +kernel) (Or.inl ⟨by rfl, ?_⟩) ?_
         rotate_left
         focus
           intro w' hb'
           have d0 := e1.out w' G hb'
           go_simp
           with_reducible rfl
         simp only [Act.put, List.setIfInBounds_toArray, List.set_cons_zero, List.set_cons_succ])
      | (refine SeqS.take6 (v := ?_) (by first | assumption | trivial) (by kernel_rfl) (by decide +kernel) (by decide +kernel) (Or.inl ⟨by rfl, ?_⟩) ?_
         rotate_left
         focus
           intro w' hb'
           have d0 := e2.out w' G hb'
           go_simp
           with_reducible rfl
         simp only [Act.put, List.setIfInBounds_toArray, List.set_cons_zero, List.set_cons_succ])
      | (refine SeqS.take6 (v := ?_) (by first | assumption | trivial) (by kernel_rfl) (by decide +kernel) (by decide +kernel) (Or.inl ⟨by rfl, ?_⟩) ?_
         rotate_left
         focus
           intro w' hb'
           have d0 := e5.out w' G hb'
           go_simp
           with_reducible rfl
         simp only [Act.put, List.setIfInBounds_toArray, List.set_cons_zero, List.set_cons_succ])
      | (refine SeqS.take6 (v := undef) (by first | assumption | trivial) (by kernel_rfl) (by decide +kernel) (by decide +kernel) (Or.inr ⟨by rfl, rfl⟩) ?_
         simp only [Act.put, List.setIfInBounds_toArray, List.set_cons_zero, List.set_cons_succ])
      | (refine SeqS.take7 (v := .agg (X).toArray) (by first | assumption | trivial) (by kernel_rfl) (by decide +kernel) (by decide +kernel) (yields_part (by rfl) 25 (.tmp 32) rfl rfl (fun w' h => e4.out w' G h) (hrX)) ?_
         simp only [Act.put, List.setIfInBounds_toArray, List.set_cons_zero, List.set_cons_succ])
      | (refine SeqS.take7 (v := ?_) (by first | assumption | trivial) (by kernel_rfl) (by decide +kernel) (by decide +kernel) (Or.inl ⟨by rfl, ?_⟩) ?_
         rotate_left
         focus
           intro w' hb'
           go_simp
           with_reducible rfl
         simp only [Act.put, List.setIfInBounds_toArray, List.set_cons_zero, List.set_cons_succ])
      | (refine SeqS.take7 (v := ?_) (by first | assumption | trivial) (by kernel_rfl) (by decide +kernel) (by decide +kernel) (Or.inl ⟨by rfl, ?_⟩) ?_
         rotate_left
         focus
           intro w' hb'
           have d0 := e1.out w' G hb'
           go_simp
           with_reducible rfl
         simp only [Act.put, List.setIfInBounds_toArray, List.set_cons_zero, List.set_cons_succ])
      | (refine SeqS.take7 (v := ?_) (by first | assumption | trivial) (by kernel_rfl) (by decide +kernel) (by decide +kernel) (Or.inl ⟨by rfl, ?_⟩) ?_
         rotate_left
         focus
           intro w' hb'
           have d0 := e2.out w' G hb'
           go_simp
           with_reducible rfl
         simp only [Act.put, List.setIfInBounds_toArray, List.set_cons_zero, List.set_cons_succ])
      | (refine SeqS.take7 (v := ?_) (by first | assumption | trivial) (by kernel_rfl) (by decide +kernel) (by decide +kernel) (Or.inl ⟨by rfl, ?_⟩) ?_
         rotate_left
         focus
           intro w' hb'
           have d0 := e5.out w' G hb'
           go_simp
           with_reducible rfl
         simp only [Act.put, List.setIfInBounds_toArray, List.set_cons_zero, List.set_cons_succ])
      | (refine SeqS.take7 (v := undef) (by first | assumption | trivial) (by kernel_rfl) (by decide +kernel) (by decide +kernel) (Or.inr ⟨by rfl, rfl⟩) ?_
         simp only [Act.put, List.setIfInBounds_toArray, List.set_cons_zero, List.set_cons_succ])
      | (refine SeqS.take8 (v := .agg (X).toArray) (by first | assumption | trivial) (by kernel_rfl) (by decide +kernel) (by decide +kernel) (yields_part (by rfl) 25 (.tmp 32) rfl rfl (fun w' h => e4.out w' G h) (hrX)) ?_
         simp only [Act.put, List.setIfInBounds_toArray, List.set_cons_zero, List.set_cons_succ])
      | (refine SeqS.take8 (v := ?_) (by first | assumption | trivial) (by kernel_rfl) (by decide +kernel) (by decide +kernel) (Or.inl ⟨by rfl, ?_⟩) ?_
         rotate_left
         focus
           intro w' hb'
           go_simp
           with_reducible rfl
         simp only [Act.put, List.setIfInBounds_toArray, List.set_cons_zero, List.set_cons_succ])
      | (refine SeqS.take8 (v := ?_) (by first | assumption | trivial) (by kernel_rfl) (by decide +kernel) (by decide +kernel) (Or.inl ⟨by rfl, ?_⟩) ?_
         rotate_left
         focus
           intro w' hb'
           have d0 := e1.out w' G hb'
           go_simp
           with_reducible rfl
         simp only [Act.put, List.setIfInBounds_toArray, List.set_cons_zero, List.set_cons_succ])
      | (refine SeqS.take8 (v := ?_) (by first | assumption | trivial) (by kernel_rfl) (by decide +kernel) (by decide +kernel) (Or.inl ⟨by rfl, ?_⟩) ?_
         rotate_left
         focus
           intro w' hb'
           have d0 := e2.out w' G hb'
           go_simp
           with_reducible rfl
         simp only [Act.put, List.setIfInBounds_toArray, List.set_cons_zero, List.set_cons_succ])
      | (refine SeqS.take8 (v := ?_) (by first | assumption | trivial) (by kernel_rfl) (by decide +kernel) (by decide +kernel) (Or.inl ⟨by rfl, ?_⟩) ?_
         rotate_left
         focus
           intro w' hb'
           have d0 := e5.out w' G hb'
           go_simp
           with_reducible rfl
         simp only [Act.put, List.setIfInBounds_toArray, List.set_cons_zero, List.set_cons_succ])
      | (refine SeqS.take8 (v := undef) (by first | assumption | trivial) (by kernel_rfl) (by decide +kernel) (by decide +kernel) (Or.inr ⟨by rfl, rfl⟩) ?_
         simp only [Act.put, List.setIfInBounds_toArray, List.set_cons_zero, List.set_cons_succ]))
    refine SeqS.alone (by decide +kernel) (by rfl) (fun K5 hK5 => ?_)
    go_simp
    refine hK5 _ _ hkS.out ?_
    clear hK5 K5 g1 z1 hk5 hn5 B5
    try simp only [Act.put, List.setIfInBounds_toArray, List.set_cons_zero, List.set_cons_succ]
    obtain ⟨V6, hV6⟩ : ∃ V, V5.setCell ⟨N, 1, none⟩ (.int .u32 S) = V := ⟨_, rfl⟩
    rw [hV6] at hkS hnS BS ⊢
    clear hV6
    have hkT := Lib.hid (hkS.out.far (p := ⟨N, 2, none⟩) (by show G ≠ N; have := nGN.out; omega) (.int .u32 Q))
    have hnT := hnS.set 2 (.int .u32 Q)
    rw [x2.out] at hnT
    have BT := BS.setCell (p := ⟨N, 2, none⟩) hwN (.int .u32 Q)
    have g2 := f2.out V6 N hnS
    have z2 := hnS.frozen 2
    repeat (first
      | (refine SeqS.take (v := ?_) (by first | assumption | trivial) (by kernel_rfl) (by decide +kernel) (by decide +kernel) (Or.inl ⟨by rfl, ?_⟩) ?_
         rotate_left
         focus
           intro w' hb'
           go_simp
           with_reducible rfl
         simp only [Act.put, List.setIfInBounds_toArray, List.set_cons_zero, List.set_cons_succ])
      | (refine SeqS.take (v := undef) (by first | assumption | trivial) (by kernel_rfl) (by decide +kernel) (by decide +kernel) (Or.inr ⟨by rfl, rfl⟩) ?_
         simp only [Act.put, List.setIfInBounds_toArray, List.set_cons_zero, List.set_cons_succ])
      | (refine SeqS.take1 (v := ?_) (by first | assumption | trivial) (by kernel_rfl) (by decide +kernel) (by decide +kernel) (Or.inl ⟨by rfl, ?_⟩) ?_
         rotate_left
         focus
           intro w' hb'
           go_simp
           with_reducible rfl
         simp only [Act.put, List.setIfInBounds_toArray, List.set_cons_zero, List.set_cons_succ])
      | (refine SeqS.take1 (v := undef) (by first | assumption | trivial) (by kernel_rfl) (by decide +kernel) (by decide +kernel) (Or.inr ⟨by rfl, rfl⟩) ?_
         simp only [Act.put, List.setIfInBounds_toArray, List.set_cons_zero, List.set_cons_succ])
      | (refine SeqS.take2 (v := ?_) (by first | assumption | trivial) (by kernel_rfl) (by decide +kernel) (by decide +kernel) (Or.inl ⟨by rfl, ?_⟩) ?_
         rotate_left
         focus
           intro w' hb'
           go_simp
           with_reducible rfl
         simp only [Act.put, List.setIfInBounds_toArray, List.set_cons_zero, List.set_cons_succ])
      | (refine SeqS.take2 (v := undef) (by first | assumption | trivial) (by kernel_rfl) (by decide +kernel) (by decide +kernel) (Or.inr ⟨by rfl, rfl⟩) ?_
         simp only [Act.put, List.setIfInBounds_toArray, List.set_cons_zero, List.set_cons_succ]))
    refine SeqS.alone (by decide +kernel) (by rfl) (fun K5 hK5 => ?_)
    go_simp
    refine hK5 _ _ hkT.out ?_
    clear hK5 K5 g2 z2 hnS BS hkS
    try simp only [Act.put, List.setIfInBounds_toArray, List.set_cons_zero, List.set_cons_succ]
    obtain ⟨V7, hV7⟩ : ∃ V, V6.setCell ⟨N, 2, none⟩ (.int .u32 Q) = V := ⟨_, rfl⟩
    rw [hV7] at hkT hnT BT ⊢
    clear hV7
    repeat (first
      | (refine SeqS.take (v := ?_) (by first | assumption | trivial) (by kernel_rfl) (by decide +kernel) (by decide +kernel) (Or.inl ⟨by rfl, ?_⟩) ?_
         rotate_left
         focus
           intro w' hb'
           go_simp
           with_reducible rfl
         simp only [Act.put, List.setIfInBounds_toArray, List.set_cons_zero, List.set_cons_succ])
      | (refine SeqS.take (v := undef) (by first | assumption | trivial) (by kernel_rfl) (by decide +kernel) (by decide +kernel) (Or.inr ⟨by rfl, rfl⟩) ?_
         simp only [Act.put, List.setIfInBounds_toArray, List.set_cons_zero, List.set_cons_succ])
      | (refine SeqS.take1 (v := ?_) (by first | assumption | trivial) (by kernel_rfl) (by decide +kernel) (by decide +kernel) (Or.inl ⟨by rfl, ?_⟩) ?_
         rotate_left
         focus
           intro w' hb'
           go_simp
           with_reducible rfl
         simp only [Act.put, List.setIfInBounds_toArray, List.set_cons_zero, List.set_cons_succ])
      | (refine SeqS.take1 (v := undef) (by first | assumption | trivial) (by kernel_rfl) (by decide +kernel) (by decide +kernel) (Or.inr ⟨by rfl, rfl⟩) ?_
         simp only [Act.put, List.setIfInBounds_toArray, List.set_cons_zero, List.set_cons_succ])
      | (refine SeqS.take2 (v := ?_) (by first | assumption | trivial) (by kernel_rfl) (by decide +kernel) (by decide +kernel) (Or.inl ⟨by rfl, ?_⟩) ?_
         rotate_left
         focus
           intro w' hb'
           go_simp
           with_reducible rfl
         simp only [Act.put, List.setIfInBounds_toArray, List.set_cons_zero, List.set_cons_succ])
      | (refine SeqS.take2 (v := undef) (by first | assumption | trivial) (by kernel_rfl) (by decide +kernel) (by decide +kernel) (Or.inr ⟨by rfl, rfl⟩) ?_
         simp only [Act.put, List.setIfInBounds_toArray, List.set_cons_zero, List.set_cons_succ]))
    refine SeqS.alone (by decide +kernel) (by rfl) (fun K5 hK5 => ?_)
    refine wp_store_part 25 (.tmp 38) (.tmp 33) rfl rfl rfl hnT hrX (by rw [hXl, hE2l]; decide) hX1 ?_
    intro V8 hnU hg8
    rw [x4.out] at hnU
    have hkU := Lib.hid (hkT.out.grown hg8 (fun e => by injection e with e; have := nGN.out; omega))
    have BU := BT.grown hg8 BT.size (fun q hq => by injection hq with hq; omega)
    refine hK5 _ _ hkU.out ?_
    clear hK5 K5 hnT BT hkT hg8
    try simp only [Act.put]
    have hkY := Lib.hid (hkU.out.far (p := ⟨N, 20, none⟩) (by show G ≠ N; have := nGN.out; omega) (.slice a n c))
    have hnY := hnU.set 20 (.slice a n c)
    rw [x5.out] at hnY
    have BY := BU.setCell (p := ⟨N, 20, none⟩) hwN (.slice a n c)
    have g5 := f5.out V8 N hnU
    have z5 := hnU.frozen 20
    repeat (first
      | (refine SeqS.take (v := ?_) (by first | assumption | trivial) (by kernel_rfl) (by decide +kernel) (by decide +kernel) (Or.inl ⟨by rfl, ?_⟩) ?_
         rotate_left
         focus
           intro w' hb'
           go_simp
           with_reducible rfl
         simp only [Act.put, List.setIfInBounds_toArray, List.set_cons_zero, List.set_cons_succ])
      | (refine SeqS.take (v := undef) (by first | assumption | trivial) (by kernel_rfl) (by decide +kernel) (by decide +kernel) (Or.inr ⟨by rfl, rfl⟩) ?_
         simp only [Act.put, List.setIfInBounds_toArray, List.set_cons_zero, List.set_cons_succ])
      | (refine SeqS.take1 (v := ?_) (by first | assumption | trivial) (by kernel_rfl) (by decide +kernel) (by decide +kernel) (Or.inl ⟨by rfl, ?_⟩) ?_
         rotate_left
         focus
           intro w' hb'
           go_simp
           with_reducible rfl
         simp only [Act.put, List.setIfInBounds_toArray, List.set_cons_zero, List.set_cons_succ])
      | (refine SeqS.take1 (v := undef) (by first | assumption | trivial) (by kernel_rfl) (by decide +kernel) (by decide +kernel) (Or.inr ⟨by rfl, rfl⟩) ?_
         simp only [Act.put, List.setIfInBounds_toArray, List.set_cons_zero, List.set_cons_succ])
      | (refine SeqS.take2 (v := ?_) (by first | assumption | trivial) (by kernel_rfl) (by decide +kernel) (by decide +kernel) (Or.inl ⟨by rfl, ?_⟩) ?_
         rotate_left
         focus
           intro w' hb'
           go_simp
           with_reducible rfl
         simp only [Act.put, List.setIfInBounds_toArray, List.set_cons_zero, List.set_cons_succ])
      | (refine SeqS.take2 (v := undef) (by first | assumption | trivial) (by kernel_rfl) (by decide +kernel) (by decide +kernel) (Or.inr ⟨by rfl, rfl⟩) ?_
         simp only [Act.put, List.setIfInBounds_toArray, List.set_cons_zero, List.set_cons_succ]))
    refine SeqS.alone (by decide +kernel) (by rfl) (fun K5 hK5 => ?_)
    go_simp
    refine hK5 _ _ hkY.out ?_
    clear hK5 K5 g5 z5 hnU BU hkU
    try simp only [Act.put, List.setIfInBounds_toArray, List.set_cons_zero, List.set_cons_succ]
    obtain ⟨w4, hw4⟩ : ∃ V, V8.setCell ⟨N, 20, none⟩ (.slice a n c) = V := ⟨_, rfl⟩
    rw [hw4] at hkY hnY BY ⊢
    clear hw4
    refine SeqS.done (by decide +kernel) ?_
    have hk4 := hkY.out
    have hn4 := hnY
    have B4 := BY
    have c5 := e5.out w4 G hk4
    have sm := Lib.hid (hs1.out w4 B4)
    clear hkY hnY BY hs1
    go_wp2_with (first
      | ((with_reducible refine load_if rfl 33 (.tmp 1) rfl ?_ hk4 rowRc hCl ?_); rfl)
      | ((with_reducible refine load_if rfl 33 (.tmp 3) rfl ?_ hn4 rowRc hFl ?_); rfl))
    refine sm.out.mono ?_
    rintro q w5 ⟨rfl, b5⟩
    go_wp2
    go_ret
    exact ⟨by first | rfl | simp, B4.trans (b5.mono B4.size)⟩
  · have hn6i : ¬ (n : Int) ≤ 600 := by omega
    rw [decide_eq_false hn6, Bool.false_and]
    clear hn6
    go_enter Try.func10, Try.ntmps10
    go_wp2_with ((with_reducible refine box_row rfl 33 (.tmp 0) rfl C ?_ ?_); rfl; refine RowKit.Hid.out ?_)
    refine Lib.hid ?_
    clear hV
    go_wp2_with ((with_reducible refine build_row rfl 33 #[(0, .tmp 6)] rfl (cells := E.toArray) ?_ ?_); (refine Eq.trans (congrArg _ ?_) hbt; kernel_rfl); refine RowKit.Hid.out ?_)
    refine Lib.hid ?_
    refine wpList_alloc_blk rfl 33 rfl hZ0 ?_
    try simp only [Act.put, List.setIfInBounds_toArray, List.set_cons_zero, List.set_cons_succ]
    have hkA := hk.alloc (.cells Z.toArray 33)
    have hnA := Blk.new V 33 Z
    have hBA := hb.alloc hb.size (.cells Z.toArray 33)
    have hnG : G < V.heap.size := hk.lt
    obtain ⟨N, hN⟩ : ∃ N, V.heap.size = N := ⟨_, rfl⟩
    rw [hN] at hnA hnG ⊢
    obtain ⟨U, hU⟩ : ∃ W, V.alloc (.cells Z.toArray 33) = W := ⟨_, rfl⟩
    rw [hU] at hkA hnA hBA ⊢
    have nGN := Lib.hid hnG
    clear hk hb hN hU c0
    refine store_row rfl 33 (.tmp 3) (.tmp 7) rfl rfl rfl hnA rowRc hEl hZl hE1 ?_
    intro w2 hn2 hg2
    have hk2 := hkA.grown hg2 (fun e => by injection e with e; omega)
    have B2 := hBA.grown hg2 hBA.size (fun q hq => by injection hq with hq; have := gH.out; omega)
    have c0 := e0.out w2 G hk2
    clear hkA hnA hBA hg2 hnG g9
    go_wp2_with fail
    obtain ⟨V5, hV5⟩ : ∃ V, w2.drew = V := ⟨_, rfl⟩
    have hk5 : Blk V5 G 33 C := by rw [← hV5]; exact hk2
    have hn5 : Blk V5 N 33 E := by rw [← hV5]; exact hn2
    have B5 : Below w.heap.size w V5 := by rw [← hV5]; exact Below.drew B2
    have hwN : w.heap.size ≤ N := by have := nGN.out; have := gH.out; omega
    have hkS := Lib.hid (hk5.far (p := ⟨N, 1, none⟩) (by show G ≠ N; have := nGN.out; omega) (.int .u32 S))
    have hnS := hn5.set 1 (.int .u32 S)
    rw [x1.out] at hnS
    have BS := B5.setCell (p := ⟨N, 1, none⟩) hwN (.int .u32 S)
    have g1 := f1.out V5 N hn5
    have z1 := hn5.frozen 1
    refine region_seqS (fun w' => Blk w' G 33 C) (by kernel_rfl) hk2 ?_
    simp only [pairs, Nat.reduceAdd]
    try rw [hV5]
    clear hV5 hk2 hn2 B2 c0
    repeat (first
      | (refine SeqS.take (v := .agg (X).toArray) (by first | assumption | trivial) (by kernel_rfl) (by decide +kernel) (by decide +kernel) (yields_part (by rfl) 25 (.tmp 32) rfl rfl (fun w' h => e4.out w' G h) (hrX)) ?_
         simp only [Act.put, List.setIfInBounds_toArray, List.set_cons_zero, List.set_cons_succ])
      | (refine SeqS.take (v := ?_) (by first | assumption | trivial) (by kernel_rfl) (by decide +kernel) (by decide +kernel) (Or.inl ⟨by rfl, ?_⟩) ?_
         rotate_left
         focus
           intro w' hb'
           go_simp
           with_reducible rfl
         simp only [Act.put, List.setIfInBounds_toArray, List.set_cons_zero, List.set_cons_succ])
      | (refine SeqS.take (v := ?_) (by first | assumption | trivial) (by kernel_rfl) (by decide +kernel) (by decide +kernel) (Or.inl ⟨by rfl, ?_⟩) ?_
         rotate_left
         focus
           intro w' hb'
           have d0 := e1.out w' G hb'
           go_simp
           with_reducible rfl
         simp only [Act.put, List.setIfInBounds_toArray, List.set_cons_zero, List.set_cons_succ])
      | (refine SeqS.take (v := ?_) (by first | assumption | trivial) (by kernel_rfl) (by decide +kernel) (by decide +kernel) (Or.inl ⟨by rfl, ?_⟩) ?_
         rotate_left
         focus
           intro w' hb'
           have d0 := e2.out w' G hb'
           go_simp
           with_reducible rfl
         simp only [Act.put, List.setIfInBounds_toArray, List.set_cons_zero, List.set_cons_succ])
      | (refine SeqS.take (v := ?_) (by first | assumption | trivial) (by kernel_rfl) (by decide +kernel) (by decide +kernel) (Or.inl ⟨by rfl, ?_⟩) ?_
         rotate_left
         focus
           intro w' hb'
           have d0 := e5.out w' G hb'
           go_simp
           with_reducible rfl
         simp only [Act.put, List.setIfInBounds_toArray, List.set_cons_zero, List.set_cons_succ])
      | (refine SeqS.take (v := undef) (by first | assumption | trivial) (by kernel_rfl) (by decide +kernel) (by decide +kernel) (Or.inr ⟨by rfl, rfl⟩) ?_
         simp only [Act.put, List.setIfInBounds_toArray, List.set_cons_zero, List.set_cons_succ])
      | (refine SeqS.take1 (v := .agg (X).toArray) (by first | assumption | trivial) (by kernel_rfl) (by decide +kernel) (by decide +kernel) (yields_part (by rfl) 25 (.tmp 32) rfl rfl (fun w' h => e4.out w' G h) (hrX)) ?_
         simp only [Act.put, List.setIfInBounds_toArray, List.set_cons_zero, List.set_cons_succ])
      | (refine SeqS.take1 (v := ?_) (by first | assumption | trivial) (by kernel_rfl) (by decide +kernel) (by decide +kernel) (Or.inl ⟨by rfl, ?_⟩) ?_
         rotate_left
         focus
           intro w' hb'
           go_simp
           with_reducible rfl
         simp only [Act.put, List.setIfInBounds_toArray, List.set_cons_zero, List.set_cons_succ])
      | (refine SeqS.take1 (v := ?_) (by first | assumption | trivial) (by kernel_rfl) (by decide +kernel) (by decide +kernel) (Or.inl ⟨by rfl, ?_⟩) ?_
         rotate_left
         focus
           intro w' hb'
           have d0 := e1.out w' G hb'
           go_simp
           with_reducible rfl
         simp only [Act.put, List.setIfInBounds_toArray, List.set_cons_zero, List.set_cons_succ])
      | (refine SeqS.take1 (v := ?_) (by first | assumption | trivial) (by kernel_rfl) (by decide +kernel) (by decide +kernel) (Or.inl ⟨by rfl, ?_⟩) ?_
         rotate_left
         focus
           intro w' hb'
           have d0 := e2.out w' G hb'
           go_simp
           with_reducible rfl
         simp only [Act.put, List.setIfInBounds_toArray, List.set_cons_zero, List.set_cons_succ])
      | (refine SeqS.take1 (v := ?_) (by first | assumption | trivial) (by kernel_rfl) (by decide +kernel) (by decide +kernel) (Or.inl ⟨by rfl, ?_⟩) ?_
         rotate_left
         focus
           intro w' hb'
           have d0 := e5.out w' G hb'
           go_simp
           with_reducible rfl
         simp only [Act.put, List.setIfInBounds_toArray, List.set_cons_zero, List.set_cons_succ])
      | (refine SeqS.take1 (v := undef) (by first | assumption | trivial) (by kernel_rfl) (by decide +kernel) (by decide +kernel) (Or.inr ⟨by rfl, rfl⟩) ?_
         simp only [Act.put, List.setIfInBounds_toArray, List.set_cons_zero, List.set_cons_succ])
      | (refine SeqS.take2 (v := .agg (X).toArray) (by first | assumption | trivial) (by kernel_rfl) (by decide +kernel) (by decide +kernel) (yields_part (by rfl) 25 (.tmp 32) rfl rfl (fun w' h => e4.out w' G h) (hrX)) ?_
         simp only [Act.put, List.setIfInBounds_toArray, List.set_cons_zero, List.set_cons_succ])
      | (refine SeqS.take2 (v := ?_) (by first | assumption | trivial) (by kernel_rfl) (by decide +kernel) (by decide +kernel) (Or.inl ⟨by rfl, ?_⟩) ?_
         rotate_left
         focus
           intro w' hb'
           go_simp
           with_reducible rfl
         simp only [Act.put, List.setIfInBounds_toArray, List.set_cons_zero, List.set_cons_succ])
      | (refine SeqS.take2 (v := ?_) (by first | assumption | trivial) (by kernel_rfl) (by decide +kernel) (by decide +kernel) (Or.inl ⟨by rfl, ?_⟩) ?_
         rotate_left
         focus
           intro w' hb'
           have d0 := e1.out w' G hb'
           go_simp
           with_reducible rfl
         simp only [Act.put, List.setIfInBounds_toArray, List.set_cons_zero, List.set_cons_succ])
      | (refine SeqS.take2 (v := ?_) (by first | assumption | trivial) (by kernel_rfl) (by decide +kernel) (by decide +kernel) (Or.inl ⟨by rfl, ?_⟩) ?_
         rotate_left
         focus
           intro w' hb'
           have d0 := e2.out w' G hb'
           go_simp
           with_reducible rfl
         simp only [Act.put, List.setIfInBounds_toArray, List.set_cons_zero, List.set_cons_succ])
      | (refine SeqS.take2 (v := ?_) (by first | assumption | trivial) (by kernel_rfl) (by decide +kernel) (by decide +kernel) (Or.inl ⟨by rfl, ?_⟩) ?_
         rotate_left
         focus
           intro w' hb'
           have d0 := e5.out w' G hb'
           go_simp
           with_reducible rfl
         simp only [Act.put, List.setIfInBounds_toArray, List.set_cons_zero, List.set_cons_succ])
      | (refine SeqS.take2 (v := undef) (by first | assumption | trivial) (by kernel_rfl) (by decide +kernel) (by decide +kernel) (Or.inr ⟨by rfl, rfl⟩) ?_
         simp only [Act.put, List.setIfInBounds_toArray, List.set_cons_zero, List.set_cons_succ])
      | (refine SeqS.take3 (v := .agg (X).toArray) (by first | assumption | trivial) (by kernel_rfl) (by decide +kernel) (by decide +kernel) (yields_part (by rfl) 25 (.tmp 32) rfl rfl (fun w' h => e4.out w' G h) (hrX)) ?_
         simp only [Act.put, List.setIfInBounds_toArray, List.set_cons_zero, List.set_cons_succ])
      | (refine SeqS.take3 (v := ?_) (by first | assumption | trivial) (by kernel_rfl) (by decide +kernel) (by decide +kernel) (Or.inl ⟨by rfl, ?_⟩) ?_
         rotate_left
         focus
           intro w' hb'
           go_simp
           with_reducible rfl
         simp only [Act.put, List.setIfInBounds_toArray, List.set_cons_zero, List.set_cons_succ])
      | (refine SeqS.take3 (v := ?_) (by first | assumption | trivial) (by kernel_rfl) (by decide +kernel) (by decide +kernel) (Or.inl ⟨by rfl, ?_⟩) ?_
         rotate_left
         focus
           intro w' hb'
           have d0 := e1.out w' G hb'
           go_simp
           with_reducible rfl
         simp only [Act.put, List.setIfInBounds_toArray, List.set_cons_zero, List.set_cons_succ])
      | (refine SeqS.take3 (v := ?_) (by first | assumption | trivial) (by kernel_rfl) (by decide +kernel) (by decide +kernel) (Or.inl ⟨by rfl, ?_⟩) ?_
         rotate_left
         focus
           intro w' hb'
           have d0 := e2.out w' G hb'
           go_simp
           with_reducible rfl
         simp only [Act.put, List.setIfInBounds_toArray, List.set_cons_zero, List.set_cons_succ])
      | (refine SeqS.take3 (v := ?_) (by first | assumption | trivial) (by kernel_rfl) (by decide +kernel) (by decide +kernel) (Or.inl ⟨by rfl, ?_⟩) ?_
         rotate_left
         focus
           intro w' hb'
           have d0 := e5.out w' G hb'
           go_simp
           with_reducible rfl
         simp only [Act.put, List.setIfInBounds_toArray, List.set_cons_zero, List.set_cons_succ])
      | (refine SeqS.take3 (v := undef) (by first | assumption | trivial) (by kernel_rfl) (by decide +kernel) (by decide +kernel) (Or.inr ⟨by rfl, rfl⟩) ?_
         simp only [Act.put, List.setIfInBounds_toArray, List.set_cons_zero, List.set_cons_succ])
      | (refine SeqS.take4 (v := .agg (X).toArray) (by first | assumption | trivial) (by kernel_rfl) (by decide +kernel) (by decide +kernel) (yields_part (by rfl) 25 (.tmp 32) rfl rfl (fun w' h => e4.out w' G h) (hrX)) ?_
         simp only [Act.put, List.setIfInBounds_toArray, List.set_cons_zero, List.set_cons_succ])
      | (refine SeqS.take4 (v := ?_) (by first | assumption | trivial) (by kernel_rfl) (by decide +kernel) (by decide +kernel) (Or.inl ⟨by rfl, ?_⟩) ?_
         rotate_left
         focus
           intro w' hb'
           go_simp
           with_reducible rfl
         simp only [Act.put, List.setIfInBounds_toArray, List.set_cons_zero, List.set_cons_succ])
      | (refine SeqS.take4 (v := ?_) (by first | assumption | trivial) (by kernel_rfl) (by decide +kernel) (by decide +kernel) (Or.inl ⟨by rfl, ?_⟩) ?_
         rotate_left
         focus
           intro w' hb'
           have d0 := e1.out w' G hb'
           go_simp
           with_reducible rfl
         simp only [Act.put, List.setIfInBounds_toArray, List.set_cons_zero, List.set_cons_succ])
      | (refine SeqS.take4 (v := ?_) (by first | assumption | trivial) (by kernel_rfl) (by decide +kernel) (by decide +kernel) (Or.inl ⟨by rfl, ?_⟩) ?_
         rotate_left
         focus
           intro w' hb'
           have d0 := e2.out w' G hb'
           go_simp
           with_reducible rfl
         simp only [Act.put, List.setIfInBounds_toArray, List.set_cons_zero, List.set_cons_succ])
      | (refine SeqS.take4 (v := ?_) (by first | assumption | trivial) (by kernel_rfl) (by decide +kernel) (by decide +kernel) (Or.inl ⟨by rfl, ?_⟩) ?_
         rotate_left
         focus
           intro w' hb'
           have d0 := e5.out w' G hb'
           go_simp
           with_reducible rfl
         simp only [Act.put, List.setIfInBounds_toArray, List.set_cons_zero, List.set_cons_succ])
      | (refine SeqS.take4 (v := undef) (by first | assumption | trivial) (by kernel_rfl) (by decide +kernel) (by decide +kernel) (Or.inr ⟨by rfl, rfl⟩) ?_
         simp only [Act.put, List.setIfInBounds_toArray, List.set_cons_zero, List.set_cons_succ])
      | (refine SeqS.take5 (v := .agg (X).toArray) (by first | assumption | trivial) (by kernel_rfl) (by decide +kernel) (by decide +kernel) (yields_part (by rfl) 25 (.tmp 32) rfl rfl (fun w' h => e4.out w' G h) (hrX)) ?_
         simp only [Act.put, List.setIfInBounds_toArray, List.set_cons_zero, List.set_cons_succ])
      | (refine SeqS.take5 (v := ?_) (by first | assumption | trivial) (by kernel_rfl) (by decide +kernel) (by decide +kernel) (Or.inl ⟨by rfl, ?_⟩) ?_
         rotate_left
         focus
           intro w' hb'
           go_simp
           with_reducible rfl
         simp only [Act.put, List.setIfInBounds_toArray, List.set_cons_zero, List.set_cons_succ])
      | (refine SeqS.take5 (v := ?_) (by first | assumption | trivial) (by kernel_rfl) (by decide +kernel) (by decide +kernel) (Or.inl ⟨by rfl, ?_⟩) ?_
         rotate_left
         focus
           intro w' hb'
           have d0 := e1.out w' G hb'
           go_simp
           with_reducible rfl
         simp only [Act.put, List.setIfInBounds_toArray, List.set_cons_zero, List.set_cons_succ])
      | (refine SeqS.take5 (v := ?_) (by first | assumption | trivial) (by kernel_rfl) (by decide +kernel) (by decide +kernel) (Or.inl ⟨by rfl, ?_⟩) ?_
         rotate_left
         focus
           intro w' hb'
           have d0 := e2.out w' G hb'
           go_simp
           with_reducible rfl
         simp only [Act.put, List.setIfInBounds_toArray, List.set_cons_zero, List.set_cons_succ])
      | (refine SeqS.take5 (v := ?_) (by first | assumption | trivial) (by kernel_rfl) (by decide +kernel) (by decide +kernel) (Or.inl ⟨by rfl, ?_⟩) ?_
         rotate_left
         focus
           intro w' hb'
           have d0 := e5.out w' G hb'
           go_simp
           with_reducible rfl
         simp only [Act.put, List.setIfInBounds_toArray, List.set_cons_zero, List.set_cons_succ])
      | (refine SeqS.take5 (v := undef) (by first | assumption | trivial) (by kernel_rfl) (by decide +kernel) (by decide +kernel) (Or.inr ⟨by rfl, rfl⟩) ?_
         simp only [Act.put, List.setIfInBounds_toArray, List.set_cons_zero, List.set_cons_succ])
      | (refine SeqS.take6 (v := .agg (X).toArray) (by first | assumption | trivial) (by kernel_rfl) (by decide +kernel) (by decide +kernel) (yields_part (by rfl) 25 (.tmp 32) rfl rfl (fun w' h => e4.out w' G h) (hrX)) ?_
         simp only [Act.put, List.setIfInBounds_toArray, List.set_cons_zero, List.set_cons_succ])
      | (refine SeqS.take6 (v := ?_) (by first | assumption | trivial) (by kernel_rfl) (by decide +kernel) (by decide +kernel) (Or.inl ⟨by rfl, ?_⟩) ?_
         rotate_left
         focus
           intro w' hb'
           go_simp
           with_reducible rfl
         simp only [Act.put, List.setIfInBounds_toArray, List.set_cons_zero, List.set_cons_succ])
      | (refine SeqS.take6 (v := ?_) (by first | assumption | trivial) (by kernel_rfl) (by decide +kernel) (by decide +kernel) (Or.inl ⟨by rfl, ?_⟩) ?_
         rotate_left
         focus
           intro w' hb'
           have d0 := e1.out w' G hb'
           go_simp
           with_reducible rfl
         simp only [Act.put, List.setIfInBounds_toArray, List.set_cons_zero, List.set_cons_succ])
      | (refine SeqS.take6 (v := ?_) (by first | assumption | trivial) (by kernel_rfl) (by decide +kernel) (by decide +kernel) (Or.inl ⟨by rfl, ?_⟩) ?_
         rotate_left
         focus
           intro w' hb'
           have d0 := e2.out w' G hb'
           go_simp
           with_reducible rfl
         simp only [Act.put, List.setIfInBounds_toArray, List.set_cons_zero, List.set_cons_succ])
      | (refine SeqS.take6 (v := ?_) (by first | assumption | trivial) (by kernel_rfl) (by decide +kernel) (by decide +kernel) (Or.inl ⟨by rfl, ?_⟩) ?_
         rotate_left
         focus
           intro w' hb'
           have d0 := e5.out w' G hb'
           go_simp
           with_reducible rfl
         simp only [Act.put, List.setIfInBounds_toArray, List.set_cons_zero, List.set_cons_succ])
      | (refine SeqS.take6 (v := undef) (by first | assumption | trivial) (by kernel_rfl) (by decide +kernel) (by decide +kernel) (Or.inr ⟨by rfl, rfl⟩) ?_
         simp only [Act.put, List.setIfInBounds_toArray, List.set_cons_zero, List.set_cons_succ])
      | (refine SeqS.take7 (v := .agg (X).toArray) (by first | assumption | trivial) (by kernel_rfl) (by decide +kernel) (by decide +kernel) (yields_part (by rfl) 25 (.tmp 32) rfl rfl (fun w' h => e4.out w' G h) (hrX)) ?_
         simp only [Act.put, List.setIfInBounds_toArray, List.set_cons_zero, List.set_cons_succ])
      | (refine SeqS.take7 (v := ?_) (by first | assumption | trivial) (by kernel_rfl) (by decide +kernel) (by decide +kernel) (Or.inl ⟨by rfl, ?_⟩) ?_
         rotate_left
         focus
           intro w' hb'
           go_simp
           with_reducible rfl
         simp only [Act.put, List.setIfInBounds_toArray, List.set_cons_zero, List.set_cons_succ])
      | (refine SeqS.take7 (v := ?_) (by first | assumption | trivial) (by kernel_rfl) (by decide +kernel) (by decide +kernel) (Or.inl ⟨by rfl, ?_⟩) ?_
         rotate_left
         focus
           intro w' hb'
           have d0 := e1.out w' G hb'
           go_simp
           with_reducible rfl
         simp only [Act.put, List.setIfInBounds_toArray, List.set_cons_zero, List.set_cons_succ])
      | (refine SeqS.take7 (v := ?_) (by first | assumption | trivial) (by kernel_rfl) (by decide +kernel) (by decide +kernel) (Or.inl ⟨by rfl, ?_⟩) ?_
         rotate_left
         focus
           intro w' hb'
           have d0 := e2.out w' G hb'
           go_simp
           with_reducible rfl
         simp only [Act.put, List.setIfInBounds_toArray, List.set_cons_zero, List.set_cons_succ])
      | (refine SeqS.take7 (v := ?_) (by first | assumption | trivial) (by kernel_rfl) (by decide +kernel) (by decide +kernel) (Or.inl ⟨by rfl, ?_⟩) ?_
         rotate_left
         focus
           intro w' hb'
           have d0 := e5.out w' G hb'
           go_simp
           with_reducible rfl
         simp only [Act.put, List.setIfInBounds_toArray, List.set_cons_zero, List.set_cons_succ])
      | (refine SeqS.take7 (v := undef) (by first | assumption | trivial) (by kernel_rfl) (by decide +kernel) (by decide +kernel) (Or.inr ⟨by rfl, rfl⟩) ?_
         simp only [Act.put, List.setIfInBounds_toArray, List.set_cons_zero, List.set_cons_succ])
      | (refine SeqS.take8 (v := .agg (X).toArray) (by first | assumption | trivial) (by kernel_rfl) (by decide +kernel) (by decide +kernel) (yields_part (by rfl) 25 (.tmp 32) rfl rfl (fun w' h => e4.out w' G h) (hrX)) ?_
         simp only [Act.put, List.setIfInBounds_toArray, List.set_cons_zero, List.set_cons_succ])
      | (refine SeqS.take8 (v := ?_) (by first | assumption | trivial) (by kernel_rfl) (by decide +kernel) (by decide +kernel) (Or.inl ⟨by rfl, ?_⟩) ?_
         rotate_left
         focus
           intro w' hb'
           go_simp
           with_reducible rfl
         simp only [Act.put, List.setIfInBounds_toArray, List.set_cons_zero, List.set_cons_succ])
      | (refine SeqS.take8 (v := ?_) (by first | assumption | trivial) (by kernel_rfl) (by decide +kernel) (by decide +kernel) (Or.inl ⟨by rfl, ?_⟩) ?_
         rotate_left
         focus
           intro w' hb'
           have d0 := e1.out w' G hb'
           go_simp
           with_reducible rfl
         simp only [Act.put, List.setIfInBounds_toArray, List.set_cons_zero, List.set_cons_succ])
      | (refine SeqS.take8 (v := ?_) (by first | assumption | trivial) (by kernel_rfl) (by decide +kernel) (by decide +kernel) (Or.inl ⟨by rfl, ?_⟩) ?_
         rotate_left
         focus
           intro w' hb'
           have d0 := e2.out w' G hb'
           go_simp
           with_reducible rfl
         simp only [Act.put, List.setIfInBounds_toArray, List.set_cons_zero, List.set_cons_succ])
      | (refine SeqS.take8 (v := ?_) (by first | assumption | trivial) (by kernel_rfl) (by decide +kernel) (by decide +kernel) (Or.inl ⟨by rfl, ?_⟩) ?_
         rotate_left
         focus
           intro w' hb'
           have d0 := e5.out w' G hb'
           go_simp
           with_reducible rfl
         simp only [Act.put, List.setIfInBounds_toArray, List.set_cons_zero, List.set_cons_succ])
      | (refine SeqS.take8 (v := undef) (by first | assumption | trivial) (by kernel_rfl) (by decide +kernel) (by decide +kernel) (Or.inr ⟨by rfl, rfl⟩) ?_
         simp only [Act.put, List.setIfInBounds_toArray, List.set_cons_zero, List.set_cons_succ]))
    refine SeqS.alone (by decide +kernel) (by rfl) (fun K5 hK5 => ?_)
    go_simp
    refine hK5 _ _ hkS.out ?_
    clear hK5 K5 g1 z1 hk5 hn5 B5
    try simp only [Act.put, List.setIfInBounds_toArray, List.set_cons_zero, List.set_cons_succ]
    obtain ⟨V6, hV6⟩ : ∃ V, V5.setCell ⟨N, 1, none⟩ (.int .u32 S) = V := ⟨_, rfl⟩
    rw [hV6] at hkS hnS BS ⊢
    clear hV6
    have hkT := Lib.hid (hkS.out.far (p := ⟨N, 2, none⟩) (by show G ≠ N; have := nGN.out; omega) (.int .u32 Q))
    have hnT := hnS.set 2 (.int .u32 Q)
    rw [x2.out] at hnT
    have BT := BS.setCell (p := ⟨N, 2, none⟩) hwN (.int .u32 Q)
    have g2 := f2.out V6 N hnS
    have z2 := hnS.frozen 2
    repeat (first
      | (refine SeqS.take (v := ?_) (by first | assumption | trivial) (by kernel_rfl) (by decide +kernel) (by decide +kernel) (Or.inl ⟨by rfl, ?_⟩) ?_
         rotate_left
         focus
           intro w' hb'
           go_simp
           with_reducible rfl
         simp only [Act.put, List.setIfInBounds_toArray, List.set_cons_zero, List.set_cons_succ])
      | (refine SeqS.take (v := undef) (by first | assumption | trivial) (by kernel_rfl) (by decide +kernel) (by decide +kernel) (Or.inr ⟨by rfl, rfl⟩) ?_
         simp only [Act.put, List.setIfInBounds_toArray, List.set_cons_zero, List.set_cons_succ])
      | (refine SeqS.take1 (v := ?_) (by first | assumption | trivial) (by kernel_rfl) (by decide +kernel) (by decide +kernel) (Or.inl ⟨by rfl, ?_⟩) ?_
         rotate_left
         focus
           intro w' hb'
           go_simp
           with_reducible rfl
         simp only [Act.put, List.setIfInBounds_toArray, List.set_cons_zero, List.set_cons_succ])
      | (refine SeqS.take1 (v := undef) (by first | assumption | trivial) (by kernel_rfl) (by decide +kernel) (by decide +kernel) (Or.inr ⟨by rfl, rfl⟩) ?_
         simp only [Act.put, List.setIfInBounds_toArray, List.set_cons_zero, List.set_cons_succ])
      | (refine SeqS.take2 (v := ?_) (by first | assumption | trivial) (by kernel_rfl) (by decide +kernel) (by decide +kernel) (Or.inl ⟨by rfl, ?_⟩) ?_
         rotate_left
         focus
           intro w' hb'
           go_simp
           with_reducible rfl
         simp only [Act.put, List.setIfInBounds_toArray, List.set_cons_zero, List.set_cons_succ])
      | (refine SeqS.take2 (v := undef) (by first | assumption | trivial) (by kernel_rfl) (by decide +kernel) (by decide +kernel) (Or.inr ⟨by rfl, rfl⟩) ?_
         simp only [Act.put, List.setIfInBounds_toArray, List.set_cons_zero, List.set_cons_succ]))
    refine SeqS.alone (by decide +kernel) (by rfl) (fun K5 hK5 => ?_)
    go_simp
    refine hK5 _ _ hkT.out ?_
    clear hK5 K5 g2 z2 hnS BS hkS
    try simp only [Act.put, List.setIfInBounds_toArray, List.set_cons_zero, List.set_cons_succ]
    obtain ⟨V7, hV7⟩ : ∃ V, V6.setCell ⟨N, 2, none⟩ (.int .u32 Q) = V := ⟨_, rfl⟩
    rw [hV7] at hkT hnT BT ⊢
    clear hV7
    repeat (first
      | (refine SeqS.take (v := ?_) (by first | assumption | trivial) (by kernel_rfl) (by decide +kernel) (by decide +kernel) (Or.inl ⟨by rfl, ?_⟩) ?_
         rotate_left
         focus
           intro w' hb'
           go_simp
           with_reducible rfl
         simp only [Act.put, List.setIfInBounds_toArray, List.set_cons_zero, List.set_cons_succ])
      | (refine SeqS.take (v := undef) (by first | assumption | trivial) (by kernel_rfl) (by decide +kernel) (by decide +kernel) (Or.inr ⟨by rfl, rfl⟩) ?_
         simp only [Act.put, List.setIfInBounds_toArray, List.set_cons_zero, List.set_cons_succ])
      | (refine SeqS.take1 (v := ?_) (by first | assumption | trivial) (by kernel_rfl) (by decide +kernel) (by decide +kernel) (Or.inl ⟨by rfl, ?_⟩) ?_
         rotate_left
         focus
           intro w' hb'
           go_simp
           with_reducible rfl
         simp only [Act.put, List.setIfInBounds_toArray, List.set_cons_zero, List.set_cons_succ])
      | (refine SeqS.take1 (v := undef) (by first | assumption | trivial) (by kernel_rfl) (by decide +kernel) (by decide +kernel) (Or.inr ⟨by rfl, rfl⟩) ?_
         simp only [Act.put, List.setIfInBounds_toArray, List.set_cons_zero, List.set_cons_succ])
      | (refine SeqS.take2 (v := ?_) (by first | assumption | trivial) (by kernel_rfl) (by decide +kernel) (by decide +kernel) (Or.inl ⟨by rfl, ?_⟩) ?_
         rotate_left
         focus
           intro w' hb'
           go_simp
           with_reducible rfl
         simp only [Act.put, List.setIfInBounds_toArray, List.set_cons_zero, List.set_cons_succ])
      | (refine SeqS.take2 (v := undef) (by first | assumption | trivial) (by kernel_rfl) (by decide +kernel) (by decide +kernel) (Or.inr ⟨by rfl, rfl⟩) ?_
         simp only [Act.put, List.setIfInBounds_toArray, List.set_cons_zero, List.set_cons_succ]))
    refine SeqS.alone (by decide +kernel) (by rfl) (fun K5 hK5 => ?_)
    refine wp_store_part 25 (.tmp 38) (.tmp 33) rfl rfl rfl hnT hrX (by rw [hXl, hE2l]; decide) hX1 ?_
    intro V8 hnU hg8
    rw [x4.out] at hnU
    have hkU := Lib.hid (hkT.out.grown hg8 (fun e => by injection e with e; have := nGN.out; omega))
    have BU := BT.grown hg8 BT.size (fun q hq => by injection hq with hq; omega)
    refine hK5 _ _ hkU.out ?_
    clear hK5 K5 hnT BT hkT hg8
    try simp only [Act.put]
    have hkY := Lib.hid (hkU.out.far (p := ⟨N, 20, none⟩) (by show G ≠ N; have := nGN.out; omega) (.slice a n c))
    have hnY := hnU.set 20 (.slice a n c)
    rw [x5.out] at hnY
    have BY := BU.setCell (p := ⟨N, 20, none⟩) hwN (.slice a n c)
    have g5 := f5.out V8 N hnU
    have z5 := hnU.frozen 20
    repeat (first
      | (refine SeqS.take (v := ?_) (by first | assumption | trivial) (by kernel_rfl) (by decide +kernel) (by decide +kernel) (Or.inl ⟨by rfl, ?_⟩) ?_
         rotate_left
         focus
           intro w' hb'
           go_simp
           with_reducible rfl
         simp only [Act.put, List.setIfInBounds_toArray, List.set_cons_zero, List.set_cons_succ])
      | (refine SeqS.take (v := undef) (by first | assumption | trivial) (by kernel_rfl) (by decide +kernel) (by decide +kernel) (Or.inr ⟨by rfl, rfl⟩) ?_
         simp only [Act.put, List.setIfInBounds_toArray, List.set_cons_zero, List.set_cons_succ])
      | (refine SeqS.take1 (v := ?_) (by first | assumption | trivial) (by kernel_rfl) (by decide +kernel) (by decide +kernel) (Or.inl ⟨by rfl, ?_⟩) ?_
         rotate_left
         focus
           intro w' hb'
           go_simp
           with_reducible rfl
         simp only [Act.put, List.setIfInBounds_toArray, List.set_cons_zero, List.set_cons_succ])
      | (refine SeqS.take1 (v := undef) (by first | assumption | trivial) (by kernel_rfl) (by decide +kernel) (by decide +kernel) (Or.inr ⟨by rfl, rfl⟩) ?_
         simp only [Act.put, List.setIfInBounds_toArray, List.set_cons_zero, List.set_cons_succ])
      | (refine SeqS.take2 (v := ?_) (by first | assumption | trivial) (by kernel_rfl) (by decide +kernel) (by decide +kernel) (Or.inl ⟨by rfl, ?_⟩) ?_
         rotate_left
         focus
           intro w' hb'
           go_simp
           with_reducible rfl
         simp only [Act.put, List.setIfInBounds_toArray, List.set_cons_zero, List.set_cons_succ])
      | (refine SeqS.take2 (v := undef) (by first | assumption | trivial) (by kernel_rfl) (by decide +kernel) (by decide +kernel) (Or.inr ⟨by rfl, rfl⟩) ?_
         simp only [Act.put, List.setIfInBounds_toArray, List.set_cons_zero, List.set_cons_succ]))
    refine SeqS.alone (by decide +kernel) (by rfl) (fun K5 hK5 => ?_)
    go_simp
    refine hK5 _ _ hkY.out ?_
    clear hK5 K5 g5 z5 hnU BU hkU
    try simp only [Act.put, List.setIfInBounds_toArray, List.set_cons_zero, List.set_cons_succ]
    obtain ⟨w4, hw4⟩ : ∃ V, V8.setCell ⟨N, 20, none⟩ (.slice a n c) = V := ⟨_, rfl⟩
    rw [hw4] at hkY hnY BY ⊢
    clear hw4
    refine SeqS.done (by decide +kernel) ?_
    have hk4 := hkY.out
    have hn4 := hnY
    have B4 := BY
    have c5 := e5.out w4 G hk4
    have sm := Lib.hid (hs1.out w4 B4)
    clear hkY hnY BY hs1
    go_wp2
    try simp only [decide_eq_false (show ¬ (n : Int) ≤ 600 by omega)]
    try go_wp2
    go_ret
    exact ⟨by first | rfl | simp, B4⟩

set_option maxRecDepth 100000 in
set_option maxHeartbeats 4000000 in
theorem kcRight_4 (S Q O : Int) (H xs h p : List Int) (m : Nat) (zs : List Int) (a b : Option Addr) (c d : Nat) (w : World) (hr : RecOk ⟨⟨4, S, Q, O, H, xs⟩, ⟨h, p, m, zs⟩⟩) (hI : RecAt w ⟨⟨4, S, Q, O, H, xs⟩, ⟨h, p, m, zs⟩⟩ a c b d) (hn : m ≤ 100000) :
    Calls Try.prog 10 #[.agg (rC ⟨⟨4, S, Q, O, H, xs⟩, ⟨h, p, m, zs⟩⟩ a c b d).toArray] w fun q w' => q = .returned (.bool (rightRec ⟨⟨4, S, Q, O, H, xs⟩, ⟨h, p, m, zs⟩⟩)) ∧ Below w.heap.size w w' := by
  rw [rightRec_own, (mays _ _ _ _ _ _).2.2.1, (owns _ _ _ _ _ _).2.2.1]
  have hRO : RecOk ⟨⟨4, S, 0, 0, z16, []⟩, noBlk⟩ := ⟨ok_msg hr.1.ses zero_ok zero_ok rfl z16_range okB_nil, noBlk_ok⟩
  obtain ⟨K, hK⟩ : ∃ K : Int, 4 = K := ⟨_, rfl⟩
  rw [hK] at hr hI hRO ⊢
  obtain ⟨⟨_, _, _, hl, hhr, hx⟩, ⟨hh, hp, hzl, hho, hpo, hzo⟩⟩ := id hr
  dsimp only at hl hhr hx hh hp hzl hho hpo hzo
  have hln := hI.1.len
  dsimp only at hln
  have hCl := rcC_len (K := K) (S := S) (Q := Q) (O := O) (a := a) (n := xs.length) (c := c) (b := b) (m := m) (d := d) hl hh hp
  have e0 := Lib.hid (fun w' g (k : Blk w' g 33 (rcC K S Q O H a xs.length c h p b m d)) => rc0 k)
  have e1 := Lib.hid (fun w' g (k : Blk w' g 33 (rcC K S Q O H a xs.length c h p b m d)) => rc1 k)
  have e2 := Lib.hid (fun w' g (k : Blk w' g 33 (rcC K S Q O H a xs.length c h p b m d)) => rc2 k)
  have e3 := Lib.hid (fun w' g (k : Blk w' g 33 (rcC K S Q O H a xs.length c h p b m d)) => rc3 k)
  have e4 := Lib.hid (fun w' g (k : Blk w' g 33 (rcC K S Q O H a xs.length c h p b m d)) => rc4 k)
  have e5 := Lib.hid (fun w' g (k : Blk w' g 33 (rcC K S Q O H a xs.length c h p b m d)) => rc5 k hl)
  have e6 := Lib.hid (fun w' g (k : Blk w' g 33 (rcC K S Q O H a xs.length c h p b m d)) => rc6 k hl)
  have e7 := Lib.hid (fun w' g (k : Blk w' g 33 (rcC K S Q O H a xs.length c h p b m d)) => rc7 k hl)
  have hsm := fun w' (s : RecV) a' c' b' d' (k : Below w.heap.size w w') (hs : RecOk s) (hJ : RecAt w' s a' c' b' d') => kcSame_any ⟨⟨K, S, Q, O, H, xs⟩, ⟨h, p, m, zs⟩⟩ s a b a' b' c d c' d' w' hr hs (hI.keep k) hJ hn
  unfold rC at hsm ⊢
  dsimp only at hsm hn ⊢
  obtain ⟨C, hC⟩ : ∃ C, rcC K S Q O H a xs.length c h p b m d = C := ⟨_, rfl⟩
  rw [hC] at hsm hCl e0 e1 e2 e3 e4 e5 e6 e7
  rw [hC]
  have hsm := Lib.hid hsm
  have hrC : IsRow Try.prog 33 C.length := rowRc_of hCl
  have hbt := built_rc1 K
  have hEl := rcC_len (K := K) (S := 0) (Q := 0) (O := 0) (H := z16) (a := none) (n := 0) (c := 0) (h := z32) (p := z32) (b := none) (m := 0) (d := 0) rfl rfl rfl
  have hE1 := rcC_one (K := K) (S := 0) (Q := 0) (O := 0) (H := z16) (a := none) (n := 0) (c := 0) (h := z32) (p := z32) (b := none) (m := 0) (d := 0)
  obtain ⟨E, hE⟩ : ∃ E, rcC K 0 0 0 z16 none 0 0 z32 z32 none 0 0 = E := ⟨_, rfl⟩
  rw [hE] at hbt hEl hE1
  have hEH := Lib.hid hE
  obtain ⟨Z, hZ⟩ : ∃ Z, rC noRec none 0 none 0 = Z := ⟨_, rfl⟩
  have hZ0 : Zero Try.prog 33 Z := by rw [← hZ]; exact zeroRc
  have hZl : Z.length = 86 := by rw [← hZ]; exact rC_len noRec_ok _ _ _ _
  have hb := below1 w (.cells C.toArray 33)
  have hk : Blk (w.alloc (.cells C.toArray 33)) w.heap.size 33 C := Blk.new w _ C
  obtain ⟨V, hV⟩ : ∃ V, w.alloc (.cells C.toArray 33) = V := ⟨_, rfl⟩
  rw [hV] at hb hk
  obtain ⟨G, g9⟩ : ∃ G, w.heap.size = G := ⟨_, rfl⟩
  rw [g9] at hk
  have gH := Lib.hid g9
  have c0 := e0.out V G hk
  clear hE hZ hC
  have hs1 := fun w' k => hsm.out w' ⟨⟨K, S, 0, 0, z16, []⟩, noBlk⟩ none 0 none 0 k hRO ⟨⟨rfl, Nat.le_refl _, .inl rfl⟩, ⟨rfl, Nat.le_refl _, .inl rfl⟩⟩
  obtain ⟨T, hT⟩ : ∃ T, sameRec ⟨⟨K, S, Q, O, H, xs⟩, ⟨h, p, m, zs⟩⟩ ⟨⟨K, S, 0, 0, z16, []⟩, noBlk⟩ = T := ⟨_, rfl⟩
  rw [hT] at hs1 ⊢
  dsimp only [List.length_nil, noBlk] at hs1
  have x1 := rcC_set1 (K := K) (S := 0) (Q := 0) (O := 0) (H := z16) (a := none) (n := 0) (c := 0) (h := z32) (p := z32) (b := none) (m := 0) (d := 0) S
  have f1 := fun w' g (k : Blk w' g 33 (rcC K 0 0 0 z16 none 0 0 z32 z32 none 0 0)) => rc1 k
  rw [hEH.out] at x1 f1
  have hFl := rcC_len (K := K) (S := S) (Q := 0) (O := 0) (H := z16) (a := none) (n := 0) (c := 0) (h := z32) (p := z32) (b := none) (m := 0) (d := 0) rfl rfl rfl
  obtain ⟨F, hF⟩ : ∃ E, rcC K S 0 0 z16 none 0 0 z32 z32 none 0 0 = E := ⟨_, rfl⟩
  rw [hF] at x1 hs1 hFl
  have x1 := Lib.hid x1
  have f1 := Lib.hid f1
  have hs1 := Lib.hid hs1
  clear hsm hF hr hI hRO hT
  subst hK
  rw [Bool.true_and]
  go_enter Try.func10, Try.ntmps10
  go_wp2_with ((with_reducible refine box_row rfl 33 (.tmp 0) rfl C ?_ ?_); rfl; refine RowKit.Hid.out ?_)
  refine Lib.hid ?_
  clear hV
  go_wp2_with ((with_reducible refine build_row rfl 33 #[(0, .tmp 6)] rfl (cells := E.toArray) ?_ ?_); (refine Eq.trans (congrArg _ ?_) hbt; kernel_rfl); refine RowKit.Hid.out ?_)
  refine Lib.hid ?_
  refine wpList_alloc_blk rfl 33 rfl hZ0 ?_
  try simp only [Act.put, List.setIfInBounds_toArray, List.set_cons_zero, List.set_cons_succ]
  have hkA := hk.alloc (.cells Z.toArray 33)
  have hnA := Blk.new V 33 Z
  have hBA := hb.alloc hb.size (.cells Z.toArray 33)
  have hnG : G < V.heap.size := hk.lt
  obtain ⟨N, hN⟩ : ∃ N, V.heap.size = N := ⟨_, rfl⟩
  rw [hN] at hnA hnG ⊢
  obtain ⟨U, hU⟩ : ∃ W, V.alloc (.cells Z.toArray 33) = W := ⟨_, rfl⟩
  rw [hU] at hkA hnA hBA ⊢
  have nGN := Lib.hid hnG
  clear hk hb hN hU c0
  refine store_row rfl 33 (.tmp 3) (.tmp 7) rfl rfl rfl hnA rowRc hEl hZl hE1 ?_
  intro w2 hn2 hg2
  have hk2 := hkA.grown hg2 (fun e => by injection e with e; omega)
  have B2 := hBA.grown hg2 hBA.size (fun q hq => by injection hq with hq; have := gH.out; omega)
  have c0 := e0.out w2 G hk2
  clear hkA hnA hBA hg2 hnG g9
  have hwN : w.heap.size ≤ N := by have := nGN.out; have := gH.out; omega
  have hk4 := hk2.far (p := ⟨N, 1, none⟩) (by show G ≠ N; have := nGN.out; omega) (.int .u32 S)
  have hn4 := hn2.set 1 (.int .u32 S)
  rw [x1.out] at hn4
  have B4 := B2.setCell (p := ⟨N, 1, none⟩) hwN (.int .u32 S)
  have c1 := e1.out w2 G hk2
  have g1 := f1.out w2 N hn2
  have z1 := hn2.frozen 1
  have sm := Lib.hid (hs1.out _ B4)
  clear hk2 hn2 B2 hs1
  go_wp2_with (first
    | ((with_reducible refine load_if rfl 33 (.tmp 1) rfl ?_ hk4 rowRc hCl ?_); rfl)
    | ((with_reducible refine load_if rfl 33 (.tmp 3) rfl ?_ hn4 rowRc hFl ?_); rfl))
  refine sm.out.mono ?_
  rintro q w5 ⟨rfl, b5⟩
  go_wp2
  go_ret
  exact ⟨by first | rfl | simp, B4.trans (b5.mono B4.size)⟩
end Go.Proofs.Ytaaflnmdaplfkaa

/-
  What record's Right comes to, of a Connect, a Disconnect, and of any other kind. New memory alone is written. Conditions: the fields' ranges; at most a hundred thousand ids.
-/
namespace Go.Proofs.Ytaaflnmdaplfkaa
open Go.RowKit

set_option maxRecDepth 100000 in
set_option maxHeartbeats 4000000 in
theorem kcRight_5 (S Q O : Int) (H xs h p : List Int) (m : Nat) (zs : List Int) (a b : Option Addr) (c d : Nat) (w : World) (hr : RecOk ⟨⟨5, S, Q, O, H, xs⟩, ⟨h, p, m, zs⟩⟩) (hI : RecAt w ⟨⟨5, S, Q, O, H, xs⟩, ⟨h, p, m, zs⟩⟩ a c b d) (hn : m ≤ 100000) :
    Calls Try.prog 10 #[.agg (rC ⟨⟨5, S, Q, O, H, xs⟩, ⟨h, p, m, zs⟩⟩ a c b d).toArray] w fun q w' => q = .returned (.bool (rightRec ⟨⟨5, S, Q, O, H, xs⟩, ⟨h, p, m, zs⟩⟩)) ∧ Below w.heap.size w w' := by
  rw [rightRec_own, (mays _ _ _ _ _ _).2.2.2.1, (owns _ _ _ _ _ _).2.2.2.1]
  have hRO : RecOk ⟨⟨5, 0, 0, 0, z16, []⟩, ⟨h, p, m, zs⟩⟩ := ⟨ok_msg zero_ok zero_ok zero_ok rfl z16_range okB_nil, hr.2⟩
  obtain ⟨K, hK⟩ : ∃ K : Int, 5 = K := ⟨_, rfl⟩
  rw [hK] at hr hI hRO ⊢
  obtain ⟨⟨_, _, _, hl, hhr, hx⟩, ⟨hh, hp, hzl, hho, hpo, hzo⟩⟩ := id hr
  dsimp only at hl hhr hx hh hp hzl hho hpo hzo
  have hln := hI.1.len
  dsimp only at hln
  have hCl := rcC_len (K := K) (S := S) (Q := Q) (O := O) (a := a) (n := xs.length) (c := c) (b := b) (m := m) (d := d) hl hh hp
  have e0 := Lib.hid (fun w' g (k : Blk w' g 33 (rcC K S Q O H a xs.length c h p b m d)) => rc0 k)
  have e1 := Lib.hid (fun w' g (k : Blk w' g 33 (rcC K S Q O H a xs.length c h p b m d)) => rc1 k)
  have e2 := Lib.hid (fun w' g (k : Blk w' g 33 (rcC K S Q O H a xs.length c h p b m d)) => rc2 k)
  have e3 := Lib.hid (fun w' g (k : Blk w' g 33 (rcC K S Q O H a xs.length c h p b m d)) => rc3 k)
  have e4 := Lib.hid (fun w' g (k : Blk w' g 33 (rcC K S Q O H a xs.length c h p b m d)) => rc4 k)
  have e5 := Lib.hid (fun w' g (k : Blk w' g 33 (rcC K S Q O H a xs.length c h p b m d)) => rc5 k hl)
  have e6 := Lib.hid (fun w' g (k : Blk w' g 33 (rcC K S Q O H a xs.length c h p b m d)) => rc6 k hl)
  have e7 := Lib.hid (fun w' g (k : Blk w' g 33 (rcC K S Q O H a xs.length c h p b m d)) => rc7 k hl)
  have hsm := fun w' (s : RecV) a' c' b' d' (k : Below w.heap.size w w') (hs : RecOk s) (hJ : RecAt w' s a' c' b' d') => kcSame_any ⟨⟨K, S, Q, O, H, xs⟩, ⟨h, p, m, zs⟩⟩ s a b a' b' c d c' d' w' hr hs (hI.keep k) hJ hn
  unfold rC at hsm ⊢
  dsimp only at hsm hn ⊢
  obtain ⟨C, hC⟩ : ∃ C, rcC K S Q O H a xs.length c h p b m d = C := ⟨_, rfl⟩
  rw [hC] at hsm hCl e0 e1 e2 e3 e4 e5 e6 e7
  rw [hC]
  have hsm := Lib.hid hsm
  have hrC : IsRow Try.prog 33 C.length := rowRc_of hCl
  have hbt := built_rc1 K
  have hEl := rcC_len (K := K) (S := 0) (Q := 0) (O := 0) (H := z16) (a := none) (n := 0) (c := 0) (h := z32) (p := z32) (b := none) (m := 0) (d := 0) rfl rfl rfl
  have hE1 := rcC_one (K := K) (S := 0) (Q := 0) (O := 0) (H := z16) (a := none) (n := 0) (c := 0) (h := z32) (p := z32) (b := none) (m := 0) (d := 0)
  obtain ⟨E, hE⟩ : ∃ E, rcC K 0 0 0 z16 none 0 0 z32 z32 none 0 0 = E := ⟨_, rfl⟩
  rw [hE] at hbt hEl hE1
  have hEH := Lib.hid hE
  obtain ⟨Z, hZ⟩ : ∃ Z, rC noRec none 0 none 0 = Z := ⟨_, rfl⟩
  have hZ0 : Zero Try.prog 33 Z := by rw [← hZ]; exact zeroRc
  have hZl : Z.length = 86 := by rw [← hZ]; exact rC_len noRec_ok _ _ _ _
  have hb := below1 w (.cells C.toArray 33)
  have hk : Blk (w.alloc (.cells C.toArray 33)) w.heap.size 33 C := Blk.new w _ C
  obtain ⟨V, hV⟩ : ∃ V, w.alloc (.cells C.toArray 33) = V := ⟨_, rfl⟩
  rw [hV] at hb hk
  obtain ⟨G, g9⟩ : ∃ G, w.heap.size = G := ⟨_, rfl⟩
  rw [g9] at hk
  have gH := Lib.hid g9
  have c0 := e0.out V G hk
  clear hE hZ hC
  have hs1 := fun w' (k : Below w.heap.size w w') => hsm.out w' ⟨⟨K, 0, 0, 0, z16, []⟩, ⟨h, p, m, zs⟩⟩ none 0 b d k hRO ⟨⟨rfl, Nat.le_refl _, .inl rfl⟩, hI.2.keep k⟩
  have hrt := fun w' (k : Below w.heap.size w w') => bkRight_any h p b m d zs w' hh hp (hI.2.keep k) hzo hn
  obtain ⟨T, hT⟩ : ∃ T, sameRec ⟨⟨K, S, Q, O, H, xs⟩, ⟨h, p, m, zs⟩⟩ ⟨⟨K, 0, 0, 0, z16, []⟩, ⟨h, p, m, zs⟩⟩ = T := ⟨_, rfl⟩
  obtain ⟨M, hM⟩ : ∃ T, rightK ⟨h, p, m, zs⟩ = T := ⟨_, rfl⟩
  rw [hT] at hs1 ⊢
  rw [hM] at hrt ⊢
  dsimp only [List.length_nil] at hs1
  have x6 := rcC_over6 (K := K) (S := 0) (Q := 0) (O := 0) (H := z16) (a := none) (n := 0) (c := 0) (h := z32) (p := z32) (b := none) (m := 0) (d := 0) rfl rfl rfl h p b m d hh hp
  rw [hEH.out] at x6
  have hFl := rcC_len (K := K) (S := 0) (Q := 0) (O := 0) (H := z16) (a := none) (n := 0) (c := 0) (h := h) (p := p) (b := b) (m := m) (d := d) rfl hh hp
  have hUl := bkC_len (a := b) (n := m) (c := d) hh hp
  have hU1 := bkC_one h p b m d
  obtain ⟨Y, hY⟩ : ∃ Y, bkC h p b m d = Y := ⟨_, rfl⟩
  rw [hY] at e6 x6 hrt hUl hU1
  have hrU : IsRow Try.prog 31 Y.length := rowBk_of hUl
  obtain ⟨F, hF⟩ : ∃ E, rcC K 0 0 0 z16 none 0 0 h p b m d = E := ⟨_, rfl⟩
  rw [hF] at x6 hs1 hFl
  have x6 := Lib.hid x6
  have hrt := Lib.hid hrt
  have hs1 := Lib.hid hs1
  clear hsm hF hr hI hRO hT hM hY
  subst hK
  cases M with
  | true =>
    rw [Bool.true_and]
    go_enter Try.func10, Try.ntmps10
    go_wp2_with ((with_reducible refine box_row rfl 33 (.tmp 0) rfl C ?_ ?_); rfl; refine RowKit.Hid.out ?_)
    refine Lib.hid ?_
    clear hV
    go_wp2_with ((with_reducible refine build_row rfl 33 #[(0, .tmp 6)] rfl (cells := E.toArray) ?_ ?_); (refine Eq.trans (congrArg _ ?_) hbt; kernel_rfl); refine RowKit.Hid.out ?_)
    refine Lib.hid ?_
    refine wpList_alloc_blk rfl 33 rfl hZ0 ?_
    try simp only [Act.put, List.setIfInBounds_toArray, List.set_cons_zero, List.set_cons_succ]
    have hkA := hk.alloc (.cells Z.toArray 33)
    have hnA := Blk.new V 33 Z
    have hBA := hb.alloc hb.size (.cells Z.toArray 33)
    have hnG : G < V.heap.size := hk.lt
    obtain ⟨N, hN⟩ : ∃ N, V.heap.size = N := ⟨_, rfl⟩
    rw [hN] at hnA hnG ⊢
    obtain ⟨U, hU⟩ : ∃ W, V.alloc (.cells Z.toArray 33) = W := ⟨_, rfl⟩
    rw [hU] at hkA hnA hBA ⊢
    have nGN := Lib.hid hnG
    clear hk hb hN hU c0
    refine store_row rfl 33 (.tmp 3) (.tmp 7) rfl rfl rfl hnA rowRc hEl hZl hE1 ?_
    intro w2 hn2 hg2
    have hk2 := hkA.grown hg2 (fun e => by injection e with e; omega)
    have B2 := hBA.grown hg2 hBA.size (fun q hq => by injection hq with hq; have := gH.out; omega)
    have c0 := e0.out w2 G hk2
    clear hkA hnA hBA hg2 hnG g9
    have hwN : w.heap.size ≤ N := by have := nGN.out; have := gH.out; omega
    have c6 := e6.out w2 G hk2
    go_wp2_with (first
      | ((with_reducible refine wpList_load_part rfl 31 (.tmp 51) rfl ?_ Y c6 hrU ?_); rfl)
      | ((with_reducible refine wpList_store_part (off := 21) rfl 31 (.tmp 53) (.tmp 52) rfl ?_ ?_ hn2 hrU ?_ hU1 ?_); rfl; rfl; (rw [hUl, hEl]; decide); refine RowKit.Hid.out ?_))
    refine Lib.hid ?_
    intro w3 hn3 hg3
    try rw [x6.out] at hn3
    have hk3 := hk2.grown hg3 (fun e => by injection e with e; have := nGN.out; omega)
    have B3 := B2.grown hg3 B2.size (fun q hq => by injection hq with hq; omega)
    clear c6 hk2 hn2 B2 hg3 c0
    have c6 := e6.out w3 G hk3
    go_wp2_with ((with_reducible refine wpList_load_part rfl 31 (.tmp 54) rfl ?_ Y c6 hrU ?_); rfl)
    refine (hrt.out w3 B3).mono ?_
    rintro q w4 ⟨rfl, b4⟩
    have hk4 := hk3.keep b4 hk3.lt
    have hn4 := hn3.keep b4 hn3.lt
    have B4 := B3.trans (b4.mono B3.size)
    have sm := Lib.hid (hs1.out w4 B4)
    clear hk3 hn3 B3 b4 c6 hrt hs1
    go_wp2_with (first
      | ((with_reducible refine load_if rfl 33 (.tmp 1) rfl ?_ hk4 rowRc hCl ?_); rfl)
      | ((with_reducible refine load_if rfl 33 (.tmp 3) rfl ?_ hn4 rowRc hFl ?_); rfl))
    refine sm.out.mono ?_
    rintro q w5 ⟨rfl, b5⟩
    go_wp2
    go_ret
    exact ⟨by first | rfl | simp, B4.trans (b5.mono B4.size)⟩
  | false =>
    rw [Bool.false_and]
    go_enter Try.func10, Try.ntmps10
    go_wp2_with ((with_reducible refine box_row rfl 33 (.tmp 0) rfl C ?_ ?_); rfl; refine RowKit.Hid.out ?_)
    refine Lib.hid ?_
    clear hV
    go_wp2_with ((with_reducible refine build_row rfl 33 #[(0, .tmp 6)] rfl (cells := E.toArray) ?_ ?_); (refine Eq.trans (congrArg _ ?_) hbt; kernel_rfl); refine RowKit.Hid.out ?_)
    refine Lib.hid ?_
    refine wpList_alloc_blk rfl 33 rfl hZ0 ?_
    try simp only [Act.put, List.setIfInBounds_toArray, List.set_cons_zero, List.set_cons_succ]
    have hkA := hk.alloc (.cells Z.toArray 33)
    have hnA := Blk.new V 33 Z
    have hBA := hb.alloc hb.size (.cells Z.toArray 33)
    have hnG : G < V.heap.size := hk.lt
    obtain ⟨N, hN⟩ : ∃ N, V.heap.size = N := ⟨_, rfl⟩
    rw [hN] at hnA hnG ⊢
    obtain ⟨U, hU⟩ : ∃ W, V.alloc (.cells Z.toArray 33) = W := ⟨_, rfl⟩
    rw [hU] at hkA hnA hBA ⊢
    have nGN := Lib.hid hnG
    clear hk hb hN hU c0
    refine store_row rfl 33 (.tmp 3) (.tmp 7) rfl rfl rfl hnA rowRc hEl hZl hE1 ?_
    intro w2 hn2 hg2
    have hk2 := hkA.grown hg2 (fun e => by injection e with e; omega)
    have B2 := hBA.grown hg2 hBA.size (fun q hq => by injection hq with hq; have := gH.out; omega)
    have c0 := e0.out w2 G hk2
    clear hkA hnA hBA hg2 hnG g9
    have hwN : w.heap.size ≤ N := by have := nGN.out; have := gH.out; omega
    have c6 := e6.out w2 G hk2
    go_wp2_with (first
      | ((with_reducible refine wpList_load_part rfl 31 (.tmp 51) rfl ?_ Y c6 hrU ?_); rfl)
      | ((with_reducible refine wpList_store_part (off := 21) rfl 31 (.tmp 53) (.tmp 52) rfl ?_ ?_ hn2 hrU ?_ hU1 ?_); rfl; rfl; (rw [hUl, hEl]; decide); refine RowKit.Hid.out ?_))
    refine Lib.hid ?_
    intro w3 hn3 hg3
    try rw [x6.out] at hn3
    have hk3 := hk2.grown hg3 (fun e => by injection e with e; have := nGN.out; omega)
    have B3 := B2.grown hg3 B2.size (fun q hq => by injection hq with hq; omega)
    clear c6 hk2 hn2 B2 hg3 c0
    have c6 := e6.out w3 G hk3
    go_wp2_with ((with_reducible refine wpList_load_part rfl 31 (.tmp 54) rfl ?_ Y c6 hrU ?_); rfl)
    refine (hrt.out w3 B3).mono ?_
    rintro q w4 ⟨rfl, b4⟩
    have hk4 := hk3.keep b4 hk3.lt
    have hn4 := hn3.keep b4 hn3.lt
    have B4 := B3.trans (b4.mono B3.size)
    have sm := Lib.hid (hs1.out w4 B4)
    clear hk3 hn3 B3 b4 c6 hrt hs1
    go_wp2
    go_ret
    exact ⟨by first | rfl | simp, B4⟩

set_option maxRecDepth 100000 in
set_option maxHeartbeats 4000000 in
theorem kcRight_6 (S Q O : Int) (H xs h p : List Int) (m : Nat) (zs : List Int) (a b : Option Addr) (c d : Nat) (w : World) (hr : RecOk ⟨⟨6, S, Q, O, H, xs⟩, ⟨h, p, m, zs⟩⟩) (hI : RecAt w ⟨⟨6, S, Q, O, H, xs⟩, ⟨h, p, m, zs⟩⟩ a c b d) (hn : m ≤ 100000) :
    Calls Try.prog 10 #[.agg (rC ⟨⟨6, S, Q, O, H, xs⟩, ⟨h, p, m, zs⟩⟩ a c b d).toArray] w fun q w' => q = .returned (.bool (rightRec ⟨⟨6, S, Q, O, H, xs⟩, ⟨h, p, m, zs⟩⟩)) ∧ Below w.heap.size w w' := by
  rw [rightRec_own, (mays _ _ _ _ _ _).2.2.2.2, (owns _ _ _ _ _ _).2.2.2.2]
  have hRO : RecOk ⟨⟨6, 0, 0, 0, z16, []⟩, ⟨h, z32, 0, []⟩⟩ := ⟨ok_msg zero_ok zero_ok zero_ok rfl z16_range okB_nil, ⟨hr.2.1, rfl, rfl, hr.2.2.2.2.1, z32_ok, okB_nil⟩⟩
  unfold bareK
  dsimp only
  obtain ⟨K, hK⟩ : ∃ K : Int, 6 = K := ⟨_, rfl⟩
  rw [hK] at hr hI hRO ⊢
  obtain ⟨⟨_, _, _, hl, hhr, hx⟩, ⟨hh, hp, hzl, hho, hpo, hzo⟩⟩ := id hr
  dsimp only at hl hhr hx hh hp hzl hho hpo hzo
  have hln := hI.1.len
  dsimp only at hln
  have hCl := rcC_len (K := K) (S := S) (Q := Q) (O := O) (a := a) (n := xs.length) (c := c) (b := b) (m := m) (d := d) hl hh hp
  have e0 := Lib.hid (fun w' g (k : Blk w' g 33 (rcC K S Q O H a xs.length c h p b m d)) => rc0 k)
  have e1 := Lib.hid (fun w' g (k : Blk w' g 33 (rcC K S Q O H a xs.length c h p b m d)) => rc1 k)
  have e2 := Lib.hid (fun w' g (k : Blk w' g 33 (rcC K S Q O H a xs.length c h p b m d)) => rc2 k)
  have e3 := Lib.hid (fun w' g (k : Blk w' g 33 (rcC K S Q O H a xs.length c h p b m d)) => rc3 k)
  have e4 := Lib.hid (fun w' g (k : Blk w' g 33 (rcC K S Q O H a xs.length c h p b m d)) => rc4 k)
  have e5 := Lib.hid (fun w' g (k : Blk w' g 33 (rcC K S Q O H a xs.length c h p b m d)) => rc5 k hl)
  have e6 := Lib.hid (fun w' g (k : Blk w' g 33 (rcC K S Q O H a xs.length c h p b m d)) => rc6 k hl)
  have e7 := Lib.hid (fun w' g (k : Blk w' g 33 (rcC K S Q O H a xs.length c h p b m d)) => rc7 k hl)
  have hsm := fun w' (s : RecV) a' c' b' d' (k : Below w.heap.size w w') (hs : RecOk s) (hJ : RecAt w' s a' c' b' d') => kcSame_any ⟨⟨K, S, Q, O, H, xs⟩, ⟨h, p, m, zs⟩⟩ s a b a' b' c d c' d' w' hr hs (hI.keep k) hJ hn
  unfold rC at hsm ⊢
  dsimp only at hsm hn ⊢
  obtain ⟨C, hC⟩ : ∃ C, rcC K S Q O H a xs.length c h p b m d = C := ⟨_, rfl⟩
  rw [hC] at hsm hCl e0 e1 e2 e3 e4 e5 e6 e7
  rw [hC]
  have hsm := Lib.hid hsm
  have hrC : IsRow Try.prog 33 C.length := rowRc_of hCl
  have hbt := built_rc1 K
  have hEl := rcC_len (K := K) (S := 0) (Q := 0) (O := 0) (H := z16) (a := none) (n := 0) (c := 0) (h := z32) (p := z32) (b := none) (m := 0) (d := 0) rfl rfl rfl
  have hE1 := rcC_one (K := K) (S := 0) (Q := 0) (O := 0) (H := z16) (a := none) (n := 0) (c := 0) (h := z32) (p := z32) (b := none) (m := 0) (d := 0)
  obtain ⟨E, hE⟩ : ∃ E, rcC K 0 0 0 z16 none 0 0 z32 z32 none 0 0 = E := ⟨_, rfl⟩
  rw [hE] at hbt hEl hE1
  have hEH := Lib.hid hE
  obtain ⟨Z, hZ⟩ : ∃ Z, rC noRec none 0 none 0 = Z := ⟨_, rfl⟩
  have hZ0 : Zero Try.prog 33 Z := by rw [← hZ]; exact zeroRc
  have hZl : Z.length = 86 := by rw [← hZ]; exact rC_len noRec_ok _ _ _ _
  have hb := below1 w (.cells C.toArray 33)
  have hk : Blk (w.alloc (.cells C.toArray 33)) w.heap.size 33 C := Blk.new w _ C
  obtain ⟨V, hV⟩ : ∃ V, w.alloc (.cells C.toArray 33) = V := ⟨_, rfl⟩
  rw [hV] at hb hk
  obtain ⟨G, g9⟩ : ∃ G, w.heap.size = G := ⟨_, rfl⟩
  rw [g9] at hk
  have gH := Lib.hid g9
  have c0 := e0.out V G hk
  clear hE hZ hC
  have hs1 := fun w' (k : Below w.heap.size w w') => hsm.out w' ⟨⟨K, 0, 0, 0, z16, []⟩, ⟨h, z32, 0, []⟩⟩ none 0 none 0 k hRO ⟨⟨rfl, Nat.le_refl _, .inl rfl⟩, ⟨rfl, Nat.le_refl _, .inl rfl⟩⟩
  obtain ⟨T, hT⟩ : ∃ T, sameRec ⟨⟨K, S, Q, O, H, xs⟩, ⟨h, p, m, zs⟩⟩ ⟨⟨K, 0, 0, 0, z16, []⟩, ⟨h, z32, 0, []⟩⟩ = T := ⟨_, rfl⟩
  rw [hT] at hs1 ⊢
  dsimp only [List.length_nil] at hs1
  have x7 := rcC_over7 (K := K) (S := 0) (Q := 0) (O := 0) (H := z16) (a := none) (n := 0) (c := 0) (h := z32) (p := z32) (b := none) (m := 0) (d := 0) rfl rfl h hh
  rw [hEH.out] at x7
  have hFl := rcC_len (K := K) (S := 0) (Q := 0) (O := 0) (H := z16) (a := none) (n := 0) (c := 0) (h := h) (p := z32) (b := none) (m := 0) (d := 0) rfl hh rfl
  have hUl : (h.map (Value.int .u8)).length = 32 := by rw [List.length_map, hh]
  have hU1 := u8_one h
  have hrU : IsRow Try.prog 28 (h.map (Value.int .u8)).length := rowId_of hh
  obtain ⟨Y, hY⟩ : ∃ Y, h.map (Value.int .u8) = Y := ⟨_, rfl⟩
  rw [hY] at e7 x7 hUl hU1 hrU
  obtain ⟨F, hF⟩ : ∃ E, rcC K 0 0 0 z16 none 0 0 h z32 none 0 0 = E := ⟨_, rfl⟩
  rw [hF] at x7 hs1 hFl
  have x7 := Lib.hid x7
  have hs1 := Lib.hid hs1
  clear hsm hF hr hI hRO hT hY
  subst hK
  rw [Bool.true_and]
  go_enter Try.func10, Try.ntmps10
  go_wp2_with ((with_reducible refine box_row rfl 33 (.tmp 0) rfl C ?_ ?_); rfl; refine RowKit.Hid.out ?_)
  refine Lib.hid ?_
  clear hV
  go_wp2_with ((with_reducible refine build_row rfl 33 #[(0, .tmp 6)] rfl (cells := E.toArray) ?_ ?_); (refine Eq.trans (congrArg _ ?_) hbt; kernel_rfl); refine RowKit.Hid.out ?_)
  refine Lib.hid ?_
  refine wpList_alloc_blk rfl 33 rfl hZ0 ?_
  try simp only [Act.put, List.setIfInBounds_toArray, List.set_cons_zero, List.set_cons_succ]
  have hkA := hk.alloc (.cells Z.toArray 33)
  have hnA := Blk.new V 33 Z
  have hBA := hb.alloc hb.size (.cells Z.toArray 33)
  have hnG : G < V.heap.size := hk.lt
  obtain ⟨N, hN⟩ : ∃ N, V.heap.size = N := ⟨_, rfl⟩
  rw [hN] at hnA hnG ⊢
  obtain ⟨U, hU⟩ : ∃ W, V.alloc (.cells Z.toArray 33) = W := ⟨_, rfl⟩
  rw [hU] at hkA hnA hBA ⊢
  have nGN := Lib.hid hnG
  clear hk hb hN hU c0
  refine store_row rfl 33 (.tmp 3) (.tmp 7) rfl rfl rfl hnA rowRc hEl hZl hE1 ?_
  intro w2 hn2 hg2
  have hk2 := hkA.grown hg2 (fun e => by injection e with e; omega)
  have B2 := hBA.grown hg2 hBA.size (fun q hq => by injection hq with hq; have := gH.out; omega)
  have c0 := e0.out w2 G hk2
  clear hkA hnA hBA hg2 hnG g9
  have hwN : w.heap.size ≤ N := by have := nGN.out; have := gH.out; omega
  have c7 := e7.out w2 G hk2
  go_wp2_with (first
    | ((with_reducible refine wpList_load_part rfl 28 (.tmp 60) rfl ?_ Y c7 hrU ?_); rfl)
    | ((with_reducible refine wpList_store_part (off := 21) rfl 28 (.tmp 63) (.tmp 61) rfl ?_ ?_ hn2 hrU ?_ hU1 ?_); rfl; rfl; (rw [hUl, hEl]; decide); refine RowKit.Hid.out ?_))
  refine Lib.hid ?_
  intro w4 hn4 hg4
  try rw [x7.out] at hn4
  have hk4 := hk2.grown hg4 (fun e => by injection e with e; have := nGN.out; omega)
  have B4 := B2.grown hg4 B2.size (fun q hq => by injection hq with hq; omega)
  have sm := Lib.hid (hs1.out w4 B4)
  clear c7 hk2 hn2 B2 hg4 c0 hs1
  go_wp2_with (first
    | ((with_reducible refine load_if rfl 33 (.tmp 1) rfl ?_ hk4 rowRc hCl ?_); rfl)
    | ((with_reducible refine load_if rfl 33 (.tmp 3) rfl ?_ hn4 rowRc hFl ?_); rfl))
  refine sm.out.mono ?_
  rintro q w5 ⟨rfl, b5⟩
  go_wp2
  go_ret
  exact ⟨by first | rfl | simp, B4.trans (b5.mono B4.size)⟩

set_option maxRecDepth 100000 in
set_option maxHeartbeats 4000000 in
theorem kcRight_0 (K S Q O : Int) (H xs h p : List Int) (m : Nat) (zs : List Int) (a b : Option Addr) (c d : Nat) (w : World) (hr : RecOk ⟨⟨K, S, Q, O, H, xs⟩, ⟨h, p, m, zs⟩⟩) (hI : RecAt w ⟨⟨K, S, Q, O, H, xs⟩, ⟨h, p, m, zs⟩⟩ a c b d) (hn : m ≤ 100000) (k1 : ¬ K = 1) (k2 : ¬ K = 2) (k4 : ¬ K = 4) (k5 : ¬ K = 5) (k6 : ¬ K = 6) :
    Calls Try.prog 10 #[.agg (rC ⟨⟨K, S, Q, O, H, xs⟩, ⟨h, p, m, zs⟩⟩ a c b d).toArray] w fun q w' => q = .returned (.bool (rightRec ⟨⟨K, S, Q, O, H, xs⟩, ⟨h, p, m, zs⟩⟩)) ∧ Below w.heap.size w w' := by
  have hmay : rightRec ⟨⟨K, S, Q, O, H, xs⟩, ⟨h, p, m, zs⟩⟩ = false := by
    unfold rightRec
    dsimp only
    rw [if_neg k1, if_neg k2, if_neg k4, if_neg k5, if_neg k6]
  rw [hmay]
  obtain ⟨⟨_, _, _, hl, hhr, hx⟩, ⟨hh, hp, hzl, hho, hpo, hzo⟩⟩ := id hr
  dsimp only at hl hhr hx hh hp hzl hho hpo hzo
  have hln := hI.1.len
  dsimp only at hln
  have hCl := rcC_len (K := K) (S := S) (Q := Q) (O := O) (a := a) (n := xs.length) (c := c) (b := b) (m := m) (d := d) hl hh hp
  have e0 := Lib.hid (fun w' g (k : Blk w' g 33 (rcC K S Q O H a xs.length c h p b m d)) => rc0 k)
  have e1 := Lib.hid (fun w' g (k : Blk w' g 33 (rcC K S Q O H a xs.length c h p b m d)) => rc1 k)
  have e2 := Lib.hid (fun w' g (k : Blk w' g 33 (rcC K S Q O H a xs.length c h p b m d)) => rc2 k)
  have e3 := Lib.hid (fun w' g (k : Blk w' g 33 (rcC K S Q O H a xs.length c h p b m d)) => rc3 k)
  have e4 := Lib.hid (fun w' g (k : Blk w' g 33 (rcC K S Q O H a xs.length c h p b m d)) => rc4 k)
  have e5 := Lib.hid (fun w' g (k : Blk w' g 33 (rcC K S Q O H a xs.length c h p b m d)) => rc5 k hl)
  have e6 := Lib.hid (fun w' g (k : Blk w' g 33 (rcC K S Q O H a xs.length c h p b m d)) => rc6 k hl)
  have e7 := Lib.hid (fun w' g (k : Blk w' g 33 (rcC K S Q O H a xs.length c h p b m d)) => rc7 k hl)
  have hsm := fun w' (s : RecV) a' c' b' d' (k : Below w.heap.size w w') (hs : RecOk s) (hJ : RecAt w' s a' c' b' d') => kcSame_any ⟨⟨K, S, Q, O, H, xs⟩, ⟨h, p, m, zs⟩⟩ s a b a' b' c d c' d' w' hr hs (hI.keep k) hJ hn
  unfold rC at hsm ⊢
  dsimp only at hsm hn ⊢
  obtain ⟨C, hC⟩ : ∃ C, rcC K S Q O H a xs.length c h p b m d = C := ⟨_, rfl⟩
  rw [hC] at hsm hCl e0 e1 e2 e3 e4 e5 e6 e7
  rw [hC]
  have hsm := Lib.hid hsm
  have hrC : IsRow Try.prog 33 C.length := rowRc_of hCl
  have hbt := built_rc1 K
  have hEl := rcC_len (K := K) (S := 0) (Q := 0) (O := 0) (H := z16) (a := none) (n := 0) (c := 0) (h := z32) (p := z32) (b := none) (m := 0) (d := 0) rfl rfl rfl
  have hE1 := rcC_one (K := K) (S := 0) (Q := 0) (O := 0) (H := z16) (a := none) (n := 0) (c := 0) (h := z32) (p := z32) (b := none) (m := 0) (d := 0)
  obtain ⟨E, hE⟩ : ∃ E, rcC K 0 0 0 z16 none 0 0 z32 z32 none 0 0 = E := ⟨_, rfl⟩
  rw [hE] at hbt hEl hE1
  have hEH := Lib.hid hE
  obtain ⟨Z, hZ⟩ : ∃ Z, rC noRec none 0 none 0 = Z := ⟨_, rfl⟩
  have hZ0 : Zero Try.prog 33 Z := by rw [← hZ]; exact zeroRc
  have hZl : Z.length = 86 := by rw [← hZ]; exact rC_len noRec_ok _ _ _ _
  have hb := below1 w (.cells C.toArray 33)
  have hk : Blk (w.alloc (.cells C.toArray 33)) w.heap.size 33 C := Blk.new w _ C
  obtain ⟨V, hV⟩ : ∃ V, w.alloc (.cells C.toArray 33) = V := ⟨_, rfl⟩
  rw [hV] at hb hk
  obtain ⟨G, g9⟩ : ∃ G, w.heap.size = G := ⟨_, rfl⟩
  rw [g9] at hk
  have gH := Lib.hid g9
  have c0 := e0.out V G hk
  clear hE hZ hC
  have n1 : (K == 1) = false := beq_false_of_ne k1
  have n2 : (K == 2) = false := beq_false_of_ne k2
  have n4 : (K == 4) = false := beq_false_of_ne k4
  have n5 : (K == 5) = false := beq_false_of_ne k5
  have n6 : (K == 6) = false := beq_false_of_ne k6
  clear hsm hr hI k1 k2 k4 k5 k6
  go_enter Try.func10, Try.ntmps10
  go_wp2_with ((with_reducible refine box_row rfl 33 (.tmp 0) rfl C ?_ ?_); rfl; refine RowKit.Hid.out ?_)
  refine Lib.hid ?_
  clear hV
  go_wp2_with ((with_reducible refine build_row rfl 33 #[(0, .tmp 6)] rfl (cells := E.toArray) ?_ ?_); (refine Eq.trans (congrArg _ ?_) hbt; kernel_rfl); refine RowKit.Hid.out ?_)
  refine Lib.hid ?_
  refine wpList_alloc_blk rfl 33 rfl hZ0 ?_
  try simp only [Act.put, List.setIfInBounds_toArray, List.set_cons_zero, List.set_cons_succ]
  have hkA := hk.alloc (.cells Z.toArray 33)
  have hnA := Blk.new V 33 Z
  have hBA := hb.alloc hb.size (.cells Z.toArray 33)
  have hnG : G < V.heap.size := hk.lt
  obtain ⟨N, hN⟩ : ∃ N, V.heap.size = N := ⟨_, rfl⟩
  rw [hN] at hnA hnG ⊢
  obtain ⟨U, hU⟩ : ∃ W, V.alloc (.cells Z.toArray 33) = W := ⟨_, rfl⟩
  rw [hU] at hkA hnA hBA ⊢
  have nGN := Lib.hid hnG
  clear hk hb hN hU c0
  refine store_row rfl 33 (.tmp 3) (.tmp 7) rfl rfl rfl hnA rowRc hEl hZl hE1 ?_
  intro w2 hn2 hg2
  have hk2 := hkA.grown hg2 (fun e => by injection e with e; omega)
  have B2 := hBA.grown hg2 hBA.size (fun q hq => by injection hq with hq; have := gH.out; omega)
  have c0 := e0.out w2 G hk2
  clear hkA hnA hBA hg2 hnG g9
  go_wp2
  go_ret
  exact ⟨by first | rfl | simp, B2⟩
end Go.Proofs.Ytaaflnmdaplfkaa

/-
  What record's Right comes to, of any record. New memory alone is written. Conditions: the fields' ranges; at most a hundred thousand ids.
-/
namespace Go.Proofs.Ytaaflnmdaplfkaa
open Go.RowKit

theorem kcRight_any (r : RecV) (a b : Option Addr) (c d : Nat) (w : World) (hr : RecOk r) (hI : RecAt w r a c b d) (hn : r.b.n ≤ 100000) :
    Calls Try.prog 10 #[.agg (rC r a c b d).toArray] w fun q w' => q = .returned (.bool (rightRec r)) ∧ Below w.heap.size w w' := by
  obtain ⟨⟨K, S, Q, O, H, xs⟩, ⟨h, p, m, zs⟩⟩ := r
  by_cases k1 : K = 1
  · subst k1; exact kcRight_1 S Q O H xs h p m zs a b c d w hr hI hn
  by_cases k2 : K = 2
  · subst k2; exact kcRight_2 S Q O H xs h p m zs a b c d w hr hI hn
  by_cases k4 : K = 4
  · subst k4; exact kcRight_4 S Q O H xs h p m zs a b c d w hr hI hn
  by_cases k5 : K = 5
  · subst k5; exact kcRight_5 S Q O H xs h p m zs a b c d w hr hI hn
  by_cases k6 : K = 6
  · subst k6; exact kcRight_6 S Q O H xs h p m zs a b c d w hr hI hn
  exact kcRight_0 K S Q O H xs h p m zs a b c d w hr hI hn k1 k2 k4 k5 k6
end Go.Proofs.Ytaaflnmdaplfkaa

/-
  The document's own Decode of a block (with its id), where the bytes are none's. New memory alone is written. Conditions: bytes below 256, at most a million.
-/
namespace Go.Proofs.Ytaaflnmdaplfkaa
open Go.RowKit

set_option maxRecDepth 100000 in
set_option maxHeartbeats 1000000 in
theorem r16id_any (a : Option Addr) (n c : Nat) (xs : List Int) (p : Nat) (w : World) (hI : Ints .u8 w a n c xs) (hp : p + 32 ≤ n) (hn : n ≤ 1000000) :
    Calls Try.prog 58 #[.slice a n c, .int .i64 (p : Int)] w fun e w' => e = .returned (.agg (((xs.drop p).take 32).map (Value.int .u8)).toArray) ∧ Below w.heap.size w w' := by
  have hln := hI.len
  have hYC : ∀ k, k < 32 → (((xs.drop p).take 32).map (Value.int .u8))[k]? = some (.int .u8 (xs.getD (p + k) 0)) := fun k hk => by
    rw [List.getElem?_map, List.getElem?_take_of_lt hk, List.getElem?_drop, List.getD_eq_getElem?_getD, List.getElem?_eq_getElem (by omega)]; rfl
  have hlH : (((xs.drop p).take 32).map (Value.int .u8)).length = 32 := by rw [List.length_map, List.length_take, List.length_drop]; omega
  have HO1 := Lib.hid (u8_one ((xs.drop p).take 32))
  obtain ⟨Y, hY⟩ : ∃ Y, ((xs.drop p).take 32).map (Value.int .u8) = Y := ⟨_, rfl⟩
  rw [hY] at hYC hlH HO1
  rw [hY]
  obtain ⟨Z, hZ⟩ : ∃ Z, List.replicate 32 (Value.int .u8 0) = Z := ⟨_, rfl⟩
  have hZl : Z.length = 32 := by rw [← hZ]; rfl
  have hZ0 : Zero Try.prog 28 Z := by rw [← hZ]; exact zeroId9
  obtain ⟨b, off, rfl, hat⟩ := hI.at (by omega)
  have hatH := Lib.hid hat
  obtain ⟨g, hg⟩ : ∃ g, w.heap.size = g := ⟨_, rfl⟩
  obtain ⟨W0, hW0⟩ : ∃ W0, (w.alloc (.cells Z.toArray 28)).alloc (.cells Z.toArray 28) = W0 := ⟨_, rfl⟩
  have hr0 : Blk W0 g 28 Z := by rw [← hW0, ← hg]; exact (Blk.new w _ _).alloc _
  have hh0 : Blk W0 (g + 1) 28 (mixed Y Z 0) := by
    rw [mixed_zero, ← hW0, ← hg]
    exact Blk.new1 w _ _ _
  have hB0 : Below g w W0 := by rw [← hW0, ← hg]; exact below2 w _ _
  have hYH := Lib.hid hYC
  have hlYH := Lib.hid hlH
  have hnH := Lib.hid (And.intro hp hn)
  clear hY hYC hZ hlH hat hI hn hp hln
  go_enter Try.func58, Try.ntmps58
  go_wp2_with (with_reducible refine wpList_alloc_blk rfl 28 rfl hZ0 ?_)
  have hgH := Lib.hid hg
  clear hW0 hg
  go_loopw [6] (fun i wr => ∃ k : Nat, k ≤ 32 ∧ i = .int .i64 k ∧ Blk wr (g + 1) 28 (mixed Y Z k) ∧ Blk wr g 28 Z ∧ Below g w wr) (fun i _ => 32 - (intOf i).toNat)
  case atStart => exact ⟨0, by omega, rfl, hh0, hr0, hB0⟩
  case round =>
    clear hh0 hr0 hB0
    obtain ⟨k, hk, rfl, hh, hr, hB⟩ := hrel
    by_cases hlt : k < 32
    · have ce0 := hatH.out (p + k) (by have := hnH.out; omega)
      have ce := (hB.cell (by rw [← hgH.out]; exact World.block_lt_of_cell? w _ ce0)).trans ce0
      have ch := hh.cell k
      rw [mixed_at Y Z k 32 hlYH.out hZl hlt] at ch
      obtain ⟨zv, hzv⟩ : ∃ zv, Z[k]? = some zv := ⟨Z[k]'(by omega), List.getElem?_eq_getElem (by omega)⟩
      rw [hzv] at ch
      have fh : wr.frozen? ⟨g + 1, k, none⟩ = false := Blk.frozen hh k
      have hset := hh.set k (.int .u8 (xs.getD (p + k) 0))
      rw [mixed_set Y Z k 32 hlYH.out hZl hlt _ (hYH.out k hlt)] at hset
      obtain ⟨xv, hxv⟩ : ∃ xv, xs.getD (p + k) 0 = xv := ⟨_, rfl⟩
      rw [hxv] at ce hset
      have hsetH := Lib.hid hset
      have hr2 := Lib.hid (hr.far (p := ⟨g + 1, k, none⟩) (by simp) (.int .u8 xv))
      have hB2 := Lib.hid (hB.setCell (p := ⟨g + 1, k, none⟩) (by simp) (.int .u8 xv))
      have hki : (k : Int) < 32 := by omega
      have hpk : (p : Int) + 32 ≤ (n : Int) := by have := hnH.out; omega
      have hnm : (n : Int) ≤ 1000000 := by have := hnH.out; omega
      have hltH := Lib.hid hlt
      clear hlt hk hset hh hr hB hzv hxv ce0
      go_wp2
      go_roundw
      case rel => exact ⟨k + 1, by have := hltH.out; omega, by go_num, hsetH.out, hr2.out, hB2.out⟩
      case measure => have := hltH.out; simp [intOf]; omega
    · obtain rfl : k = 32 := by omega
      have hh : Blk wr (g + 1) 28 Y := hh.cast (mixed_all Y Z 32 hlYH.out hZl)
      have HOF := Lib.hid (show 0 + Y.length ≤ Z.length by rw [hlYH.out, hZl]; decide)
      have hIr : IsRow Try.prog 28 Y.length := by rw [hlYH.out]; exact rowId9
      have hrowY : IsRow Try.prog 28 32 := rowId9
      go_wp2_with (first
        | ((refine wpList_load_blk rfl 28 (.tmp 5) rfl ?_ hh hrowY hlYH.out ?_); rfl)
        | ((with_reducible refine wpList_store_part rfl 28 (.tmp 4) (.tmp 19) rfl ?_ ?_ hr hIr HOF.out HO1.out ?_); rfl; rfl; intro w9 hR9 hg9))
      rw [overV_all _ _ (by rw [hlYH.out, hZl])] at hR9
      (try simp only [Exit.inBlock, Exit.then])
      refine bodyPost_ret (results_blk rfl rfl hR9 hIr) rfl ?_
      refine ⟨rfl, ?_⟩
      rw [hgH.out]
      exact hB.trans (below_of_grown hg9 (Nat.le_refl g) hr.lt)

set_option maxRecDepth 100000 in
set_option maxHeartbeats 4000000 in
theorem r16Decode_few (a : Option Addr) (n c : Nat) (xs : List Int) (w : World) (hI : Ints .u8 w a n c xs) (h65 : n < 65) :
    Calls Try.prog 33 #[.slice a n c] w (DecEndB xs w) := by
  have hln := hI.len
  obtain ⟨Z, hZ⟩ : ∃ Z, bkC z32 z32 none 0 0 = Z := ⟨_, rfl⟩
  have hZ0 : Zero Try.prog 31 Z := by rw [← hZ]; exact zeroBk
  have hZl : Z.length = 65 := by rw [← hZ]; exact bkC_len rfl rfl
  have hZ1 : ∀ v ∈ Z, v.oneCell' = true := by rw [← hZ]; exact bkC_one _ _ _ _ _
  have hbt0 : Try.prog.built 31 [] = some Z.toArray := by rw [← hZ]; exact built_bk0
  have hZH := Lib.hid hZ
  clear hZ
  have hb := below1 w (.cells Z.toArray 31)
  have hk : Blk (w.alloc (.cells Z.toArray 31)) w.heap.size 31 Z := Blk.new w _ _
  obtain ⟨V, hV⟩ : ∃ V, w.alloc (.cells Z.toArray 31) = V := ⟨_, rfl⟩
  rw [hV] at hb hk
  obtain ⟨G, g9⟩ : ∃ G, w.heap.size = G := ⟨_, rfl⟩
  rw [g9] at hk
  have hIH := Lib.hid hI
  clear hI
  have hdkH := Lib.hid (show decK xs = (noBlk, 2) by unfold decK; rw [if_pos (by omega)])
  have h65i : (n : Int) < 65 := by omega
  clear h65 hln
  go_enter Try.func33, Try.ntmps33
  go_wp2_with (first
    | ((with_reducible refine wpList_alloc_blk rfl 31 rfl hZ0 ?_))
    | ((with_reducible refine build_row rfl 31 #[] rfl (cells := Z.toArray) ?_ ?_); (refine Eq.trans (congrArg _ ?_) hbt0; kernel_rfl); refine RowKit.Hid.out ?_))
  refine Lib.hid ?_
  refine wpList_alloc_blk rfl 31 rfl hZ0 ?_
  try simp only [Act.put, List.setIfInBounds_toArray, List.set_cons_zero, List.set_cons_succ]
  try simp only [hV]
  have hGA := hk.alloc (.cells Z.toArray 31)
  have hNA := Blk.new V 31 Z
  have hBA := hb.alloc hb.size (.cells Z.toArray 31)
  have hnG : G < V.heap.size := hk.lt
  obtain ⟨N, hN⟩ : ∃ N, V.heap.size = N := ⟨_, rfl⟩
  rw [hN] at hNA hnG
  try rw [hN]
  have nGN := Lib.hid hnG
  obtain ⟨U, hU⟩ : ∃ W, V.alloc (.cells Z.toArray 31) = W := ⟨_, rfl⟩
  rw [hU] at hGA hNA hBA
  try rw [hU]
  have gH := Lib.hid g9
  clear hk hb hN hU hnG hV g9
  refine store_row rfl 31 (.tmp 4) (.tmp 8) rfl rfl rfl hNA rowBk hZl hZl hZ1 ?_
  intro w1 hN1 hg1
  have hG1 := hGA.grown hg1 (fun e => by injection e with e; have := nGN.out; omega)
  have hB1 := hBA.grown hg1 hBA.size (fun q hq => by injection hq with hq; have := nGN.out; have := gH.out; omega)
  clear hGA hNA hBA hg1
  go_wp2_with ((with_reducible refine wpList_load_blk rfl 31 (.tmp 4) rfl ?_ hN1 rowBk hZl ?_); rfl; refine RowKit.Hid.out ?_)
  refine Lib.hid ?_
  try simp only [Act.put, List.setIfInBounds_toArray, List.set_cons_zero, List.set_cons_succ]
  refine store_row rfl 31 (.tmp 2) _ rfl rfl rfl hG1 rowBk hZl hZl hZ1 ?_
  intro wY hGY hgY
  have hrZ : IsRow Try.prog 31 Z.length := by rw [hZl]; exact rowBk
  have hBY := hB1.grown hgY hB1.size (fun q hq => by injection hq with hq; have := gH.out; omega)
  go_wp2_with fail
  refine bodyPost_ret (results_blk_tmp rfl rfl hGY hrZ) rfl ?_
  unfold DecEndB
  rw [hdkH.out]
  exact ⟨none, 0, by rw [← hZH.out]; rfl, ids_nil _, (fun x hx => by cases hx), hBY⟩

set_option maxRecDepth 100000 in
set_option maxHeartbeats 4000000 in
theorem r16Decode_many (b off : Nat) (n c : Nat) (xs : List Int) (M : Nat) (w : World) (hI : Ints .u8 w (some ⟨b, off, none⟩) n c xs) (h65 : ¬ n < 65) (hNe : xs.getD 64 0 = (M : Int)) (hM : M < 256) (h32 : 32 < M) :
    Calls Try.prog 33 #[.slice (some ⟨b, off, none⟩) n c] w (DecEndB xs w) := by
  have hln := hI.len
  obtain ⟨Z, hZ⟩ : ∃ Z, bkC z32 z32 none 0 0 = Z := ⟨_, rfl⟩
  have hZ0 : Zero Try.prog 31 Z := by rw [← hZ]; exact zeroBk
  have hZl : Z.length = 65 := by rw [← hZ]; exact bkC_len rfl rfl
  have hZ1 : ∀ v ∈ Z, v.oneCell' = true := by rw [← hZ]; exact bkC_one _ _ _ _ _
  have hbt0 : Try.prog.built 31 [] = some Z.toArray := by rw [← hZ]; exact built_bk0
  have hZH := Lib.hid hZ
  clear hZ
  have hb := below1 w (.cells Z.toArray 31)
  have hk : Blk (w.alloc (.cells Z.toArray 31)) w.heap.size 31 Z := Blk.new w _ _
  obtain ⟨V, hV⟩ : ∃ V, w.alloc (.cells Z.toArray 31) = V := ⟨_, rfl⟩
  rw [hV] at hb hk
  obtain ⟨G, g9⟩ : ∃ G, w.heap.size = G := ⟨_, rfl⟩
  rw [g9] at hk
  have hIH := Lib.hid hI
  clear hI
  have hdkH := Lib.hid (show decK xs = (noBlk, 4) by unfold decK; rw [if_neg (by omega), hNe, if_pos (by omega)])
  have h65i : ¬ (n : Int) < 65 := by omega
  have h32i : (32 : Int) < (M : Int) := by omega
  have hMi : (M : Int) < 256 := by omega
  go_enter Try.func33, Try.ntmps33
  go_wp2_with (first
    | ((with_reducible refine wpList_alloc_blk rfl 31 rfl hZ0 ?_))
    | ((with_reducible refine build_row rfl 31 #[] rfl (cells := Z.toArray) ?_ ?_); (refine Eq.trans (congrArg _ ?_) hbt0; kernel_rfl); refine RowKit.Hid.out ?_))
  refine Lib.hid ?_
  refine wpList_alloc_blk rfl 31 rfl hZ0 ?_
  try simp only [Act.put, List.setIfInBounds_toArray, List.set_cons_zero, List.set_cons_succ]
  try simp only [hV]
  have hGA := hk.alloc (.cells Z.toArray 31)
  have hNA := Blk.new V 31 Z
  have hBA := hb.alloc hb.size (.cells Z.toArray 31)
  have hnG : G < V.heap.size := hk.lt
  obtain ⟨N, hN⟩ : ∃ N, V.heap.size = N := ⟨_, rfl⟩
  rw [hN] at hNA hnG
  try rw [hN]
  have nGN := Lib.hid hnG
  obtain ⟨U, hU⟩ : ∃ W, V.alloc (.cells Z.toArray 31) = W := ⟨_, rfl⟩
  rw [hU] at hGA hNA hBA
  try rw [hU]
  have gH := Lib.hid g9
  clear hk hb hN hU hnG hV g9
  refine store_row rfl 31 (.tmp 4) (.tmp 8) rfl rfl rfl hNA rowBk hZl hZl hZ1 ?_
  intro w1 hN1 hg1
  have hG1 := hGA.grown hg1 (fun e => by injection e with e; have := nGN.out; omega)
  have hB1 := hBA.grown hg1 hBA.size (fun q hq => by injection hq with hq; have := nGN.out; have := gH.out; omega)
  clear hGA hNA hBA hg1
  have hI1 := hIH.out.keep hB1
  obtain ⟨_, _, h0 | ⟨b', off', hab, hat⟩⟩ := hI1
  · omega
  injection hab with hab
  injection hab with hb1 hb2
  subst hb1; subst hb2
  have c64 := hat 64 (by omega)
  rw [hNe] at c64
  clear hat
  clear h65 hln hM h32 hNe
  go_wp2_with ((with_reducible refine wpList_load_blk rfl 31 (.tmp 4) rfl ?_ hN1 rowBk hZl ?_); rfl; refine RowKit.Hid.out ?_)
  refine Lib.hid ?_
  try simp only [Act.put, List.setIfInBounds_toArray, List.set_cons_zero, List.set_cons_succ]
  refine store_row rfl 31 (.tmp 2) _ rfl rfl rfl hG1 rowBk hZl hZl hZ1 ?_
  intro wY hGY hgY
  have hrZ : IsRow Try.prog 31 Z.length := by rw [hZl]; exact rowBk
  have hBY := hB1.grown hgY hB1.size (fun q hq => by injection hq with hq; have := gH.out; omega)
  go_wp2_with fail
  refine bodyPost_ret (results_blk_tmp rfl rfl hGY hrZ) rfl ?_
  unfold DecEndB
  rw [hdkH.out]
  exact ⟨none, 0, by rw [← hZH.out]; rfl, ids_nil _, (fun x hx => by cases hx), hBY⟩

set_option maxRecDepth 100000 in
set_option maxHeartbeats 4000000 in
theorem r16Decode_short (b off : Nat) (n c : Nat) (xs : List Int) (M : Nat) (w : World) (hI : Ints .u8 w (some ⟨b, off, none⟩) n c xs) (h65 : ¬ n < 65) (hNe : xs.getD 64 0 = (M : Int)) (h32 : M ≤ 32) (hs : n < 65 + 32 * M) :
    Calls Try.prog 33 #[.slice (some ⟨b, off, none⟩) n c] w (DecEndB xs w) := by
  have hln := hI.len
  obtain ⟨Z, hZ⟩ : ∃ Z, bkC z32 z32 none 0 0 = Z := ⟨_, rfl⟩
  have hZ0 : Zero Try.prog 31 Z := by rw [← hZ]; exact zeroBk
  have hZl : Z.length = 65 := by rw [← hZ]; exact bkC_len rfl rfl
  have hZ1 : ∀ v ∈ Z, v.oneCell' = true := by rw [← hZ]; exact bkC_one _ _ _ _ _
  have hbt0 : Try.prog.built 31 [] = some Z.toArray := by rw [← hZ]; exact built_bk0
  have hZH := Lib.hid hZ
  clear hZ
  have hb := below1 w (.cells Z.toArray 31)
  have hk : Blk (w.alloc (.cells Z.toArray 31)) w.heap.size 31 Z := Blk.new w _ _
  obtain ⟨V, hV⟩ : ∃ V, w.alloc (.cells Z.toArray 31) = V := ⟨_, rfl⟩
  rw [hV] at hb hk
  obtain ⟨G, g9⟩ : ∃ G, w.heap.size = G := ⟨_, rfl⟩
  rw [g9] at hk
  have hIH := Lib.hid hI
  clear hI
  have hdkH := Lib.hid (show decK xs = (noBlk, 2) by unfold decK; rw [if_neg (by omega), hNe, if_neg (by omega), Int.toNat_natCast, if_pos (by omega)])
  have h65i : ¬ (n : Int) < 65 := by omega
  have h32i : ¬ (32 : Int) < (M : Int) := by omega
  have hMi : (M : Int) ≤ 32 := by omega
  have hsi : (n : Int) < 65 + 32 * (M : Int) := by omega
  go_enter Try.func33, Try.ntmps33
  go_wp2_with (first
    | ((with_reducible refine wpList_alloc_blk rfl 31 rfl hZ0 ?_))
    | ((with_reducible refine build_row rfl 31 #[] rfl (cells := Z.toArray) ?_ ?_); (refine Eq.trans (congrArg _ ?_) hbt0; kernel_rfl); refine RowKit.Hid.out ?_))
  refine Lib.hid ?_
  refine wpList_alloc_blk rfl 31 rfl hZ0 ?_
  try simp only [Act.put, List.setIfInBounds_toArray, List.set_cons_zero, List.set_cons_succ]
  try simp only [hV]
  have hGA := hk.alloc (.cells Z.toArray 31)
  have hNA := Blk.new V 31 Z
  have hBA := hb.alloc hb.size (.cells Z.toArray 31)
  have hnG : G < V.heap.size := hk.lt
  obtain ⟨N, hN⟩ : ∃ N, V.heap.size = N := ⟨_, rfl⟩
  rw [hN] at hNA hnG
  try rw [hN]
  have nGN := Lib.hid hnG
  obtain ⟨U, hU⟩ : ∃ W, V.alloc (.cells Z.toArray 31) = W := ⟨_, rfl⟩
  rw [hU] at hGA hNA hBA
  try rw [hU]
  have gH := Lib.hid g9
  clear hk hb hN hU hnG hV g9
  refine store_row rfl 31 (.tmp 4) (.tmp 8) rfl rfl rfl hNA rowBk hZl hZl hZ1 ?_
  intro w1 hN1 hg1
  have hG1 := hGA.grown hg1 (fun e => by injection e with e; have := nGN.out; omega)
  have hB1 := hBA.grown hg1 hBA.size (fun q hq => by injection hq with hq; have := nGN.out; have := gH.out; omega)
  clear hGA hNA hBA hg1
  have hI1 := hIH.out.keep hB1
  obtain ⟨_, _, h0 | ⟨b', off', hab, hat⟩⟩ := hI1
  · omega
  injection hab with hab
  injection hab with hb1 hb2
  subst hb1; subst hb2
  have c64 := hat 64 (by omega)
  rw [hNe] at c64
  clear hat
  clear h65 hln h32 hNe hs
  go_wp2_with ((with_reducible refine wpList_load_blk rfl 31 (.tmp 4) rfl ?_ hN1 rowBk hZl ?_); rfl; refine RowKit.Hid.out ?_)
  refine Lib.hid ?_
  try simp only [Act.put, List.setIfInBounds_toArray, List.set_cons_zero, List.set_cons_succ]
  refine store_row rfl 31 (.tmp 2) _ rfl rfl rfl hG1 rowBk hZl hZl hZ1 ?_
  intro wY hGY hgY
  have hrZ : IsRow Try.prog 31 Z.length := by rw [hZl]; exact rowBk
  have hBY := hB1.grown hgY hB1.size (fun q hq => by injection hq with hq; have := gH.out; omega)
  go_wp2_with fail
  refine bodyPost_ret (results_blk_tmp rfl rfl hGY hrZ) rfl ?_
  unfold DecEndB
  rw [hdkH.out]
  exact ⟨none, 0, by rw [← hZH.out]; rfl, ids_nil _, (fun x hx => by cases hx), hBY⟩

set_option maxRecDepth 100000 in
set_option maxHeartbeats 4000000 in
theorem r16Decode_long (b off : Nat) (n c : Nat) (xs : List Int) (M : Nat) (w : World) (hI : Ints .u8 w (some ⟨b, off, none⟩) n c xs) (h65 : ¬ n < 65) (hNe : xs.getD 64 0 = (M : Int)) (h32 : M ≤ 32) (hs : 65 + 32 * M < n) :
    Calls Try.prog 33 #[.slice (some ⟨b, off, none⟩) n c] w (DecEndB xs w) := by
  have hln := hI.len
  obtain ⟨Z, hZ⟩ : ∃ Z, bkC z32 z32 none 0 0 = Z := ⟨_, rfl⟩
  have hZ0 : Zero Try.prog 31 Z := by rw [← hZ]; exact zeroBk
  have hZl : Z.length = 65 := by rw [← hZ]; exact bkC_len rfl rfl
  have hZ1 : ∀ v ∈ Z, v.oneCell' = true := by rw [← hZ]; exact bkC_one _ _ _ _ _
  have hbt0 : Try.prog.built 31 [] = some Z.toArray := by rw [← hZ]; exact built_bk0
  have hZH := Lib.hid hZ
  clear hZ
  have hb := below1 w (.cells Z.toArray 31)
  have hk : Blk (w.alloc (.cells Z.toArray 31)) w.heap.size 31 Z := Blk.new w _ _
  obtain ⟨V, hV⟩ : ∃ V, w.alloc (.cells Z.toArray 31) = V := ⟨_, rfl⟩
  rw [hV] at hb hk
  obtain ⟨G, g9⟩ : ∃ G, w.heap.size = G := ⟨_, rfl⟩
  rw [g9] at hk
  have hIH := Lib.hid hI
  clear hI
  have hdkH := Lib.hid (show decK xs = (noBlk, 3) by unfold decK; rw [if_neg (by omega), hNe, if_neg (by omega), Int.toNat_natCast, if_neg (by omega), if_pos (by omega)])
  have h65i : ¬ (n : Int) < 65 := by omega
  have h32i : ¬ (32 : Int) < (M : Int) := by omega
  have hMi : (M : Int) ≤ 32 := by omega
  have hsi : ¬ (n : Int) < 65 + 32 * (M : Int) := by omega
  have hli : 65 + 32 * (M : Int) < (n : Int) := by omega
  go_enter Try.func33, Try.ntmps33
  go_wp2_with (first
    | ((with_reducible refine wpList_alloc_blk rfl 31 rfl hZ0 ?_))
    | ((with_reducible refine build_row rfl 31 #[] rfl (cells := Z.toArray) ?_ ?_); (refine Eq.trans (congrArg _ ?_) hbt0; kernel_rfl); refine RowKit.Hid.out ?_))
  refine Lib.hid ?_
  refine wpList_alloc_blk rfl 31 rfl hZ0 ?_
  try simp only [Act.put, List.setIfInBounds_toArray, List.set_cons_zero, List.set_cons_succ]
  try simp only [hV]
  have hGA := hk.alloc (.cells Z.toArray 31)
  have hNA := Blk.new V 31 Z
  have hBA := hb.alloc hb.size (.cells Z.toArray 31)
  have hnG : G < V.heap.size := hk.lt
  obtain ⟨N, hN⟩ : ∃ N, V.heap.size = N := ⟨_, rfl⟩
  rw [hN] at hNA hnG
  try rw [hN]
  have nGN := Lib.hid hnG
  obtain ⟨U, hU⟩ : ∃ W, V.alloc (.cells Z.toArray 31) = W := ⟨_, rfl⟩
  rw [hU] at hGA hNA hBA
  try rw [hU]
  have gH := Lib.hid g9
  clear hk hb hN hU hnG hV g9
  refine store_row rfl 31 (.tmp 4) (.tmp 8) rfl rfl rfl hNA rowBk hZl hZl hZ1 ?_
  intro w1 hN1 hg1
  have hG1 := hGA.grown hg1 (fun e => by injection e with e; have := nGN.out; omega)
  have hB1 := hBA.grown hg1 hBA.size (fun q hq => by injection hq with hq; have := nGN.out; have := gH.out; omega)
  clear hGA hNA hBA hg1
  have hI1 := hIH.out.keep hB1
  obtain ⟨_, _, h0 | ⟨b', off', hab, hat⟩⟩ := hI1
  · omega
  injection hab with hab
  injection hab with hb1 hb2
  subst hb1; subst hb2
  have c64 := hat 64 (by omega)
  rw [hNe] at c64
  clear hat
  clear h65 hln h32 hNe hs
  go_wp2_with ((with_reducible refine wpList_load_blk rfl 31 (.tmp 4) rfl ?_ hN1 rowBk hZl ?_); rfl; refine RowKit.Hid.out ?_)
  refine Lib.hid ?_
  try simp only [Act.put, List.setIfInBounds_toArray, List.set_cons_zero, List.set_cons_succ]
  refine store_row rfl 31 (.tmp 2) _ rfl rfl rfl hG1 rowBk hZl hZl hZ1 ?_
  intro wY hGY hgY
  have hrZ : IsRow Try.prog 31 Z.length := by rw [hZl]; exact rowBk
  have hBY := hB1.grown hgY hB1.size (fun q hq => by injection hq with hq; have := gH.out; omega)
  go_wp2_with fail
  refine bodyPost_ret (results_blk_tmp rfl rfl hGY hrZ) rfl ?_
  unfold DecEndB
  rw [hdkH.out]
  exact ⟨none, 0, by rw [← hZH.out]; rfl, ids_nil _, (fun x hx => by cases hx), hBY⟩
end Go.Proofs.Ytaaflnmdaplfkaa

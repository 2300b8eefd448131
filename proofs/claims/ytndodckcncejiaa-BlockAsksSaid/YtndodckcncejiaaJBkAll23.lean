/-
  Texts of stages that were proved on their own, joined: BkEncode, BkAlive, BkLawR, BkLawB, BkLawA, BkLawA3. Each begins with its own words.
-/
import Derived.Test.YtndodckcncejiaaJBkAll20
import Derived.Test.YtndodckcncejiaaJBkAll22
import Derived.Test.YtndodckcncejiaaJBkAll18
import Derived.Test.YtndodckcncejiaaJBkAll10
import Derived.Test.YtndodckcncejiaaJBkAll0

/-
  What block's Encode comes to. New memory alone is written. Conditions: the fields' ranges, at most a hundred thousand ids.
-/
namespace Go.Proofs.Ytndodckcncejiaa
open Go.RowKit

set_option maxRecDepth 100000 in
set_option maxHeartbeats 2000000 in
theorem bkEncode_any (H P : List Int) (a : Option Addr) (n c : Nat) (zs : List Int) (w : World) (hK : BlkOk ⟨H, P, n, zs⟩) (hT : IdsAt w a n c zs) (hn : n ≤ 100000) :
    Calls Try.prog 8 #[.agg (bkC H P a n c).toArray] w fun q w' => ∃ b d, q = .returned (.tuple #[.slice b (encK ⟨H, P, n, zs⟩).1.length d, .int .i64 (encK ⟨H, P, n, zs⟩).2]) ∧ Ints .u8 w' b (encK ⟨H, P, n, zs⟩).1.length d (encK ⟨H, P, n, zs⟩).1 ∧ (∀ x, b = some x → 0 < (encK ⟨H, P, n, zs⟩).1.length → w.heap.size ≤ x.block) ∧ Below w.heap.size w w' := by
  obtain ⟨hH, hP, hZ, hHo, hPo, hZo⟩ := id hK
  dsimp only at hH hP hZ hHo hPo hZo
  have hR := Lib.hid (fun w' (h : Below w.heap.size w w') => bkRight_any H P a n c zs w' hH hP (hT.keep h) hZo hn)
  have hCl := bkC_len (a := a) (n := n) (c := c) hH hP
  have e0 := Lib.hid (fun w' g (h : Blk w' g 26 (bkC H P a n c)) => bk0 h)
  have e1 := Lib.hid (fun w' g (h : Blk w' g 26 (bkC H P a n c)) => bk1 h hH)
  have e2 := Lib.hid (fun w' g (h : Blk w' g 26 (bkC H P a n c)) => bk2 h hH hP)
  have hrH := rowId_of hH
  have hrP := rowId_of hP
  obtain ⟨C, hC⟩ : ∃ C, bkC H P a n c = C := ⟨_, rfl⟩
  rw [hC] at hR hCl e0 e1 e2
  rw [hC]
  have hb := below1 w (.cells C.toArray 26)
  have hk : Blk (w.alloc (.cells C.toArray 26)) w.heap.size 26 C := Blk.new w _ C
  obtain ⟨W, hW⟩ : ∃ V, w.alloc (.cells C.toArray 26) = V := ⟨_, rfl⟩
  rw [hW] at hb hk
  obtain ⟨G, g9⟩ : ∃ G, w.heap.size = G := ⟨_, rfl⟩
  rw [g9] at hk
  have gH := Lib.hid g9
  have hTH := Lib.hid hT
  unfold encK
  cases hr : rightK ⟨H, P, n, zs⟩ with
  | false =>
    rw [hr] at hR
    rw [if_neg (by decide)]
    clear hr hC hT
    go_enter Try.func8, Try.ntmps8
    go_wp2_with ((with_reducible refine box_row rfl 26 (.tmp 0) rfl C ?_ ?_); rfl; refine RowKit.Hid.out ?_)
    refine Lib.hid ?_
    clear hW
    go_wp2_with ((with_reducible refine wpList_load_blk rfl 26 (.tmp 1) rfl ?_ hk rowBk hCl ?_); rfl)
    refine (hR.out W hb).mono ?_
    rintro q w1 ⟨rfl, b1⟩
    have hk1 := hk.keep b1 hk.lt
    have hS1 := hb.trans (b1.mono hb.size)
    clear hk hb b1 hR
    go_wp2
    go_ret2
    exact ⟨none, 0, rfl, ⟨rfl, Nat.le_refl _, .inl rfl⟩, (fun x h => by cases h), hS1⟩
  | true =>
    rw [hr] at hR
    rw [if_pos rfl]
    have hn32 := rightK_le hr
    dsimp only at hn32
    have n64 : IntKind.u64.wrap (n : Int) = (n : Int) := by rw [IntKind.wrap_u64]; omega
    have hlen := blkB_len hK
    have hm : blkB ⟨H, P, n, zs⟩ = (([] ++ H ++ P) ++ beL (n : Int) (1 : Int).toNat) ++ zs := by
      rw [show (1 : Int).toNat = 1 from rfl, beL_k ⟨by omega, by omega⟩]
      unfold blkB
      dsimp only
      rw [show (n : Int) % 256 = (n : Int) by omega]
      simp
    obtain ⟨M, hMM⟩ : ∃ M, blkB ⟨H, P, n, zs⟩ = M := ⟨_, rfl⟩
    rw [hMM] at hm hlen
    rw [hMM]
    dsimp only
    dsimp only at hlen
    have hlM : M.length ≤ 100000000 := by omega
    have hmH := Lib.hid hm
    have hnH := Lib.hid hn32
    clear hr hC hT hm hMM hK hlen
    go_enter Try.func8, Try.ntmps8
    go_wp2_with ((with_reducible refine box_row rfl 26 (.tmp 0) rfl C ?_ ?_); rfl; refine RowKit.Hid.out ?_)
    refine Lib.hid ?_
    clear hW
    go_wp2_with ((with_reducible refine wpList_load_blk rfl 26 (.tmp 1) rfl ?_ hk rowBk hCl ?_); rfl)
    refine (hR.out W hb).mono ?_
    rintro q w1 ⟨rfl, b1⟩
    have hk1 := hk.keep b1 hk.lt
    have hS1 := hb.trans (b1.mono hb.size)
    clear hk hb b1 hR
    go_wp2_with fail
    refine (wNew_any 1089 w1 (by decide)).mono ?_
    rintro q w2 ⟨g, F, rfl, hw2, hF2, b2⟩
    rw [show max (1089 : Int) 0 = 1089 by decide] at hw2
    have hk2 := hk1.keep b2 hk1.lt
    have hS2 := hS1.trans (b2.mono hS1.size)
    have nG : ¬ F G := fun h => by have := hF2 _ h; have := hk1.lt; omega
    have hFl : ∀ b, F b → w.heap.size ≤ b := fun b hb => Nat.le_trans hS1.size (hF2 b hb)
    have hT2 := hTH.out.keep hS2
    have hFT : ∀ x, a = some x → 0 < n → ¬ F x.block := fun x hx h0 hF => by
      rcases hTH.out.2.2 with h1 | ⟨b', off, ha, hc⟩
      · omega
      · rw [ha] at hx
        injection hx with hx
        subst hx
        have hq : b' < w.heap.size := World.block_lt_of_cell? w _ (hc 0 (by omega))
        exact absurd hq (Nat.not_lt.2 (hFl _ hF))
    have hD := We.start hw2
    have nGH := Lib.hid nG
    have hFlH := Lib.hid hFl
    have hTH2 := Lib.hid (And.intro hT2 hFT)
    have c0 := e0.out w2 G hk2
    obtain ⟨X0, hX0⟩ : ∃ C, H.map (Value.int .u8) = C := ⟨_, rfl⟩
    obtain ⟨X1, hX1⟩ : ∃ C, P.map (Value.int .u8) = C := ⟨_, rfl⟩
    rw [hX0] at c0 hrH e0
    rw [hX1] at hrP e1
    clear b2 hF2 hw2 hk1 hS1 nG hFl hT2 hFT
    go_wp2_with ((with_reducible refine wpList_load_part rfl 23 (.tmp 10) rfl ?_ X0 c0 hrH ?_); rfl)
    have cw := we_id hD H hH (by rw [List.length_nil]; decide) (by decide)
    rw [hX0] at cw
    refine cw.mono ?_
    rintro q w3 ⟨rfl, hD3⟩
    have hk3 := hD3.blk hk2 nGH.out
    have c1 := e1.out w3 G hk3
    clear hD c0 cw
    go_wp2_with ((with_reducible refine wpList_load_part rfl 23 (.tmp 14) rfl ?_ X1 c1 hrP ?_); rfl)
    have l1 : ([] ++ H : List Int).length = 32 := by rw [List.nil_append, hH]
    have cw := we_id hD3 P hP (by rw [l1]; decide) (by rw [l1]; decide)
    rw [hX1] at cw
    refine cw.mono ?_
    rintro q w4 ⟨rfl, hD4⟩
    have hk4 := hD4.blk hk2 nGH.out
    have c2 := e2.out w4 G hk4
    clear hD3 c1 cw hk3
    go_wp2_with fail
    have l2 : (([] ++ H) ++ P : List Int).length = 64 := by rw [List.length_append, l1, hP]
    refine (we_num hD4 (n : Int) 1 ⟨by decide, by decide, by show (n : Int) < 256; have := hnH.out; omega⟩ (by omega) (by rw [l2]; decide) (by rw [l2]; decide)).mono ?_
    rintro q w5 ⟨rfl, hD5⟩
    have hk5 := hD5.blk hk2 nGH.out
    have c2 := e2.out w5 G hk5
    clear hD4 hk4
    have l3 : ((([] ++ H) ++ P) ++ beL (n : Int) (1 : Int).toNat : List Int).length = 65 := by rw [List.length_append, l2, beL_len]; rfl
    go_wp2_with fail
    refine (we_ids hD5 a n c zs hTH2.out.1 hTH2.out.2 (by rw [l3]; have := hnH.out; omega) (by rw [l3]; have := hnH.out; omega)).mono ?_
    rintro q w6 ⟨rfl, hD6⟩
    rw [← hmH.out] at hD6
    have hS6 := hS2.trans (hD6.below hFlH.out hS2.size)
    clear hD5 hk5 c2
    have hd := hD6.done hlM
    rw [if_pos rfl] at hd
    clear hD6
    go_wp2_with fail
    refine hd.mono ?_
    rintro q w8 ⟨b, d, rfl, ho, b8⟩
    have hloc : ∀ x, b = some x → 0 < M.length → w.heap.size ≤ x.block := fun x hx _ => Nat.le_trans hS6.size (ho.lt x.block (by rw [hx]; rfl)).1
    obtain ⟨b', d', hv, hJ⟩ := Ints.of_owns ho
    injection hv with e1 _ e2
    subst e1; subst e2
    go_wp2
    go_ret2
    exact ⟨b, d, rfl, hJ, hloc, hS6.trans (b8.mono hS6.size)⟩
end Go.Proofs.Ytndodckcncejiaa

/-
  The example that each law of layer 16 ends with. New memory alone is written. No conditions.
-/
namespace Go.Proofs.Ytndodckcncejiaa
open Go.RowKit

section
variable {P : Program} {w : World} {ops : Array Oper} {rest : List Oper} {o : Oper} {a : Act} {Q : Exit → Act → World → Prop}
theorem buildSlice_if (hw : Region.wanted o (yielded ops a.tmps) = true) (t e : TypeId) (len : Nat) (parts : Array (Nat × Operand)) (ho : o.op = .buildSlice t len parts)
    (cells : Array Value) (ie : TypeInfo) (z : Value)
    (hu : P.underlying t = some (.slice e)) (hie : P.info? e = some ie) (hz : ie.zero = some z) (hsmall : ¬ len * ie.size > 2 ^ 24) (hpos : ¬ len * ie.size = 0)
    (hf : Instr.fill (fun i => some (i * ie.size, ie.size)) ((Array.range (len * ie.size)).map (z.cells[· % z.cells.size]!)) (parts.map fun (i, x) => (i, a.eval x)).toList = some cells)
    (h : wpList P ops Q rest (a.put o.dst (.slice (some ⟨w.heap.size, 0, none⟩) len len)) (w.alloc (.cells cells e))) : wpList P ops Q (o :: rest) a w := by
  refine wpList_step fun K hK => ?_
  rw [if_pos hw]
  exact wp_buildSlice t e len parts ho cells ie z hu hie hz hsmall hpos hf (hK _ _ h)
end

def idA : List Int := 1 :: List.replicate 31 0
def idB : List Int := 5 :: List.replicate 31 0
theorem built_idA : Try.prog.built 23 [(0, .int .u8 1)] = some (idA.map (Value.int .u8)).toArray := by kernel_rfl
theorem built_idB : Try.prog.built 23 [(0, .int .u8 5)] = some (idB.map (Value.int .u8)).toArray := by kernel_rfl
theorem okA : BlkOk ⟨idA, z32, 0, []⟩ := ⟨rfl, rfl, rfl, by unfold okB idA; decide, by unfold okB z32; decide, fun x h => by cases h⟩
theorem encA : encK ⟨idA, z32, 0, []⟩ = (idA ++ (z32 ++ [0]), 0) := by decide
theorem lenA : (idA ++ (z32 ++ [0]) : List Int).length = 65 := rfl
theorem hasB : hasL idB idB 1 = true := by decide

set_option maxRecDepth 100000 in
set_option maxHeartbeats 4000000 in
theorem alive16_any (w : World) : Calls Try.prog 7 #[] w fun q w' => q = .returned (.bool true) ∧ Below w.heap.size w w' := by
  have hc := fun w' => bkEncode_any idA z32 none 0 0 [] w' okA ⟨rfl, Nat.le_refl _, .inl rfl⟩ (by decide)
  rw [encA] at hc
  dsimp only at hc
  rw [lenA] at hc
  have hh := Lib.hid (fun a w' (h : IdsAt w' a 1 1 idB) => bkHas_any z32 z32 a 1 1 idB idB w' rfl rfl h (by decide) rfl)
  have hB2 := Lib.hid hasB
  have hbA := built_idA
  have hbB := built_idB
  have hbk := built_bk1 idA rfl
  have hbT := Lib.hid (fun a => built_bkT a 1 1)
  have hBl : (idB.map (Value.int .u8)).length = 32 := rfl
  have hB1 := u8_one idB
  have hBI : ∀ W : World, IdsAt (W.alloc (.cells (idB.map (Value.int .u8)).toArray 23)) (some ⟨W.heap.size, 0, none⟩) 1 1 idB := fun W =>
    ⟨rfl, Nat.le_refl _, .inr ⟨_, _, rfl, fun i hi => by
      rw [(Blk.new W 23 (idB.map (Value.int .u8))).cell, Nat.zero_add]
      exact getElem?_mapInt .u8 idB i (by show i < 32; omega)⟩⟩
  obtain ⟨A, hA⟩ : ∃ A, idA.map (Value.int .u8) = A := ⟨_, rfl⟩
  obtain ⟨B, hB⟩ : ∃ A, idB.map (Value.int .u8) = A := ⟨_, rfl⟩
  obtain ⟨C, hC⟩ : ∃ C, bkC idA z32 none 0 0 = C := ⟨_, rfl⟩
  obtain ⟨D, hD⟩ : ∃ D : Option Addr → List Value, ∀ a, bkC z32 z32 a 1 1 = D a := ⟨_, fun _ => rfl⟩
  have hbT := Lib.hid (fun a => show Try.prog.built 26 [(2, .slice a 1 1)] = some (D a).toArray by rw [← hD]; exact hbT.out a)
  have hh := Lib.hid (fun a w' (h : IdsAt w' a 1 1 idB) => show Calls Try.prog 15 #[.agg (D a).toArray, .agg B.toArray] w' fun q w'' => q = .returned (.bool true) ∧ Below w'.heap.size w' w'' by
    have := hh.out a w' h
    rw [hD, hB, hasB] at this
    exact this)
  rw [hA] at hbA hbk
  rw [hB] at hbB hBl hB1 hBI
  rw [hC] at hbk hc
  have hBIH := Lib.hid hBI
  have hcH := Lib.hid hc
  obtain ⟨i0, hi, hz0, hz1, hz2⟩ := info_id9
  have hfill := Lib.hid (fill_id i0 (.agg (List.replicate 32 (Value.int .u8 0)).toArray) hz1 B hBl)
  clear hA hB hC hD hBI hc hB1
  go_enter Try.func7, Try.ntmps7
  go_wp2_with (first
    | ((with_reducible refine build_if rfl 23 #[(0, .const (.int .u8 1))] rfl (cells := A.toArray) ?_ ?_); (refine Eq.trans (congrArg _ ?_) hbA; kernel_rfl))
    | ((with_reducible refine build_if rfl 26 #[(0, .tmp 4)] rfl (cells := C.toArray) ?_ ?_); (refine Eq.trans (congrArg _ ?_) hbk; kernel_rfl)))
  refine (hcH.out w).mono ?_
  rintro q w1 ⟨b, d, rfl, hI, _, b1⟩
  obtain ⟨g, off, rfl, hat⟩ := hI.at (by omega)
  have c0 : w1.cell? ⟨g, off, none⟩ = some (.int .u8 1) := hat 0 (by omega)
  have hBIw := hBIH.out w1
  have bA := below1 w1 (.cells B.toArray 23)
  have hD0 := hbT.out (some ⟨w1.heap.size, 0, none⟩)
  have hhw := Lib.hid (hh.out _ _ hBIw)
  obtain ⟨E, hE⟩ : ∃ E, D (some ⟨w1.heap.size, 0, none⟩) = E := ⟨_, rfl⟩
  rw [hE] at hD0 hhw
  have hdI := hI.2.1
  have hdi : (65 : Int) ≤ (d : Int) := by omega
  clear hcH hI hat hBIH hbT hh hE hBIw
  go_wp2_with (first
    | ((with_reducible refine build_if rfl 23 #[(0, .const (.int .u8 5))] rfl (cells := B.toArray) ?_ ?_); (refine Eq.trans (congrArg _ ?_) hbB; kernel_rfl))
    | (refine buildSlice_if rfl 24 23 1 #[(0, .tmp 23)] rfl B.toArray i0 _ Try.underlying24 hi hz0 (by rw [hz1]; decide) (by rw [hz1]; decide) (hfill.out _ (by rw [Array.toList_map]; rfl)) ?_)
    | ((with_reducible refine build_if rfl 26 #[(2, .tmp 24)] rfl (cells := E.toArray) ?_ ?_); (refine Eq.trans (congrArg _ ?_) hD0; kernel_rfl)))
  refine hhw.out.mono ?_
  rintro q w2 ⟨rfl, b2⟩
  go_wp2
  go_ret
  exact ⟨by first | rfl | simp, b1.trans ((bA.mono b1.size).trans (b2.mono (Nat.le_trans b1.size bA.size)))⟩
end Go.Proofs.Ytndodckcncejiaa

/-
  The law BlockReads, by what the program's blocks and the document's own come to. New memory alone is written. Conditions: bytes below 256.
-/
namespace Go.Proofs.Ytndodckcncejiaa
open Go.RowKit

theorem IdsAt.isIn {w : World} {a : Option Addr} {n c : Nat} {zs : List Int} (h : IdsAt w a n c zs) : ∀ x, a = some x → 0 < n → x.block < w.heap.size := fun x hx h0 => by
  rcases h.2.2 with h1 | ⟨b', off, ha, hc⟩
  · omega
  · rw [ha] at hx
    injection hx with hx
    subst hx
    exact World.block_lt_of_cell? w _ (hc 0 (by omega))
theorem IdsAt.grownR {w w' : World} {a : Option Addr} {n c : Nat} {zs : List Int} {row : Option Nat} (h : IdsAt w a n c zs) (hg : w.grownBy w' row) (hne : ∀ x, a = some x → 0 < n → some x.block ≠ row) : IdsAt w' a n c zs := by
  refine ⟨h.1, h.2.1, ?_⟩
  rcases h.2.2 with h0 | ⟨b', off, ha, hc⟩
  · exact .inl h0
  · by_cases h0 : n = 0
    · exact .inl h0
    · exact .inr ⟨b', off, ha, fun i hi => hg.cell (hc i hi) (show some b' ≠ row from hne ⟨b', off, none⟩ ha (by omega))⟩
theorem decK_n (xs : List Int) (hx : okB xs) : (decK xs).1.n ≤ 32 := by
  by_cases he : (decK xs).2 = 0
  · exact rightK_le (enc_dec hx he).2.1
  · rw [decK_bad he]; exact Nat.zero_le _
theorem str_same16 {xs : List Int} (hx : okB xs) : ((strOfNums xs).toList == (strOfNums xs).toList) = true := by
  have := str_eq hx hx
  rw [decide_eq_true rfl] at this
  exact this

set_option maxRecDepth 100000 in
set_option maxHeartbeats 4000000 in
theorem bkReads_any (a : Option Addr) (n c : Nat) (xs : List Int) (w : World) (hI : Ints .u8 w a n c xs) (hr : okB xs) :
    Calls Try.prog 4 #[.slice a n c] w fun q w' => q = .returned (.bool true) ∧ Below w.heap.size w w' := by
  by_cases hn : 3000 < n
  · have hni : (3000 : Int) < (n : Int) := by omega
    clear hI hr hn
    go_enter Try.func4, Try.ntmps4
    go_wp2_with fail
    refine (alive16_any w).mono ?_
    rintro q w1 ⟨rfl, b1⟩
    go_wp2
    go_ret
    exact ⟨rfl, b1⟩
  have hni : ¬ (3000 : Int) < (n : Int) := by omega
  have hpd := fun w' (h : Below w.heap.size w w') => bkDecode_any a n c xs w' (hI.keep h) hr (by omega)
  have hrd := fun w' (h : Below w.heap.size w w') => r16Decode_any a n c xs w' (hI.keep h) hr
  unfold DecEndB bC at hpd hrd
  have hno := decK_bad (xs := xs)
  have hok := enc_dec hr
  have hbk := decK_ok hr
  have hk32 := decK_n xs hr
  obtain ⟨Z, hZ⟩ : ∃ Z, bkC z32 z32 none 0 0 = Z := ⟨_, rfl⟩
  have hZ0 : Zero Try.prog 26 Z := by rw [← hZ]; exact zeroBk
  have hZl : Z.length = 65 := by rw [← hZ]; exact bkC_len rfl rfl
  have hbt0 : Try.prog.built 26 [] = some Z.toArray := by rw [← hZ]; exact built_bk0
  obtain ⟨⟨⟨H, P, k, zs⟩, E⟩, hd⟩ : ∃ q, decK xs = q := ⟨_, rfl⟩
  rw [hd] at hpd hrd hno hok hbk hk32
  dsimp only at hpd hrd hno hok hk32
  have hH : H.length = 32 := hbk.1
  have hP : P.length = 32 := hbk.2.1
  have hzo : okB zs := hbk.2.2.2.2.2
  obtain ⟨D, hD⟩ : ∃ D : Option Addr → Nat → List Value, ∀ b d, bkC H P b k d = D b d := ⟨_, fun _ _ => rfl⟩
  have hDl := Lib.hid (fun b d => show (D b d).length = 65 by rw [← hD]; exact bkC_len hH hP)
  have hD1 := Lib.hid (fun b d => show ∀ v ∈ D b d, v.oneCell' = true by rw [← hD]; exact bkC_one _ _ _ _ _)
  have hsame := Lib.hid (fun b1 d1 b2 d2 w' (h1 : IdsAt w' b1 k d1 zs) (h2 : IdsAt w' b2 k d2 zs) => show Calls Try.prog 13 #[.agg (D b1 d1).toArray, .agg (D b2 d2).toArray] w' fun q w'' => q = .returned (.bool true) ∧ Below w'.heap.size w' w'' by
    have := r16Same_any H P b1 k d1 zs H P b2 k d2 zs w' hH hP hH hP h1 h2 (by omega)
    rw [sameK_self, hD, hD] at this
    exact this)
  simp only [hD] at hpd hrd
  have hpd := Lib.hid hpd
  have hrd := Lib.hid hrd
  by_cases hE : E = 0
  · subst hE
    obtain ⟨_, hmr, hmb⟩ := hok rfl
    have he : encK ⟨H, P, k, zs⟩ = (xs, 0) := by unfold encK; rw [hmr, if_pos rfl, hmb]
    have hst := str_same16 hr
    have hLn := hI.len
    have hen := Lib.hid (fun b1 d1 w' (h : IdsAt w' b1 k d1 zs) => show Calls Try.prog 8 #[.agg (D b1 d1).toArray] w' fun q w'' => ∃ b d, q = .returned (.tuple #[.slice b n d, .int .i64 0]) ∧ Ints .u8 w'' b n d xs ∧ Below w'.heap.size w' w'' by
      have := bkEncode_any H P b1 k d1 zs w' hbk h (by omega)
      rw [he, hD] at this
      dsimp only at this
      rw [hLn] at this
      exact this.mono fun q w'' ⟨b, d, e, hi, _, hb⟩ => ⟨b, d, e, hi, hb⟩)
    have hri := Lib.hid (fun b1 d1 w' (h : IdsAt w' b1 k d1 zs) => show Calls Try.prog 10 #[.agg (D b1 d1).toArray] w' fun q w'' => q = .returned (.bool true) ∧ Below w'.heap.size w' w'' by
      have := bkRight_any H P b1 k d1 zs w' hH hP h hzo (by omega)
      rw [hmr, hD] at this
      exact this)
    have hIH := Lib.hid (fun w' (h : Below w.heap.size w w') => hI.keep h)
    have cv := Lib.hid (fun (w' : World) (b : Option Addr) (k d : Nat) (zs : List Int) (h : Ints .u8 w' b k d zs) => h.string (P := Try.prog) 29 9 5 Try.underlying29 Try.underlying5 Try.underlying9)
    obtain ⟨SA, hSA⟩ : ∃ S, strOfNums xs = S := ⟨_, rfl⟩
    rw [hSA] at hst
    have hSAH := Lib.hid hSA
    clear hno hok hmb hmr he hd hI hr hn hLn hSA hbk hk32 hD hZ
    go_enter Try.func4, Try.ntmps4
    go_wp2_with fail
    refine (hpd.out w (Below.refl _ _)).mono ?_
    rintro q w1 ⟨b1, d1, rfl, hI1, -, B1⟩
    have hl1 := hDl.out b1 d1
    have ho1 := hD1.out b1 d1
    obtain ⟨C1, hC1⟩ : ∃ C, D b1 d1 = C := ⟨_, rfl⟩
    rw [hC1] at hl1 ho1
    have hC1H := Lib.hid hC1
    go_wp2_with ((with_reducible refine wpList_alloc_blk rfl 26 rfl hZ0 ?_); refine RowKit.Hid.out ?_)
    refine Lib.hid ?_
    try simp only [Act.put, List.setIfInBounds_toArray, List.set_cons_zero, List.set_cons_succ]
    try simp only [hC1]
    have hnA := Blk.new w1 26 Z
    have bA := below1 w1 (.cells Z.toArray 26)
    have hIA := hI1.keep bA
    have BA := B1.trans (bA.mono B1.size)
    have hwN := B1.size
    have hIn := hI1.isIn
    obtain ⟨N, hN⟩ : ∃ N, w1.heap.size = N := ⟨_, rfl⟩
    rw [hN] at hnA hwN hIn ⊢
    obtain ⟨U, hU⟩ : ∃ W, w1.alloc (.cells Z.toArray 26) = W := ⟨_, rfl⟩
    rw [hU] at hnA hIA BA ⊢
    clear hI1 B1 bA hN hU hC1
    refine store_row rfl 26 (.tmp 3) (.tmp 16) rfl rfl rfl hnA rowBk hl1 hZl ho1 ?_
    intro w2 hn2 hg2
    have hI2 := hIA.grownR hg2 (fun x hx h0 => by have := hIn x hx h0; intro e; injection e with e; omega)
    have B2 := BA.grown hg2 BA.size (fun q hq => by injection hq with hq; omega)
    have hrdH := Lib.hid (hrd.out w2 B2)
    clear hnA hIA BA hg2 hIn
    go_wp2_with fail
    refine hrdH.out.mono ?_
    rintro q w3 ⟨b2, d2, rfl, hJ3, -, b3⟩
    have hI3 := hI2.keep b3
    have hn3 := hn2.keep b3 hn2.lt
    have B3 := B2.trans (b3.mono B2.size)
    have hl2 := hDl.out b2 d2
    have ho2 := hD1.out b2 d2
    obtain ⟨C2, hC2⟩ : ∃ C, D b2 d2 = C := ⟨_, rfl⟩
    rw [hC2] at hl2 ho2
    have hC2H := Lib.hid hC2
    clear hrdH hI2 hn2 B2 b3
    go_wp2_with ((with_reducible refine wpList_alloc_blk rfl 26 rfl hZ0 ?_); refine RowKit.Hid.out ?_)
    refine Lib.hid ?_
    try simp only [Act.put, List.setIfInBounds_toArray, List.set_cons_zero, List.set_cons_succ]
    try simp only [hC2]
    have hmA := Blk.new w3 26 Z
    have bA := below1 w3 (.cells Z.toArray 26)
    have hIA := hI3.keep bA
    have hJA := hJ3.keep bA
    have hnA := hn3.keep bA hn3.lt
    have BA := B3.trans (bA.mono B3.size)
    have hNM := hn3.lt
    have hIn := hI3.isIn
    have hJn := hJ3.isIn
    obtain ⟨M, hM⟩ : ∃ N, w3.heap.size = N := ⟨_, rfl⟩
    rw [hM] at hmA hNM hIn hJn ⊢
    obtain ⟨U, hU⟩ : ∃ W, w3.alloc (.cells Z.toArray 26) = W := ⟨_, rfl⟩
    rw [hU] at hmA hIA hJA hnA BA ⊢
    clear hI3 hJ3 hn3 B3 bA hM hU hC2
    refine store_row rfl 26 (.tmp 5) (.tmp 21) rfl rfl rfl hmA rowBk hl2 hZl ho2 ?_
    intro w4 hm4 hg4
    have hn4 := hnA.grown hg4 (fun e => by injection e with e; omega)
    have hI4 := hIA.grownR hg4 (fun x hx h0 => by have := hIn x hx h0; intro e; injection e with e; omega)
    have hJ4 := hJA.grownR hg4 (fun x hx h0 => by have := hJn x hx h0; intro e; injection e with e; omega)
    have B4 := BA.grown hg4 BA.size (fun q hq => by injection hq with hq; omega)
    have hsm := Lib.hid (hsame.out b1 d1 b2 d2 w4 hI4 hJ4)
    rw [hC1H.out, hC2H.out] at hsm
    clear hmA hnA hIA hJA BA hg4 hIn hJn hJ4
    go_wp2_with (first
      | ((with_reducible refine wpList_load_blk rfl 26 (.tmp 3) rfl ?_ hn4 rowBk hl1 ?_); rfl)
      | ((with_reducible refine wpList_load_blk rfl 26 (.tmp 5) rfl ?_ hm4 rowBk hl2 ?_); rfl))
    refine hsm.out.mono ?_
    rintro q w5 ⟨rfl, b5⟩
    have hn5 := hn4.keep b5 hn4.lt
    have hI5 := hI4.keep b5
    have B5 := B4.trans (b5.mono B4.size)
    clear hsm hn4 hm4 hI4 B4 b5 hl2 ho2
    have hen5 := Lib.hid (hen.out b1 d1 w5 hI5)
    rw [hC1H.out] at hen5
    go_wp2_with ((with_reducible refine wpList_load_blk rfl 26 (.tmp 3) rfl ?_ hn5 rowBk hl1 ?_); rfl)
    refine hen5.out.mono ?_
    rintro q w6 ⟨b6, d6, rfl, hJ6, bb6⟩
    have hn6 := hn5.keep bb6 hn5.lt
    have hI6 := hI5.keep bb6
    have B6 := B5.trans (bb6.mono B5.size)
    have v1 := cv.out w6 b6 n d6 xs hJ6
    have v2 := cv.out w6 a n c xs (hIH.out w6 B6)
    rw [hSAH.out] at v1 v2
    have hri6 := Lib.hid (hri.out b1 d1 w6 hI6)
    rw [hC1H.out] at hri6
    clear hen5 hn5 hI5 bb6 hJ6 B5
    go_wp2_with ((with_reducible refine load_if rfl 26 (.tmp 3) rfl ?_ hn6 rowBk hl1 ?_); rfl)
    refine hri6.out.mono ?_
    rintro q w7 ⟨rfl, b7⟩
    have B7 := B6.trans (b7.mono B6.size)
    clear hri6 hn6 hI6 B6 b7 v1 v2
    go_wp2_with fail
    refine (alive16_any w7).mono ?_
    rintro q w8 ⟨rfl, b8⟩
    go_wp2
    go_ret
    exact ⟨by first | rfl | simp, B7.trans (b8.mono B7.size)⟩
  · have hnb := hno hE
    have hEb : (E != 0) = true := bne_iff_ne.2 hE
    have hzz : D none 0 = Z ∧ k = 0 ∧ zs = [] := by
      unfold noBlk at hnb
      injection hnb with e1 e2 e3 e4
      refine ⟨?_, e3, e4⟩
      rw [← hD, ← hZ, e1, e2, e3]
    have hsz := Lib.hid (fun b1 d1 w' (h : IdsAt w' b1 k d1 zs) => show Calls Try.prog 13 #[.agg (D b1 d1).toArray, .agg Z.toArray] w' fun q w'' => q = .returned (.bool true) ∧ Below w'.heap.size w' w'' by
      have := hsame.out b1 d1 none 0 w' h ⟨by rw [hzz.2.1, hzz.2.2]; rfl, by rw [hzz.2.1]; exact Nat.le_refl _, .inl hzz.2.1⟩
      rw [hzz.1] at this
      exact this)
    clear hno hok hd hI hr hn hbk hk32 hD hZ hnb hzz
    go_enter Try.func4, Try.ntmps4
    go_wp2_with fail
    refine (hpd.out w (Below.refl _ _)).mono ?_
    rintro q w1 ⟨b1, d1, rfl, hI1, -, B1⟩
    have hl1 := hDl.out b1 d1
    have ho1 := hD1.out b1 d1
    obtain ⟨C1, hC1⟩ : ∃ C, D b1 d1 = C := ⟨_, rfl⟩
    rw [hC1] at hl1 ho1
    have hC1H := Lib.hid hC1
    go_wp2_with ((with_reducible refine wpList_alloc_blk rfl 26 rfl hZ0 ?_); refine RowKit.Hid.out ?_)
    refine Lib.hid ?_
    try simp only [Act.put, List.setIfInBounds_toArray, List.set_cons_zero, List.set_cons_succ]
    try simp only [hC1]
    have hnA := Blk.new w1 26 Z
    have bA := below1 w1 (.cells Z.toArray 26)
    have hIA := hI1.keep bA
    have BA := B1.trans (bA.mono B1.size)
    have hwN := B1.size
    have hIn := hI1.isIn
    obtain ⟨N, hN⟩ : ∃ N, w1.heap.size = N := ⟨_, rfl⟩
    rw [hN] at hnA hwN hIn ⊢
    obtain ⟨U, hU⟩ : ∃ W, w1.alloc (.cells Z.toArray 26) = W := ⟨_, rfl⟩
    rw [hU] at hnA hIA BA ⊢
    clear hI1 B1 bA hN hU hC1
    refine store_row rfl 26 (.tmp 3) (.tmp 16) rfl rfl rfl hnA rowBk hl1 hZl ho1 ?_
    intro w2 hn2 hg2
    have hI2 := hIA.grownR hg2 (fun x hx h0 => by have := hIn x hx h0; intro e; injection e with e; omega)
    have B2 := BA.grown hg2 BA.size (fun q hq => by injection hq with hq; omega)
    have hrdH := Lib.hid (hrd.out w2 B2)
    clear hnA hIA BA hg2 hIn
    go_wp2_with fail
    refine hrdH.out.mono ?_
    rintro q w3 ⟨b2, d2, rfl, hJ3, -, b3⟩
    have hI3 := hI2.keep b3
    have hn3 := hn2.keep b3 hn2.lt
    have B3 := B2.trans (b3.mono B2.size)
    have hl2 := hDl.out b2 d2
    have ho2 := hD1.out b2 d2
    obtain ⟨C2, hC2⟩ : ∃ C, D b2 d2 = C := ⟨_, rfl⟩
    rw [hC2] at hl2 ho2
    have hC2H := Lib.hid hC2
    clear hrdH hI2 hn2 B2 b3
    go_wp2_with ((with_reducible refine wpList_alloc_blk rfl 26 rfl hZ0 ?_); refine RowKit.Hid.out ?_)
    refine Lib.hid ?_
    try simp only [Act.put, List.setIfInBounds_toArray, List.set_cons_zero, List.set_cons_succ]
    try simp only [hC2]
    have hmA := Blk.new w3 26 Z
    have bA := below1 w3 (.cells Z.toArray 26)
    have hIA := hI3.keep bA
    have hJA := hJ3.keep bA
    have hnA := hn3.keep bA hn3.lt
    have BA := B3.trans (bA.mono B3.size)
    have hNM := hn3.lt
    have hIn := hI3.isIn
    have hJn := hJ3.isIn
    obtain ⟨M, hM⟩ : ∃ N, w3.heap.size = N := ⟨_, rfl⟩
    rw [hM] at hmA hNM hIn hJn ⊢
    obtain ⟨U, hU⟩ : ∃ W, w3.alloc (.cells Z.toArray 26) = W := ⟨_, rfl⟩
    rw [hU] at hmA hIA hJA hnA BA ⊢
    clear hI3 hJ3 hn3 B3 bA hM hU hC2
    refine store_row rfl 26 (.tmp 5) (.tmp 21) rfl rfl rfl hmA rowBk hl2 hZl ho2 ?_
    intro w4 hm4 hg4
    have hn4 := hnA.grown hg4 (fun e => by injection e with e; omega)
    have hI4 := hIA.grownR hg4 (fun x hx h0 => by have := hIn x hx h0; intro e; injection e with e; omega)
    have hJ4 := hJA.grownR hg4 (fun x hx h0 => by have := hJn x hx h0; intro e; injection e with e; omega)
    have B4 := BA.grown hg4 BA.size (fun q hq => by injection hq with hq; omega)
    have hsm := Lib.hid (hsame.out b1 d1 b2 d2 w4 hI4 hJ4)
    rw [hC1H.out, hC2H.out] at hsm
    clear hmA hnA hIA hJA BA hg4 hIn hJn hJ4
    go_wp2_with (first
      | ((with_reducible refine wpList_load_blk rfl 26 (.tmp 3) rfl ?_ hn4 rowBk hl1 ?_); rfl)
      | ((with_reducible refine wpList_load_blk rfl 26 (.tmp 5) rfl ?_ hm4 rowBk hl2 ?_); rfl))
    refine hsm.out.mono ?_
    rintro q w5 ⟨rfl, b5⟩
    have hn5 := hn4.keep b5 hn4.lt
    have hI5 := hI4.keep b5
    have B5 := B4.trans (b5.mono B4.size)
    clear hsm hn4 hm4 hI4 B4 b5 hl2 ho2
    have hsz5 := Lib.hid (hsz.out b1 d1 w5 hI5)
    rw [hC1H.out] at hsz5
    go_wp2_with ((with_reducible refine wpList_load_blk rfl 26 (.tmp 3) rfl ?_ hn5 rowBk hl1 ?_); rfl; refine RowKit.Hid.out ?_)
    refine Lib.hid ?_
    try simp only [Act.put, List.setIfInBounds_toArray, List.set_cons_zero, List.set_cons_succ]
    go_wp2_with ((with_reducible refine build_row rfl 26 #[] rfl (cells := Z.toArray) ?_ ?_); (refine Eq.trans (congrArg _ ?_) hbt0; kernel_rfl))
    refine hsz5.out.mono ?_
    rintro q w7 ⟨rfl, b7⟩
    have B7 := B5.trans (b7.mono B5.size)
    clear hsz5 hn5 hI5 B5 b7
    go_wp2_with fail
    refine (alive16_any w7).mono ?_
    rintro q w8 ⟨rfl, b8⟩
    go_wp2
    go_ret
    exact ⟨by first | rfl | simp, B7.trans (b8.mono B7.size)⟩
end Go.Proofs.Ytndodckcncejiaa

/-
  The law BlockBytes, by what the program's blocks and the document's own come to. New memory alone is written. Conditions: the fields' ranges.
-/
namespace Go.Proofs.Ytndodckcncejiaa
open Go.RowKit

theorem run_cutTo16 {P : Program} (ty e : TypeId) (hu : P.underlying ty = some (.slice e)) (hs : (P.info? e).map (·.size) = some 1) (w : World) (g off m c : Nat) (k : IntKind) (h : Nat) (hc : h ≤ c) :
    (Instr.sliceAt ty (.slice (some ⟨g, off, none⟩) m c) none (some (.int k (h : Int))) none).run P w = .ok (.slice (some ⟨g, off, none⟩) h c) w := by
  have he : P.elem ty = e := by simp [Program.elem, hu]
  rw [run_sliceAt_slice w ty _ _ _ _ (by rw [he]; exact hu), run_slice_h w ty (some ⟨g, off, none⟩) m c (by rw [he]; exact hu) k h (by omega) (by omega)]
  cases hq : P.info? e with
  | none => simp [hq] at hs
  | some i =>
    have hi : i.size = 1 := by simpa [hq] using hs
    simp [he, sizeOf, typeInfo, hq, hi, sliced, Addr.add, Result.andThen]
theorem Ints.short16 {kd : IntKind} {w : World} {a : Option Addr} {n cap : Nat} {xs : List Int} (hi : Ints kd w a n cap xs) (h : Nat) (hn : h ≤ n) : Ints kd w a h cap (xs.take h) := by
  refine ⟨by rw [List.length_take, hi.1]; omega, Nat.le_trans hn hi.2.1, ?_⟩
  by_cases h0 : h = 0
  · exact .inl h0
  · obtain ⟨b, off, ha, hcell⟩ := hi.at (by omega)
    refine .inr ⟨b, off, ha, fun i hil => ?_⟩
    rw [hcell i (by omega), List.getD_eq_getElem?_getD, List.getD_eq_getElem?_getD, List.getElem?_take_of_lt hil]
theorem ints_made16 (w : World) (x : Int) : Ints .u8 (w.alloc (.cells #[.int .u8 x] 5)) (some ⟨w.heap.size, 0, none⟩) 1 1 [x] := by
  refine ⟨rfl, Nat.le_refl _, .inr ⟨_, _, rfl, fun i hi => ?_⟩⟩
  obtain rfl : i = 0 := by omega
  exact (Blk.new w 5 [.int .u8 x]).cell 0
theorem Ints.grownR16 {k : IntKind} {w w' : World} {a : Option Addr} {n cap : Nat} {xs : List Int} {row : Option Nat} (h : Ints k w a n cap xs) (hb : w.grownBy w' row) (hne : ∀ x, a = some x → 0 < n → some x.block ≠ row) : Ints k w' a n cap xs := by
  refine ⟨h.1, h.2.1, ?_⟩
  rcases h.2.2 with h0 | ⟨b, off, ha, hc⟩
  · exact .inl h0
  · by_cases h0 : n = 0
    · exact .inl h0
    refine .inr ⟨b, off, ha, fun i hi => ?_⟩
    have h1 := hc i hi
    have he := hb.block b (World.block_lt_of_cell? w _ h1) (hne _ ha (by omega))
    unfold World.cell? at h1 ⊢
    rw [he]
    exact h1
set_option maxRecDepth 100000 in
set_option maxHeartbeats 4000000 in
theorem bkBytes_many (H Pa : List Int) (a : Option Addr) (n c : Nat) (zs : List Int) (w : World) (hM : BlkOk ⟨H, Pa, n, zs⟩) (h0 : 100 < n) :
    Calls Try.prog 3 #[.agg (bkC H Pa a n c).toArray] w fun q w' => q = .returned (.bool true) ∧ Below w.heap.size w w' := by
  have hH : H.length = 32 := hM.1
  have hPl : Pa.length = 32 := hM.2.1
  have hzo : okB zs := hM.2.2.2.2.2
  have hCl := bkC_len (a := a) (n := n) (c := c) hH hPl
  have few := fun w' => r16Few_any H Pa a n c w' hH hPl
  rw [show decide (n ≤ 100) = false from decide_eq_false (by omega)] at few
  obtain ⟨C, hC⟩ : ∃ C, bkC H Pa a n c = C := ⟨_, rfl⟩
  rw [hC] at hCl few ⊢
  have hrC : IsRow Try.prog 26 C.length := by rw [hCl]; exact rowBk
  have hb := below1 w (.cells C.toArray 26)
  have hk : Blk (w.alloc (.cells C.toArray 26)) w.heap.size 26 C := Blk.new w _ C
  obtain ⟨W, hW⟩ : ∃ V, w.alloc (.cells C.toArray 26) = V := ⟨_, rfl⟩
  rw [hW] at hb hk
  obtain ⟨G, g9⟩ : ∃ G, w.heap.size = G := ⟨_, rfl⟩
  rw [g9] at hk
  have fewH := Lib.hid few
  clear few hM h0 hC hrC
  go_enter Try.func3, Try.ntmps3
  go_wp2_with ((with_reducible refine box_row rfl 26 (.tmp 0) rfl C ?_ ?_); rfl; refine RowKit.Hid.out ?_)
  refine Lib.hid ?_
  clear hW
  go_wp2_with ((with_reducible refine wpList_load_blk rfl 26 (.tmp 1) rfl ?_ hk rowBk hCl ?_); rfl)
  refine (fewH.out W).mono ?_
  rintro q w0 ⟨rfl, b0⟩
  have hk := hk.keep b0 hk.lt
  have hb := hb.trans (b0.mono hb.size)
  clear fewH b0
  go_wp2_with fail
  refine (alive16_any w0).mono ?_
  rintro q w1 ⟨rfl, b1⟩
  go_wp2
  go_ret
  exact ⟨rfl, hb.trans (b1.mono hb.size)⟩

set_option maxRecDepth 100000 in
set_option maxHeartbeats 4000000 in
theorem bkBytes_no (H Pa : List Int) (a : Option Addr) (n c : Nat) (zs : List Int) (w : World) (hM : BlkOk ⟨H, Pa, n, zs⟩) (hI0 : IdsAt w a n c zs) (h0 : n ≤ 100) (hF : rightK ⟨H, Pa, n, zs⟩ = false) :
    Calls Try.prog 3 #[.agg (bkC H Pa a n c).toArray] w fun q w' => q = .returned (.bool true) ∧ Below w.heap.size w w' := by
  have hH : H.length = 32 := hM.1
  have hPl : Pa.length = 32 := hM.2.1
  have hzo : okB zs := hM.2.2.2.2.2
  have hCl := bkC_len (a := a) (n := n) (c := c) hH hPl
  have few := fun w' => r16Few_any H Pa a n c w' hH hPl
  have en := fun w' (h : Below w.heap.size w w') => (bkEncode_any H Pa a n c zs w' hM (hI0.keep h) (by omega)).mono fun q w'' (k : ∃ b d, q = .returned (.tuple #[.slice b (encK ⟨H, Pa, n, zs⟩).1.length d, .int .i64 (encK ⟨H, Pa, n, zs⟩).2]) ∧ Ints .u8 w'' b (encK ⟨H, Pa, n, zs⟩).1.length d (encK ⟨H, Pa, n, zs⟩).1 ∧ (∀ x, b = some x → 0 < (encK ⟨H, Pa, n, zs⟩).1.length → w'.heap.size ≤ x.block) ∧ Below w'.heap.size w' w'') => (let ⟨b, d, e, hi, _, hb⟩ := k; ⟨b, d, e, hi, hb⟩ : ∃ b d, q = .returned (.tuple #[.slice b (encK ⟨H, Pa, n, zs⟩).1.length d, .int .i64 (encK ⟨H, Pa, n, zs⟩).2]) ∧ Ints .u8 w'' b (encK ⟨H, Pa, n, zs⟩).1.length d (encK ⟨H, Pa, n, zs⟩).1 ∧ Below w'.heap.size w' w'')
  have re := fun w' (h : Below w.heap.size w w') => r16Encode_any H Pa a n c zs w' hH hPl (hI0.keep h) (by omega)
  have rg := fun w' (h : Below w.heap.size w w') => bkRight_any H Pa a n c zs w' hH hPl (hI0.keep h) hzo (by omega)
  have rr := fun w' (h : Below w.heap.size w w') => r16Right_any H Pa a n c zs w' hH hPl (hI0.keep h) (by omega)
  have cv := Lib.hid (fun (w' : World) (b : Option Addr) (k d : Nat) (zs : List Int) (h : Ints .u8 w' b k d zs) => h.string (P := Try.prog) 29 9 5 Try.underlying29 Try.underlying5 Try.underlying9)
  rw [show decide (n ≤ 100) = true from decide_eq_true h0] at few
  obtain ⟨C, hC⟩ : ∃ C, bkC H Pa a n c = C := ⟨_, rfl⟩
  rw [hC] at hCl en re rg rr few ⊢
  have hrC : IsRow Try.prog 26 C.length := by rw [hCl]; exact rowBk
  have hb := below1 w (.cells C.toArray 26)
  have hk : Blk (w.alloc (.cells C.toArray 26)) w.heap.size 26 C := Blk.new w _ C
  obtain ⟨W, hW⟩ : ∃ V, w.alloc (.cells C.toArray 26) = V := ⟨_, rfl⟩
  rw [hW] at hb hk
  obtain ⟨G, g9⟩ : ∃ G, w.heap.size = G := ⟨_, rfl⟩
  rw [g9] at hk
  have he : encK ⟨H, Pa, n, zs⟩ = ([], 1) := by unfold encK; rw [hF]; rfl
  rw [he] at en re
  rw [hF] at rg rr
  dsimp only [List.length_nil] at en re
  obtain ⟨P, hP⟩ : ∃ P : List Int, [] = P := ⟨_, rfl⟩
  obtain ⟨M, hMM⟩ : ∃ K : Nat, 0 = K := ⟨_, rfl⟩
  rw [hP, hMM] at en re
  have fewH := Lib.hid few
  have enH := Lib.hid en
  have reH := Lib.hid re
  have rgH := Lib.hid rg
  have rrH := Lib.hid rr
  have hMH := Lib.hid hMM
  clear few en re rg rr he hF h0 hM hI0 hP hMM hzo hC
  go_enter Try.func3, Try.ntmps3
  go_wp2_with ((with_reducible refine box_row rfl 26 (.tmp 0) rfl C ?_ ?_); rfl; refine RowKit.Hid.out ?_)
  refine Lib.hid ?_
  clear hW
  go_wp2_with ((with_reducible refine wpList_load_blk rfl 26 (.tmp 1) rfl ?_ hk rowBk hCl ?_); rfl)
  refine (fewH.out W).mono ?_
  rintro q w0 ⟨rfl, b0⟩
  have hk := hk.keep b0 hk.lt
  have hb := hb.trans (b0.mono hb.size)
  clear fewH b0
  go_wp2_with ((with_reducible refine wpList_load_blk rfl 26 (.tmp 1) rfl ?_ hk rowBk hCl ?_); rfl)
  refine (enH.out w0 hb).mono ?_
  rintro q w1 ⟨b, d, rfl, hI, b1⟩
  have hk1 := hk.keep b1 hk.lt
  have B1 := hb.trans (b1.mono hb.size)
  clear hk hb enH b1
  go_wp2_with ((with_reducible refine wpList_load_blk rfl 26 (.tmp 1) rfl ?_ hk1 rowBk hCl ?_); rfl)
  refine (reH.out w1 B1).mono ?_
  rintro q w2 ⟨b', d', rfl, hI', b2⟩
  have hk2 := hk1.keep b2 hk1.lt
  have hI2 := hI.keep b2
  have B2 := B1.trans (b2.mono B1.size)
  clear hk1 hI B1 b2 reH
  go_wp2_with fail
  have b3 : Below w2.heap.size w2 w2.drew := (Below.refl _ _).drew
  have KC := Lib.hid (fun w' (h : Below w2.heap.size w2 w') => hk2.keep h hk2.lt)
  have RG := Lib.hid (fun w' (h : Below w2.heap.size w2 w') => rgH.out w' (B2.trans (h.mono B2.size)))
  have RR := Lib.hid (fun w' (h : Below w2.heap.size w2 w') => rrH.out w' (B2.trans (h.mono B2.size)))
  have v1 := Lib.hid (fun w' (h : Below w2.heap.size w2 w') => cv.out w' b M d P (hI2.keep h))
  have v2 := Lib.hid (fun w' (h : Below w2.heap.size w2 w') => cv.out w' b' M d' P (hI'.keep h))
  have B2H := Lib.hid B2
  have I2H := Lib.hid hI2
  clear rgH rrH hI' B2 hk2 hI2
  refine region_seqS (fun w' => Below w2.heap.size w2 w') (by kernel_rfl) b3 ?_
  simp only [pairs, Nat.reduceAdd]
  repeat (first
    | (refine SeqS.take (v := .agg (C).toArray) (by first | assumption | trivial) (by kernel_rfl) (by decide +kernel) (by decide +kernel) (yields_blk (by rfl) 26 (.tmp 1) rfl rfl (fun w' h => KC.out w' h) (hrC)) ?_
       simp only [Act.put, List.setIfInBounds_toArray, List.set_cons_zero, List.set_cons_succ])
    | (refine SeqS.take (v := ?_) (by first | assumption | trivial) (by kernel_rfl) (by decide +kernel) (by decide +kernel) (Or.inl ⟨by rfl, ?_⟩) ?_
       rotate_left
       focus
         intro w' hb'
         go_simp
         with_reducible rfl
       simp only [Act.put, List.setIfInBounds_toArray, List.set_cons_zero, List.set_cons_succ])
    | (refine SeqS.take (v := undef) (by first | assumption | trivial) (by kernel_rfl) (by decide +kernel) (by decide +kernel) (Or.inr ⟨by rfl, rfl⟩) ?_
       simp only [Act.put, List.setIfInBounds_toArray, List.set_cons_zero, List.set_cons_succ])
    | (refine SeqS.take1 (v := .agg (C).toArray) (by first | assumption | trivial) (by kernel_rfl) (by decide +kernel) (by decide +kernel) (yields_blk (by rfl) 26 (.tmp 1) rfl rfl (fun w' h => KC.out w' h) (hrC)) ?_
       simp only [Act.put, List.setIfInBounds_toArray, List.set_cons_zero, List.set_cons_succ])
    | (refine SeqS.take1 (v := ?_) (by first | assumption | trivial) (by kernel_rfl) (by decide +kernel) (by decide +kernel) (Or.inl ⟨by rfl, ?_⟩) ?_
       rotate_left
       focus
         intro w' hb'
         go_simp
         with_reducible rfl
       simp only [Act.put, List.setIfInBounds_toArray, List.set_cons_zero, List.set_cons_succ])
    | (refine SeqS.take1 (v := undef) (by first | assumption | trivial) (by kernel_rfl) (by decide +kernel) (by decide +kernel) (Or.inr ⟨by rfl, rfl⟩) ?_
       simp only [Act.put, List.setIfInBounds_toArray, List.set_cons_zero, List.set_cons_succ])
    | (refine SeqS.take2 (v := .agg (C).toArray) (by first | assumption | trivial) (by kernel_rfl) (by decide +kernel) (by decide +kernel) (yields_blk (by rfl) 26 (.tmp 1) rfl rfl (fun w' h => KC.out w' h) (hrC)) ?_
       simp only [Act.put, List.setIfInBounds_toArray, List.set_cons_zero, List.set_cons_succ])
    | (refine SeqS.take2 (v := ?_) (by first | assumption | trivial) (by kernel_rfl) (by decide +kernel) (by decide +kernel) (Or.inl ⟨by rfl, ?_⟩) ?_
       rotate_left
       focus
         intro w' hb'
         go_simp
         with_reducible rfl
       simp only [Act.put, List.setIfInBounds_toArray, List.set_cons_zero, List.set_cons_succ])
    | (refine SeqS.take2 (v := undef) (by first | assumption | trivial) (by kernel_rfl) (by decide +kernel) (by decide +kernel) (Or.inr ⟨by rfl, rfl⟩) ?_
       simp only [Act.put, List.setIfInBounds_toArray, List.set_cons_zero, List.set_cons_succ]))
  refine SeqS.alone (by decide +kernel) (by rfl) (fun K hK => ?_)
  go_simp
  go_at_call 10
  refine (RG.out _ b3).mono ?_
  rintro e w5 ⟨rfl, b5⟩
  go_simp
  have S5 : Below w2.heap.size w2 w5 := b3.trans (b5.mono b3.size)
  refine hK _ _ S5 ?_
  clear hK K
  refine SeqS.alone (by decide +kernel) (by rfl) (fun K hK => ?_)
  go_simp
  go_at_call 11
  refine (RR.out _ S5).mono ?_
  rintro e w6 ⟨rfl, b6⟩
  go_simp
  have S6 : Below w2.heap.size w2 w6 := S5.trans (b6.mono S5.size)
  refine hK _ _ S6 ?_
  clear hK K
  repeat (first
    | (refine SeqS.take (v := ?_) (by first | assumption | trivial) (by kernel_rfl) (by decide +kernel) (by decide +kernel) (Or.inl ⟨by rfl, ?_⟩) ?_
       rotate_left
       focus
         intro w' hb'
         go_simp
         with_reducible rfl
       simp only [Act.put, List.setIfInBounds_toArray, List.set_cons_zero, List.set_cons_succ])
    | (refine SeqS.take (v := ?_) (by first | assumption | trivial) (by kernel_rfl) (by decide +kernel) (by decide +kernel) (Or.inl ⟨by rfl, ?_⟩) ?_
       rotate_left
       focus
         intro w' hb'
         have d0 := v1.out w' hb'
         go_simp
         with_reducible rfl
       simp only [Act.put, List.setIfInBounds_toArray, List.set_cons_zero, List.set_cons_succ])
    | (refine SeqS.take (v := ?_) (by first | assumption | trivial) (by kernel_rfl) (by decide +kernel) (by decide +kernel) (Or.inl ⟨by rfl, ?_⟩) ?_
       rotate_left
       focus
         intro w' hb'
         have d0 := v2.out w' hb'
         go_simp
         with_reducible rfl
       simp only [Act.put, List.setIfInBounds_toArray, List.set_cons_zero, List.set_cons_succ])
    | (refine SeqS.take (v := undef) (by first | assumption | trivial) (by kernel_rfl) (by decide +kernel) (by decide +kernel) (Or.inr ⟨by rfl, rfl⟩) ?_
       simp only [Act.put, List.setIfInBounds_toArray, List.set_cons_zero, List.set_cons_succ])
    | (refine SeqS.take1 (v := ?_) (by first | assumption | trivial) (by kernel_rfl) (by decide +kernel) (by decide +kernel) (Or.inl ⟨by rfl, ?_⟩) ?_
       rotate_left
       focus
         intro w' hb'
         go_simp
         with_reducible rfl
       simp only [Act.put, List.setIfInBounds_toArray, List.set_cons_zero, List.set_cons_succ])
    | (refine SeqS.take1 (v := ?_) (by first | assumption | trivial) (by kernel_rfl) (by decide +kernel) (by decide +kernel) (Or.inl ⟨by rfl, ?_⟩) ?_
       rotate_left
       focus
         intro w' hb'
         have d0 := v1.out w' hb'
         go_simp
         with_reducible rfl
       simp only [Act.put, List.setIfInBounds_toArray, List.set_cons_zero, List.set_cons_succ])
    | (refine SeqS.take1 (v := ?_) (by first | assumption | trivial) (by kernel_rfl) (by decide +kernel) (by decide +kernel) (Or.inl ⟨by rfl, ?_⟩) ?_
       rotate_left
       focus
         intro w' hb'
         have d0 := v2.out w' hb'
         go_simp
         with_reducible rfl
       simp only [Act.put, List.setIfInBounds_toArray, List.set_cons_zero, List.set_cons_succ])
    | (refine SeqS.take1 (v := undef) (by first | assumption | trivial) (by kernel_rfl) (by decide +kernel) (by decide +kernel) (Or.inr ⟨by rfl, rfl⟩) ?_
       simp only [Act.put, List.setIfInBounds_toArray, List.set_cons_zero, List.set_cons_succ])
    | (refine SeqS.take2 (v := ?_) (by first | assumption | trivial) (by kernel_rfl) (by decide +kernel) (by decide +kernel) (Or.inl ⟨by rfl, ?_⟩) ?_
       rotate_left
       focus
         intro w' hb'
         go_simp
         with_reducible rfl
       simp only [Act.put, List.setIfInBounds_toArray, List.set_cons_zero, List.set_cons_succ])
    | (refine SeqS.take2 (v := ?_) (by first | assumption | trivial) (by kernel_rfl) (by decide +kernel) (by decide +kernel) (Or.inl ⟨by rfl, ?_⟩) ?_
       rotate_left
       focus
         intro w' hb'
         have d0 := v1.out w' hb'
         go_simp
         with_reducible rfl
       simp only [Act.put, List.setIfInBounds_toArray, List.set_cons_zero, List.set_cons_succ])
    | (refine SeqS.take2 (v := ?_) (by first | assumption | trivial) (by kernel_rfl) (by decide +kernel) (by decide +kernel) (Or.inl ⟨by rfl, ?_⟩) ?_
       rotate_left
       focus
         intro w' hb'
         have d0 := v2.out w' hb'
         go_simp
         with_reducible rfl
       simp only [Act.put, List.setIfInBounds_toArray, List.set_cons_zero, List.set_cons_succ])
    | (refine SeqS.take2 (v := undef) (by first | assumption | trivial) (by kernel_rfl) (by decide +kernel) (by decide +kernel) (Or.inr ⟨by rfl, rfl⟩) ?_
       simp only [Act.put, List.setIfInBounds_toArray, List.set_cons_zero, List.set_cons_succ]))
  refine SeqS.done (by decide +kernel) ?_
  have B6 := B2H.out.trans (S6.mono B2H.out.size)
  have hP6 := I2H.out.keep S6
  have hG6 := KC.out w6 S6
  clear b3 b5 b6 S5 S6 RG RR v1 v2 KC B2H I2H
  obtain rfl := hMH.out
  go_wp2_with fail
  refine (alive16_any w6).mono ?_
  rintro q w7 ⟨rfl, b7⟩
  go_wp2
  go_ret
  exact ⟨rfl, B6.trans (b7.mono B6.size)⟩

set_option maxRecDepth 100000 in
set_option maxHeartbeats 4000000 in
theorem bkBytes_ok (H Pa : List Int) (a : Option Addr) (n c : Nat) (zs : List Int) (w : World) (hM : BlkOk ⟨H, Pa, n, zs⟩) (hI0 : IdsAt w a n c zs) (h0 : n ≤ 100) (hF : rightK ⟨H, Pa, n, zs⟩ = true) :
    Calls Try.prog 3 #[.agg (bkC H Pa a n c).toArray] w fun q w' => q = .returned (.bool true) ∧ Below w.heap.size w w' := by
  have hH : H.length = 32 := hM.1
  have hPl : Pa.length = 32 := hM.2.1
  have hzo : okB zs := hM.2.2.2.2.2
  have hCl := bkC_len (a := a) (n := n) (c := c) hH hPl
  have few := fun w' => r16Few_any H Pa a n c w' hH hPl
  have en := fun w' (h : Below w.heap.size w w') => (bkEncode_any H Pa a n c zs w' hM (hI0.keep h) (by omega)).mono fun q w'' (k : ∃ b d, q = .returned (.tuple #[.slice b (encK ⟨H, Pa, n, zs⟩).1.length d, .int .i64 (encK ⟨H, Pa, n, zs⟩).2]) ∧ Ints .u8 w'' b (encK ⟨H, Pa, n, zs⟩).1.length d (encK ⟨H, Pa, n, zs⟩).1 ∧ (∀ x, b = some x → 0 < (encK ⟨H, Pa, n, zs⟩).1.length → w'.heap.size ≤ x.block) ∧ Below w'.heap.size w' w'') => (let ⟨b, d, e, hi, _, hb⟩ := k; ⟨b, d, e, hi, hb⟩ : ∃ b d, q = .returned (.tuple #[.slice b (encK ⟨H, Pa, n, zs⟩).1.length d, .int .i64 (encK ⟨H, Pa, n, zs⟩).2]) ∧ Ints .u8 w'' b (encK ⟨H, Pa, n, zs⟩).1.length d (encK ⟨H, Pa, n, zs⟩).1 ∧ Below w'.heap.size w' w'')
  have re := fun w' (h : Below w.heap.size w w') => r16Encode_any H Pa a n c zs w' hH hPl (hI0.keep h) (by omega)
  have rg := fun w' (h : Below w.heap.size w w') => bkRight_any H Pa a n c zs w' hH hPl (hI0.keep h) hzo (by omega)
  have rr := fun w' (h : Below w.heap.size w w') => r16Right_any H Pa a n c zs w' hH hPl (hI0.keep h) (by omega)
  have cv := Lib.hid (fun (w' : World) (b : Option Addr) (k d : Nat) (zs : List Int) (h : Ints .u8 w' b k d zs) => h.string (P := Try.prog) 29 9 5 Try.underlying29 Try.underlying5 Try.underlying9)
  rw [show decide (n ≤ 100) = true from decide_eq_true h0] at few
  obtain ⟨Dc, hDc⟩ : ∃ D : Option Addr → Nat → List Value, ∀ b d, bkC H Pa b n d = D b d := ⟨_, fun _ _ => rfl⟩
  have hDl := Lib.hid (fun b d => show (Dc b d).length = 65 by rw [← hDc]; exact bkC_len hH hPl)
  have hD1 := Lib.hid (fun b d => show ∀ v ∈ Dc b d, v.oneCell' = true by rw [← hDc]; exact bkC_one _ _ _ _ _)
  have sm := fun w' b1 d1 (h : Below w.heap.size w w') (hJ : IdsAt w' b1 n d1 zs) => show Calls Try.prog 13 #[.agg (bkC H Pa a n c).toArray, .agg (Dc b1 d1).toArray] w' fun q w'' => q = .returned (.bool true) ∧ Below w'.heap.size w' w'' by
    have := r16Same_any H Pa a n c zs H Pa b1 n d1 zs w' hH hPl hH hPl (hI0.keep h) hJ (by omega)
    rw [sameK_self, hDc b1 d1] at this
    exact this
  obtain ⟨C, hC⟩ : ∃ C, bkC H Pa a n c = C := ⟨_, rfl⟩
  rw [hC] at hCl en re rg rr few sm ⊢
  have hrC : IsRow Try.prog 26 C.length := by rw [hCl]; exact rowBk
  have hb := below1 w (.cells C.toArray 26)
  have hk : Blk (w.alloc (.cells C.toArray 26)) w.heap.size 26 C := Blk.new w _ C
  obtain ⟨W, hW⟩ : ∃ V, w.alloc (.cells C.toArray 26) = V := ⟨_, rfl⟩
  rw [hW] at hb hk
  obtain ⟨G, g9⟩ : ∃ G, w.heap.size = G := ⟨_, rfl⟩
  rw [g9] at hk
  have he : encK ⟨H, Pa, n, zs⟩ = (blkB ⟨H, Pa, n, zs⟩, 0) := by unfold encK; rw [hF]; rfl
  rw [he] at en re
  rw [hF] at rg rr
  dsimp only at en re
  have d1 := dec_enc hM hF
  have d3 := dec_more hM hF 0
  have hpr := blkB_ok hM
  have hplE := blkB_len hM
  dsimp only at hplE
  have d2 := dec_less hM hF (m := 64 + 32 * n) (by omega)
  obtain ⟨P, hP⟩ : ∃ P : List Int, blkB ⟨H, Pa, n, zs⟩ = P := ⟨_, rfl⟩
  obtain ⟨M, hMM⟩ : ∃ M : Nat, P.length = M := ⟨_, rfl⟩
  rw [hP] at en re hpr hplE d1 d2 d3
  rw [hMM] at en re hplE
  have hp0 : 0 < M := by omega
  have hM1 : 64 + 32 * n = M - 1 := by omega
  rw [hM1] at d2
  have hpl : M ≤ 4000 := by omega
  have pd1 := fun w' b d (h : Ints .u8 w' b M d P) => bkDecode_any b M d P w' h hpr (by omega)
  have pd2 := fun w' b d (h : Ints .u8 w' b (M - 1) d (P.take (M - 1))) => bkDecode_any b (M - 1) d (P.take (M - 1)) w' h (fun x hx => hpr x (List.mem_of_mem_take hx)) (by omega)
  have pd3 := fun w' b d (h : Ints .u8 w' b (M + 1) d (P ++ [0])) => bkDecode_any b (M + 1) d (P ++ [0]) w' h (fun x hx => by
    rcases List.mem_append.1 hx with hx | hx
    · exact hpr x hx
    · obtain rfl := List.mem_singleton.1 hx
      exact ⟨by decide, by decide⟩) (by omega)
  unfold DecEndB bC at pd1 pd2 pd3
  rw [d1] at pd1
  rw [d2] at pd2
  rw [d3] at pd3
  dsimp only at pd1
  simp only [hDc] at pd1
  obtain ⟨Z, hZ⟩ : ∃ Z : Option Addr → Nat → List Value, ∀ b d, bkC noBlk.hash noBlk.parent b noBlk.n d = Z b d := ⟨_, fun _ _ => rfl⟩
  have hZl : ∀ b d, (Z b d).length = 65 := fun b d => by rw [← hZ]; exact bkC_len rfl rfl
  have hZ1 : ∀ b d, ∀ v ∈ Z b d, v.oneCell' = true := fun b d => by rw [← hZ]; exact bkC_one _ _ _ _ _
  have pd2' : ∀ w' b d, Ints .u8 w' b (M - 1) d (P.take (M - 1)) → Calls Try.prog 12 #[.slice b (M - 1) d] w' fun q w2 => ∃ b2 d2, q = .returned (.tuple #[.agg (Z b2 d2).toArray, .int .i64 2]) ∧ Below w'.heap.size w' w2 := fun w' b d h => (pd2 w' b d h).mono fun q w2 ⟨b2, d2, h1, _, _, h4⟩ => ⟨b2, d2, by rw [h1, ← hZ], h4⟩
  have pd3' : ∀ w' b d, Ints .u8 w' b (M + 1) d (P ++ [0]) → Calls Try.prog 12 #[.slice b (M + 1) d] w' fun q w2 => ∃ b2 d2, q = .returned (.tuple #[.agg (Z b2 d2).toArray, .int .i64 3]) ∧ Below w'.heap.size w' w2 := fun w' b d h => (pd3 w' b d h).mono fun q w2 ⟨b2, d2, h1, _, _, h4⟩ => ⟨b2, d2, by rw [h1, ← hZ], h4⟩
  have pd1H := Lib.hid pd1
  have pd2H := Lib.hid pd2'
  have pd3H := Lib.hid pd3'
  have fewH := Lib.hid few
  have enH := Lib.hid en
  have reH := Lib.hid re
  have rgH := Lib.hid rg
  have rrH := Lib.hid rr
  have smH := Lib.hid sm
  have hpH := Lib.hid (And.intro hpl hp0)
  obtain ⟨i0, hi, hz0, hz1, hz2⟩ := info_u8b
  obtain ⟨Z9, hZ9⟩ : ∃ Z, bkC z32 z32 none 0 0 = Z := ⟨_, rfl⟩
  have hZ0 : Zero Try.prog 26 Z9 := by rw [← hZ9]; exact zeroBk
  have hZ9l : Z9.length = 65 := by rw [← hZ9]; exact bkC_len rfl rfl
  clear few en re rg rr he hF h0 hM hI0 hP hzo d1 d2 d3 hpr hpl hp0 pd1 pd2 pd3 pd2' pd3' hZ sm hMM hC hDc hM1 hZ9 hplE
  go_enter Try.func3, Try.ntmps3
  go_wp2_with ((with_reducible refine box_row rfl 26 (.tmp 0) rfl C ?_ ?_); rfl; refine RowKit.Hid.out ?_)
  refine Lib.hid ?_
  clear hW
  go_wp2_with ((with_reducible refine wpList_load_blk rfl 26 (.tmp 1) rfl ?_ hk rowBk hCl ?_); rfl)
  refine (fewH.out W).mono ?_
  rintro q w0 ⟨rfl, b0⟩
  have hk := hk.keep b0 hk.lt
  have hb := hb.trans (b0.mono hb.size)
  clear fewH b0
  go_wp2_with ((with_reducible refine wpList_load_blk rfl 26 (.tmp 1) rfl ?_ hk rowBk hCl ?_); rfl)
  refine (enH.out w0 hb).mono ?_
  rintro q w1 ⟨b, d, rfl, hI, b1⟩
  have hk1 := hk.keep b1 hk.lt
  have B1 := hb.trans (b1.mono hb.size)
  clear hk hb enH b1
  go_wp2_with ((with_reducible refine wpList_load_blk rfl 26 (.tmp 1) rfl ?_ hk1 rowBk hCl ?_); rfl)
  refine (reH.out w1 B1).mono ?_
  rintro q w2 ⟨b', d', rfl, hI', b2⟩
  have hk2 := hk1.keep b2 hk1.lt
  have hI2 := hI.keep b2
  have B2 := B1.trans (b2.mono B1.size)
  clear hk1 hI B1 b2 reH
  go_wp2_with fail
  have b3 : Below w2.heap.size w2 w2.drew := (Below.refl _ _).drew
  have KC := Lib.hid (fun w' (h : Below w2.heap.size w2 w') => hk2.keep h hk2.lt)
  have RG := Lib.hid (fun w' (h : Below w2.heap.size w2 w') => rgH.out w' (B2.trans (h.mono B2.size)))
  have RR := Lib.hid (fun w' (h : Below w2.heap.size w2 w') => rrH.out w' (B2.trans (h.mono B2.size)))
  have v1 := Lib.hid (fun w' (h : Below w2.heap.size w2 w') => cv.out w' b M d P (hI2.keep h))
  have v2 := Lib.hid (fun w' (h : Below w2.heap.size w2 w') => cv.out w' b' M d' P (hI'.keep h))
  have B2H := Lib.hid B2
  have I2H := Lib.hid hI2
  clear rgH rrH hI' B2 hk2 hI2
  refine region_seqS (fun w' => Below w2.heap.size w2 w') (by kernel_rfl) b3 ?_
  simp only [pairs, Nat.reduceAdd]
  repeat (first
    | (refine SeqS.take (v := .agg (C).toArray) (by first | assumption | trivial) (by kernel_rfl) (by decide +kernel) (by decide +kernel) (yields_blk (by rfl) 26 (.tmp 1) rfl rfl (fun w' h => KC.out w' h) (hrC)) ?_
       simp only [Act.put, List.setIfInBounds_toArray, List.set_cons_zero, List.set_cons_succ])
    | (refine SeqS.take (v := ?_) (by first | assumption | trivial) (by kernel_rfl) (by decide +kernel) (by decide +kernel) (Or.inl ⟨by rfl, ?_⟩) ?_
       rotate_left
       focus
         intro w' hb'
         go_simp
         with_reducible rfl
       simp only [Act.put, List.setIfInBounds_toArray, List.set_cons_zero, List.set_cons_succ])
    | (refine SeqS.take (v := undef) (by first | assumption | trivial) (by kernel_rfl) (by decide +kernel) (by decide +kernel) (Or.inr ⟨by rfl, rfl⟩) ?_
       simp only [Act.put, List.setIfInBounds_toArray, List.set_cons_zero, List.set_cons_succ])
    | (refine SeqS.take1 (v := .agg (C).toArray) (by first | assumption | trivial) (by kernel_rfl) (by decide +kernel) (by decide +kernel) (yields_blk (by rfl) 26 (.tmp 1) rfl rfl (fun w' h => KC.out w' h) (hrC)) ?_
       simp only [Act.put, List.setIfInBounds_toArray, List.set_cons_zero, List.set_cons_succ])
    | (refine SeqS.take1 (v := ?_) (by first | assumption | trivial) (by kernel_rfl) (by decide +kernel) (by decide +kernel) (Or.inl ⟨by rfl, ?_⟩) ?_
       rotate_left
       focus
         intro w' hb'
         go_simp
         with_reducible rfl
       simp only [Act.put, List.setIfInBounds_toArray, List.set_cons_zero, List.set_cons_succ])
    | (refine SeqS.take1 (v := undef) (by first | assumption | trivial) (by kernel_rfl) (by decide +kernel) (by decide +kernel) (Or.inr ⟨by rfl, rfl⟩) ?_
       simp only [Act.put, List.setIfInBounds_toArray, List.set_cons_zero, List.set_cons_succ])
    | (refine SeqS.take2 (v := .agg (C).toArray) (by first | assumption | trivial) (by kernel_rfl) (by decide +kernel) (by decide +kernel) (yields_blk (by rfl) 26 (.tmp 1) rfl rfl (fun w' h => KC.out w' h) (hrC)) ?_
       simp only [Act.put, List.setIfInBounds_toArray, List.set_cons_zero, List.set_cons_succ])
    | (refine SeqS.take2 (v := ?_) (by first | assumption | trivial) (by kernel_rfl) (by decide +kernel) (by decide +kernel) (Or.inl ⟨by rfl, ?_⟩) ?_
       rotate_left
       focus
         intro w' hb'
         go_simp
         with_reducible rfl
       simp only [Act.put, List.setIfInBounds_toArray, List.set_cons_zero, List.set_cons_succ])
    | (refine SeqS.take2 (v := undef) (by first | assumption | trivial) (by kernel_rfl) (by decide +kernel) (by decide +kernel) (Or.inr ⟨by rfl, rfl⟩) ?_
       simp only [Act.put, List.setIfInBounds_toArray, List.set_cons_zero, List.set_cons_succ]))
  refine SeqS.alone (by decide +kernel) (by rfl) (fun K hK => ?_)
  go_simp
  go_at_call 10
  refine (RG.out _ b3).mono ?_
  rintro e w5 ⟨rfl, b5⟩
  go_simp
  have S5 : Below w2.heap.size w2 w5 := b3.trans (b5.mono b3.size)
  refine hK _ _ S5 ?_
  clear hK K
  refine SeqS.alone (by decide +kernel) (by rfl) (fun K hK => ?_)
  go_simp
  go_at_call 11
  refine (RR.out _ S5).mono ?_
  rintro e w6 ⟨rfl, b6⟩
  go_simp
  have S6 : Below w2.heap.size w2 w6 := S5.trans (b6.mono S5.size)
  refine hK _ _ S6 ?_
  clear hK K
  repeat (first
    | (refine SeqS.take (v := ?_) (by first | assumption | trivial) (by kernel_rfl) (by decide +kernel) (by decide +kernel) (Or.inl ⟨by rfl, ?_⟩) ?_
       rotate_left
       focus
         intro w' hb'
         go_simp
         with_reducible rfl
       simp only [Act.put, List.setIfInBounds_toArray, List.set_cons_zero, List.set_cons_succ])
    | (refine SeqS.take (v := ?_) (by first | assumption | trivial) (by kernel_rfl) (by decide +kernel) (by decide +kernel) (Or.inl ⟨by rfl, ?_⟩) ?_
       rotate_left
       focus
         intro w' hb'
         have d0 := v1.out w' hb'
         go_simp
         with_reducible rfl
       simp only [Act.put, List.setIfInBounds_toArray, List.set_cons_zero, List.set_cons_succ])
    | (refine SeqS.take (v := ?_) (by first | assumption | trivial) (by kernel_rfl) (by decide +kernel) (by decide +kernel) (Or.inl ⟨by rfl, ?_⟩) ?_
       rotate_left
       focus
         intro w' hb'
         have d0 := v2.out w' hb'
         go_simp
         with_reducible rfl
       simp only [Act.put, List.setIfInBounds_toArray, List.set_cons_zero, List.set_cons_succ])
    | (refine SeqS.take (v := undef) (by first | assumption | trivial) (by kernel_rfl) (by decide +kernel) (by decide +kernel) (Or.inr ⟨by rfl, rfl⟩) ?_
       simp only [Act.put, List.setIfInBounds_toArray, List.set_cons_zero, List.set_cons_succ])
    | (refine SeqS.take1 (v := ?_) (by first | assumption | trivial) (by kernel_rfl) (by decide +kernel) (by decide +kernel) (Or.inl ⟨by rfl, ?_⟩) ?_
       rotate_left
       focus
         intro w' hb'
         go_simp
         with_reducible rfl
       simp only [Act.put, List.setIfInBounds_toArray, List.set_cons_zero, List.set_cons_succ])
    | (refine SeqS.take1 (v := ?_) (by first | assumption | trivial) (by kernel_rfl) (by decide +kernel) (by decide +kernel) (Or.inl ⟨by rfl, ?_⟩) ?_
       rotate_left
       focus
         intro w' hb'
         have d0 := v1.out w' hb'
         go_simp
         with_reducible rfl
       simp only [Act.put, List.setIfInBounds_toArray, List.set_cons_zero, List.set_cons_succ])
    | (refine SeqS.take1 (v := ?_) (by first | assumption | trivial) (by kernel_rfl) (by decide +kernel) (by decide +kernel) (Or.inl ⟨by rfl, ?_⟩) ?_
       rotate_left
       focus
         intro w' hb'
         have d0 := v2.out w' hb'
         go_simp
         with_reducible rfl
       simp only [Act.put, List.setIfInBounds_toArray, List.set_cons_zero, List.set_cons_succ])
    | (refine SeqS.take1 (v := undef) (by first | assumption | trivial) (by kernel_rfl) (by decide +kernel) (by decide +kernel) (Or.inr ⟨by rfl, rfl⟩) ?_
       simp only [Act.put, List.setIfInBounds_toArray, List.set_cons_zero, List.set_cons_succ])
    | (refine SeqS.take2 (v := ?_) (by first | assumption | trivial) (by kernel_rfl) (by decide +kernel) (by decide +kernel) (Or.inl ⟨by rfl, ?_⟩) ?_
       rotate_left
       focus
         intro w' hb'
         go_simp
         with_reducible rfl
       simp only [Act.put, List.setIfInBounds_toArray, List.set_cons_zero, List.set_cons_succ])
    | (refine SeqS.take2 (v := ?_) (by first | assumption | trivial) (by kernel_rfl) (by decide +kernel) (by decide +kernel) (Or.inl ⟨by rfl, ?_⟩) ?_
       rotate_left
       focus
         intro w' hb'
         have d0 := v1.out w' hb'
         go_simp
         with_reducible rfl
       simp only [Act.put, List.setIfInBounds_toArray, List.set_cons_zero, List.set_cons_succ])
    | (refine SeqS.take2 (v := ?_) (by first | assumption | trivial) (by kernel_rfl) (by decide +kernel) (by decide +kernel) (Or.inl ⟨by rfl, ?_⟩) ?_
       rotate_left
       focus
         intro w' hb'
         have d0 := v2.out w' hb'
         go_simp
         with_reducible rfl
       simp only [Act.put, List.setIfInBounds_toArray, List.set_cons_zero, List.set_cons_succ])
    | (refine SeqS.take2 (v := undef) (by first | assumption | trivial) (by kernel_rfl) (by decide +kernel) (by decide +kernel) (Or.inr ⟨by rfl, rfl⟩) ?_
       simp only [Act.put, List.setIfInBounds_toArray, List.set_cons_zero, List.set_cons_succ]))
  refine SeqS.done (by decide +kernel) ?_
  have B6 := B2H.out.trans (S6.mono B2H.out.size)
  have hP6 := I2H.out.keep S6
  have hG6 := KC.out w6 S6
  clear b3 b5 b6 S5 S6 RG RR v1 v2 KC B2H I2H
  obtain ⟨hpl, hp0⟩ := hpH.out
  obtain ⟨g, off, rfl, _⟩ := hP6.at hp0
  have hKd := hP6.2.1
  have hsl := fun wx => run_cutTo16 (P := Try.prog) 29 5 Try.underlying29 sizeU8s wx g off M d .i64 (M - 1) (by omega)
  rw [show ((M - 1 : Nat) : Int) = (M : Int) - 1 by omega] at hsl
  have hK1 : 1 ≤ (M : Int) := by omega
  have hK2 : (M : Int) ≤ 4000 := by omega
  have hnPH := Lib.hid hpl
  clear hpH hpl hp0 hKd
  have p1 := Lib.hid (pd1H.out w6 _ _ hP6)
  have hPin := hP6.isIn.2
  have hPg : g < w6.heap.size := hPin _ rfl (by have := hnPH.out; omega)
  clear hPin
  go_wp2_with fail
  refine p1.out.mono ?_
  rintro q w7 ⟨u, ud, rfl, hQ7, hQlow, b7⟩
  have hG7 := hG6.keep b7 hG6.lt
  have hP7 := hP6.keep b7
  have B7 := B6.trans (b7.mono B6.size)
  have hl1 := hDl.out u ud
  have ho1 := hD1.out u ud
  obtain ⟨C1, hC1⟩ : ∃ C, Dc u ud = C := ⟨_, rfl⟩
  rw [hC1] at hl1 ho1
  have hC1H := Lib.hid hC1
  have hw67 := b7.size
  clear p1 hG6 hP6 B6 b7
  go_wp2_with ((with_reducible refine wpList_alloc_blk rfl 26 rfl hZ0 ?_); refine RowKit.Hid.out ?_)
  refine Lib.hid ?_
  try simp only [Act.put, List.setIfInBounds_toArray, List.set_cons_zero, List.set_cons_succ]
  try simp only [hC1]
  clear hC1
  have hNA := Blk.new w7 26 Z9
  have bA := below1 w7 (.cells Z9.toArray 26)
  have hGA := hG7.keep bA hG7.lt
  have hPA := hP7.keep bA
  have hQA := hQ7.keep bA
  have BA := B7.trans (bA.mono B7.size)
  have hPn := hP7.isIn.2
  have hQn := hQ7.isIn
  have hGn := hG7.lt
  obtain ⟨N, hN⟩ : ∃ N, w7.heap.size = N := ⟨_, rfl⟩
  rw [hN] at hNA hPn hQn hGn ⊢
  obtain ⟨U, hU⟩ : ∃ W, w7.alloc (.cells Z9.toArray 26) = W := ⟨_, rfl⟩
  rw [hU] at hNA hGA hPA hQA BA ⊢
  have hwN := B7.size
  rw [hN] at hwN
  clear hG7 hP7 hQ7 B7 bA hN hU
  refine store_row rfl 26 (.tmp 7) (.tmp 56) rfl rfl rfl hNA rowBk hl1 hZ9l ho1 ?_
  intro w8 hN8 hg8
  have hG8 := hGA.grown hg8 (fun e => by injection e with e; omega)
  have hP8 := hPA.grown hg8 (fun x hx h0 => by have := hPn x hx h0; omega)
  have hQ8 := hQA.grownR hg8 (fun x hx h0 e => by injection e with e; have := hQn x hx h0; omega)
  have B8 := BA.grown hg8 BA.size (fun q hq => by injection hq with hq; omega)
  clear hNA hGA hPA hQA BA hg8 hPn hQn hwN hPg hQlow hw67
  have p2 := Lib.hid (pd2H.out w8 (some ⟨g, off, none⟩) d (hP8.short16 (M - 1) (by omega)))
  clear pd2H
  go_wp2_with fail
  refine p2.out.mono ?_
  rintro q w9 ⟨u2, e2, rfl, b9⟩
  have hG9 := hG8.keep b9 hG8.lt
  have hP9 := hP8.keep b9
  have hQ9 := hQ8.keep b9
  have hN9 := hN8.keep b9 hN8.lt
  have B9 := B8.trans (b9.mono B8.size)
  have hZl2 := hZl u2 e2
  have hZ12 := hZ1 u2 e2
  clear p2 hG8 hP8 hQ8 hN8 B8 b9 hsl
  go_wp2_with ((with_reducible refine wpList_alloc_blk rfl 26 rfl hZ0 ?_); refine RowKit.Hid.out ?_)
  refine Lib.hid ?_
  try simp only [Act.put, List.setIfInBounds_toArray, List.set_cons_zero, List.set_cons_succ]
  have hmA := Blk.new w9 26 Z9
  have bA := below1 w9 (.cells Z9.toArray 26)
  have hGA := hG9.keep bA hG9.lt
  have hPA := hP9.keep bA
  have hQA := hQ9.keep bA
  have hNA := hN9.keep bA hN9.lt
  have BA := B9.trans (bA.mono B9.size)
  have hPn := hP9.isIn.2
  have hQn := hQ9.isIn
  have hGn2 := hG9.lt
  have hNn := hN9.lt
  obtain ⟨N2, hN2⟩ : ∃ N, w9.heap.size = N := ⟨_, rfl⟩
  rw [hN2] at hmA hPn hQn hGn2 hNn ⊢
  obtain ⟨U, hU⟩ : ∃ W, w9.alloc (.cells Z9.toArray 26) = W := ⟨_, rfl⟩
  rw [hU] at hmA hNA hGA hPA hQA BA ⊢
  have hwN := B9.size
  rw [hN2] at hwN
  clear hG9 hP9 hQ9 hN9 B9 bA hN2 hU
  refine store_row rfl 26 (.tmp 9) (.tmp 65) rfl rfl rfl hmA rowBk hZl2 hZ9l hZ12 ?_
  intro w10 _ hg10
  have hG10 := hGA.grown hg10 (fun e => by injection e with e; omega)
  have hN10 := hNA.grown hg10 (fun e => by injection e with e; omega)
  have hP10 := hPA.grown hg10 (fun x hx h0 => by have := hPn x hx h0; omega)
  have hQ10 := hQA.grownR hg10 (fun x hx h0 e => by injection e with e; have := hQn x hx h0; omega)
  have B10 := BA.grown hg10 BA.size (fun q hq => by injection hq with hq; omega)
  clear hmA hNA hGA hPA hQA BA hg10 hPn hQn hwN hZl2 hZ12 hGn2 hNn
  have bE := below1 w10 (.cells #[] 5)
  have hPE := Lib.hid (hP10.keep bE)
  have hGE := hG10.keep bE hG10.lt
  have hNE := hN10.keep bE hN10.lt
  have hQE := hQ10.keep bE
  have BE := B10.trans (bE.mono B10.size)
  have ownE := World.ownsRow_made (e := 5) (size := 1) w10 #[] 0 (Nat.le_refl _) (Nat.zero_le _) rfl
  have hEs : w10.heap.size ≤ (w10.alloc (.cells #[] 5)).heap.size := by rw [size1]; omega
  have hGr := Lib.hid hG10.lt
  have hNr := Lib.hid hN10.lt
  have hQr := Lib.hid hQ10.isIn
  have hwr := Lib.hid B10.size
  obtain ⟨R0, hR0⟩ : ∃ N, w10.heap.size = N := ⟨_, rfl⟩
  obtain ⟨wE, hwE⟩ : ∃ W, w10.alloc (.cells #[] 5) = W := ⟨_, rfl⟩
  rw [hwE] at hPE hGE hNE hQE BE ownE hEs
  rw [hR0] at ownE hEs hGr hNr hQr hwr
  clear hP10 hG10 hN10 hQ10 B10 bE
  go_wp2_with (at_builtin; refine wpList_append_ints rfl (.tmp 67) (.tmp 68) 29 rfl R0 5 i0 (.int .u8 0) 1 Try.underlying29 hi hz0 hz1 hz2 rfl rfl ownE rfl hPE.out ?_ ?_ hEs ?_; (have := hnPH.out; unfold maxLen; omega); (have := hnPH.out; omega); intro v11 w11 o11 g11; refine RowKit.Hid.out ?_)
  refine Lib.hid ?_
  rw [List.nil_append, Nat.zero_add] at o11
  have nb : ∀ k, k < R0 → some k ≠ (Value.slice (some ⟨R0, 0, none⟩) 0 0).ownBlock := fun k hk e => by injection e with e; have e : k = R0 := e; omega
  have hG11 := hGE.grown g11 (nb G hGr.out)
  have hN11 := hNE.grown g11 (nb N hNr.out)
  have hQ11 : IdsAt w11 u n ud zs := hQE.grownR g11 (fun x hx h0 => nb _ (hQr.out x hx h0))
  have B11 := BE.grown g11 BE.size (fun q hq => by injection hq with hq; have hq : R0 = q := hq; have := hwr.out; omega)
  have hR11 : R0 ≤ w11.heap.size := Nat.le_trans hEs g11.size
  clear hPE hGE hNE hQE BE ownE hEs g11 nb hwE
  have b12 := below1 w11 (.cells #[.int .u8 0] 5)
  have hG12 := hG11.keep b12 hG11.lt
  have hN12 := hN11.keep b12 hN11.lt
  have hQ12 := hQ11.keep b12
  have B12 := B11.trans (b12.mono B11.size)
  have o12 := o11.alloc (.cells #[.int .u8 0] 5)
  have I12 := Lib.hid (ints_made16 w11 0)
  have hRs : R0 ≤ (w11.alloc (.cells #[.int .u8 0] 5)).heap.size := Nat.le_trans hR11 b12.size
  obtain ⟨wF, hwF⟩ : ∃ W, w11.alloc (.cells #[.int .u8 0] 5) = W := ⟨_, rfl⟩
  rw [hwF] at hG12 hN12 hQ12 B12 o12 I12 hRs
  clear o11 hG11 hN11 hQ11 B11 b12
  go_wp2_with (at_builtin; refine wpList_append_ints rfl (.tmp 70) (.tmp 71) 29 rfl R0 5 i0 (.int .u8 0) 1 Try.underlying29 hi hz0 hz1 hz2 rfl rfl o12 rfl I12.out ?_ ?_ hRs ?_; (have := hnPH.out; unfold maxLen; omega); (have := hnPH.out; omega); intro v13 w13 o13 g13; refine RowKit.Hid.out ?_)
  refine Lib.hid ?_
  have hG13 := hG12.grown g13 (fun e => by have := (o12.lt G e.symm).1; have := hGr.out; omega)
  have hN13 := hN12.grown g13 (fun e => by have := (o12.lt N e.symm).1; have := hNr.out; omega)
  have hQ13 := hQ12.grownR g13 (fun x hx h0 e => by have := (o12.lt _ e.symm).1; have := hQr.out x hx h0; omega)
  have B13 := B12.grown g13 B12.size (fun q hq => Nat.le_trans hwr.out (o12.lt q hq).1)
  have hI13 : ∃ oa oc, v13 = .slice oa (M + 1) oc ∧ Ints .u8 w13 oa (M + 1) oc (P ++ [0]) := by
    obtain ⟨a', c', hv, hi⟩ := Ints.of_owns (xs := P ++ [0]) (by rw [List.map_append]; exact o13)
    exact ⟨a', c', hv, hi⟩
  obtain ⟨ma, mc, hv13, hI13⟩ := hI13
  rw [hv13]
  have p3 := Lib.hid (pd3H.out w13 ma mc hI13)
  clear pd3H hG12 hN12 hQ12 B12 o12 I12 hRs o13 g13 hv13 hI13 hwF hR11
  go_wp2_with fail
  refine p3.out.mono ?_
  rintro q w14 ⟨u3, e3, rfl, b14⟩
  have hG14 := hG13.keep b14 hG13.lt
  have hN14 := hN13.keep b14 hN13.lt
  have hQ14 := hQ13.keep b14
  have B14 := B13.trans (b14.mono B13.size)
  have hZl3 := hZl u3 e3
  have hZ13 := hZ1 u3 e3
  clear p3 hG13 hN13 hQ13 B13 b14
  go_wp2_with ((with_reducible refine wpList_alloc_blk rfl 26 rfl hZ0 ?_); refine RowKit.Hid.out ?_)
  refine Lib.hid ?_
  try simp only [Act.put, List.setIfInBounds_toArray, List.set_cons_zero, List.set_cons_succ]
  have hmA := Blk.new w14 26 Z9
  have bA := below1 w14 (.cells Z9.toArray 26)
  have hGA := hG14.keep bA hG14.lt
  have hNA := hN14.keep bA hN14.lt
  have hQA := hQ14.keep bA
  have BA := B14.trans (bA.mono B14.size)
  have hQn := hQ14.isIn
  have hGn3 := hG14.lt
  have hNn := hN14.lt
  obtain ⟨N3, hN3⟩ : ∃ N, w14.heap.size = N := ⟨_, rfl⟩
  rw [hN3] at hmA hQn hGn3 hNn ⊢
  obtain ⟨U3, hU⟩ : ∃ W, w14.alloc (.cells Z9.toArray 26) = W := ⟨_, rfl⟩
  rw [hU] at hmA hNA hGA hQA BA ⊢
  have hwN := B14.size
  rw [hN3] at hwN
  clear hG14 hQ14 hN14 B14 bA hN3 hU
  refine store_row rfl 26 (.tmp 12) (.tmp 76) rfl rfl rfl hmA rowBk hZl3 hZ9l hZ13 ?_
  intro w15 _ hg15
  have hG15 := hGA.grown hg15 (fun e => by injection e with e; omega)
  have hN15 := hNA.grown hg15 (fun e => by injection e with e; omega)
  have hQ15 := hQA.grownR hg15 (fun x hx h0 e => by injection e with e; have := hQn x hx h0; omega)
  have B15 := BA.grown hg15 BA.size (fun q hq => by injection hq with hq; omega)
  have sm := Lib.hid (smH.out w15 u ud B15 hQ15)
  rw [hC1H.out] at sm
  clear hmA hNA hGA hQA BA hg15 hQn hwN hGn3 hNn smH hZl hZ1 hZl3 hZ13 hQ15
  go_wp2_with (first
    | ((with_reducible refine load_if rfl 26 (.tmp 1) rfl ?_ hG15 rowBk hCl ?_); rfl)
    | ((with_reducible refine load_if rfl 26 (.tmp 7) rfl ?_ hN15 rowBk hl1 ?_); rfl))
  refine sm.out.mono ?_
  rintro q w16 ⟨rfl, b16⟩
  have B16 := B15.trans (b16.mono B15.size)
  clear sm hG15 hN15 B15 b16
  go_wp2_with fail
  refine (alive16_any w16).mono ?_
  rintro q w17 ⟨rfl, b17⟩
  go_wp2
  go_ret
  exact ⟨by first | rfl | simp, B16.trans (b17.mono B16.size)⟩


theorem bkBytes_any (H Pa : List Int) (a : Option Addr) (n c : Nat) (zs : List Int) (w : World) (hM : BlkOk ⟨H, Pa, n, zs⟩) (hI : IdsAt w a n c zs) :
    Calls Try.prog 3 #[.agg (bkC H Pa a n c).toArray] w fun q w' => q = .returned (.bool true) ∧ Below w.heap.size w w' := by
  by_cases hn : 100 < n
  · exact bkBytes_many H Pa a n c zs w hM hn
  · cases hF : rightK ⟨H, Pa, n, zs⟩ with
    | false => exact bkBytes_no H Pa a n c zs w hM hI (by omega) hF
    | true => exact bkBytes_ok H Pa a n c zs w hM hI (by omega) hF
end Go.Proofs.Ytndodckcncejiaa

/-
  The law BlockAsks, by what the program's blocks and the document's own come to. New memory alone is written. Conditions: the fields' ranges.
-/
namespace Go.Proofs.Ytndodckcncejiaa
open Go.RowKit

/-- Ids in a block of their own, whatever they are: the first byte of each. -/
def Bym (w : World) (a : Option Addr) (n c : Nat) : Prop := n ≤ c ∧ (n = 0 ∨ ∃ g cs, a = some ⟨g, 0, none⟩ ∧ Blk w g 23 cs ∧ ∀ i, i < n → ∃ v, cs[i * 32]? = some (.int .u8 v))
/-- The block of a slice that has ids. -/
def Atm (a : Option Addr) (n : Nat) (b : Nat) : Prop := 0 < n ∧ ∃ x, a = some x ∧ x.block = b
theorem Bym.of_owns {w : World} {B : Nat} {a : Option Addr} {n c : Nat} {xs : List Int} (h : w.ownsRow B 23 32 (.slice a n c) n (xs.map (Value.int .u8))) : Bym w a n c := by
  have hl : xs.length = n * 32 := by have := h.1; rw [List.length_map] at this; omega
  rcases h.2 with ⟨hv, hn⟩ | ⟨g, cap, cur, hv, _, hg, hnc, hsz, hcur, htk⟩
  · injection hv with _ _ h3
    exact ⟨by omega, .inl hn⟩
  · injection hv with h1 _ h3
    refine ⟨by omega, .inr ⟨g, cur.toList, h1, by simpa [Blk] using hg, fun i hi => ⟨xs.getD (i * 32) 0, ?_⟩⟩⟩
    rw [← List.getElem?_take_of_lt (show i * 32 < n * 32 by omega), htk]
    exact getElem?_mapInt .u8 xs (i * 32) (by omega)
theorem Bym.inc {w : World} {a : Option Addr} {n c : Nat} (h : Bym w a n c) (j : Nat) (hj : j < n) : ∃ g v, a = some ⟨g, 0, none⟩ ∧ w.cell? ⟨g, j * 32, none⟩ = some (.int .u8 v) ∧ w.frozen? ⟨g, j * 32, none⟩ = false ∧ ∀ u, Bym (w.setCell ⟨g, j * 32, none⟩ (.int .u8 u)) a n c ∧ Moved (Atm a n) w (w.setCell ⟨g, j * 32, none⟩ (.int .u8 u)) := by
  rcases h.2 with h0 | ⟨g, cs, ha, hb, hv⟩
  · omega
  · obtain ⟨v, hvj⟩ := hv j hj
    refine ⟨g, v, ha, (hb.cell (j * 32)).trans hvj, hb.frozen (j * 32), fun u => ⟨⟨h.1, .inr ⟨g, _, ha, hb.set (j * 32) _, fun i hi => ?_⟩⟩, moved_set ⟨by omega, _, ha, rfl⟩ (grown_setCell w g (j * 32) _)⟩⟩
    by_cases e : i = j
    · subst e
      exact ⟨u, by rw [List.getElem?_set_self (List.getElem?_eq_some_iff.1 hvj).1]⟩
    · obtain ⟨x, hx⟩ := hv i hi
      exact ⟨x, by rw [List.getElem?_set_ne (fun h => e (by omega))]; exact hx⟩
theorem Bym.grown {w w' : World} {a : Option Addr} {n c : Nat} {row : Option Nat} (h : Bym w a n c) (hg : w.grownBy w' row) (hne : ∀ b, Atm a n b → some b ≠ row) : Bym w' a n c := by
  refine ⟨h.1, ?_⟩
  rcases h.2 with h0 | ⟨g, cs, ha, hb, hv⟩
  · exact .inl h0
  · by_cases h0 : n = 0
    · exact .inl h0
    · exact .inr ⟨g, cs, ha, hb.grown hg (hne g ⟨by omega, _, ha, rfl⟩), hv⟩
theorem Bym.keep {w w' : World} {a : Option Addr} {n c : Nat} (h : Bym w a n c) (hb : Below w.heap.size w w') : Bym w' a n c := by
  refine ⟨h.1, ?_⟩
  rcases h.2 with h0 | ⟨g, cs, ha, hk, hv⟩
  · exact .inl h0
  · exact .inr ⟨g, cs, ha, hk.keep hb hk.lt, hv⟩

set_option maxRecDepth 100000 in
set_option maxHeartbeats 8000000 in
theorem bkAsks_few (H P : List Int) (a : Option Addr) (n c : Nat) (zs : List Int) (H' P' : List Int) (a' : Option Addr) (n' c' : Nat) (ys : List Int) (A : Nat) (w : World) (hM : BlkOk ⟨H, P, n, zs⟩) (hM' : BlkOk ⟨H', P', n', ys⟩) (hn : 100 < n ∨ 100 < n') :
    Calls Try.prog 5 #[.agg (bkC H P a n c).toArray, .agg (bkC H' P' a' n' c').toArray, .int .u8 (A : Int)] w fun q w' => q = .returned (.bool true) ∧ Below w.heap.size w w' := by
  have hH : H.length = 32 := hM.1
  have hP : P.length = 32 := hM.2.1
  have hH' : H'.length = 32 := hM'.1
  have hP' : P'.length = 32 := hM'.2.1
  have hCl := bkC_len (a := a) (n := n) (c := c) hH hP
  have hDl := bkC_len (a := a') (n := n') (c := c') hH' hP'
  have f1 := fun w' => r16Few_any H P a n c w' hH hP
  have f2 := fun w' => r16Few_any H' P' a' n' c' w' hH' hP'
  obtain ⟨C, hC⟩ : ∃ C, bkC H P a n c = C := ⟨_, rfl⟩
  obtain ⟨D, hD⟩ : ∃ C, bkC H' P' a' n' c' = C := ⟨_, rfl⟩
  rw [hC] at hCl f1
  rw [hD] at hDl f2
  rw [hC, hD]
  have hb := below2 w (.cells C.toArray 26) (.cells D.toArray 26)
  have hk : Blk ((w.alloc (.cells C.toArray 26)).alloc (.cells D.toArray 26)) w.heap.size 26 C := (Blk.new w _ C).alloc _
  have hk2 : Blk ((w.alloc (.cells C.toArray 26)).alloc (.cells D.toArray 26)) (w.heap.size + 1) 26 D := Blk.new1 w _ _ _
  obtain ⟨V, hV⟩ : ∃ V, (w.alloc (.cells C.toArray 26)).alloc (.cells D.toArray 26) = V := ⟨_, rfl⟩
  rw [hV] at hb hk hk2
  obtain ⟨G, g9⟩ : ∃ G, w.heap.size = G := ⟨_, rfl⟩
  rw [g9] at hk hk2
  clear hC hD hM hM' hH hP hH' hP'
  by_cases h1 : n ≤ 100
  · rw [show decide (n ≤ 100) = true from decide_eq_true h1] at f1
    rw [show decide (n' ≤ 100) = false from decide_eq_false (by omega)] at f2
    have fw1 := Lib.hid f1
    have fw2 := Lib.hid f2
    clear f1 f2 hn h1
    go_enter Try.func5, Try.ntmps5
    go_wp2_with (first
      | ((with_reducible refine box_row rfl 26 (.tmp 0) rfl C ?_ ?_); rfl)
      | ((with_reducible refine box_row rfl 26 (.tmp 1) rfl D ?_ ?_); rfl; refine RowKit.Hid.out ?_))
    refine Lib.hid ?_
    clear hV
    go_wp2_with ((with_reducible refine wpList_load_blk rfl 26 (.tmp 3) rfl ?_ hk rowBk hCl ?_); rfl)
    refine (fw1.out V).mono ?_
    rintro q w1 ⟨rfl, b1⟩
    have hk := hk.keep b1 hk.lt
    have hk2 := hk2.keep b1 hk2.lt
    have hb := hb.trans (b1.mono hb.size)
    clear fw1 b1
    go_wp2_with ((with_reducible refine load_if rfl 26 (.tmp 4) rfl ?_ hk2 rowBk hDl ?_); rfl)
    refine (fw2.out w1).mono ?_
    rintro q w2 ⟨rfl, b2⟩
    have hk := hk.keep b2 hk.lt
    have hk2 := hk2.keep b2 hk2.lt
    have hb := hb.trans (b2.mono hb.size)
    clear fw2 b2
    go_wp2_with fail
    refine (alive16_any w2).mono ?_
    rintro q w3 ⟨rfl, b3⟩
    go_wp2
    go_ret
    exact ⟨rfl, hb.trans (b3.mono hb.size)⟩
  · rw [show decide (n ≤ 100) = false from decide_eq_false h1] at f1
    have fw1 := Lib.hid f1
    clear f1 f2 hn h1
    go_enter Try.func5, Try.ntmps5
    go_wp2_with (first
      | ((with_reducible refine box_row rfl 26 (.tmp 0) rfl C ?_ ?_); rfl)
      | ((with_reducible refine box_row rfl 26 (.tmp 1) rfl D ?_ ?_); rfl; refine RowKit.Hid.out ?_))
    refine Lib.hid ?_
    clear hV
    go_wp2_with ((with_reducible refine wpList_load_blk rfl 26 (.tmp 3) rfl ?_ hk rowBk hCl ?_); rfl)
    refine (fw1.out V).mono ?_
    rintro q w1 ⟨rfl, b1⟩
    have hk := hk.keep b1 hk.lt
    have hk2 := hk2.keep b1 hk2.lt
    have hb := hb.trans (b1.mono hb.size)
    clear fw1 b1
    go_wp2_with fail
    refine (alive16_any w1).mono ?_
    rintro q w3 ⟨rfl, b3⟩
    go_wp2
    go_ret
    exact ⟨rfl, hb.trans (b3.mono hb.size)⟩
end Go.Proofs.Ytndodckcncejiaa

/-
  The law BlockAsks, where one of the ids is asked for, by what the program's blocks and the document's own come to. New memory alone is written. Conditions: the fields' ranges.
-/
namespace Go.Proofs.Ytndodckcncejiaa
open Go.RowKit

theorem wrapI16 {q : Nat} (h : q < 1000) : IntKind.i64.wrap (q : Int) = (q : Int) := by rw [IntKind.wrap_i64]; omega
theorem wrapJ16 {q : Nat} (h : q < 1000) : wrap64 (q : Int) = (q : Int) := by unfold wrap64; omega
set_option maxRecDepth 100000 in
set_option maxHeartbeats 8000000 in
theorem bkAsks_id (H P : List Int) (b0 off n c : Nat) (zs : List Int) (H' P' : List Int) (a' : Option Addr) (n' c' : Nat) (ys : List Int) (A : Nat) (w : World) (hM : BlkOk ⟨H, P, n, zs⟩) (hM' : BlkOk ⟨H', P', n', ys⟩) (hT : IdsAt w (some ⟨b0, off, none⟩) n c zs) (hT' : IdsAt w a' n' c' ys) (hn : n ≤ 100) (hn' : n' ≤ 100) (hA : A < 256) (h0 : 0 < n) (h2 : A % 2 = 0) :
    Calls Try.prog 5 #[.agg (bkC H P (some ⟨b0, off, none⟩) n c).toArray, .agg (bkC H' P' a' n' c').toArray, .int .u8 (A : Int)] w fun q w' => q = .returned (.bool true) ∧ Below w.heap.size w w' := by
  obtain ⟨a, ha⟩ : ∃ a, some (⟨b0, off, none⟩ : Addr) = a := ⟨_, rfl⟩
  rw [ha] at hT ⊢
  obtain ⟨q0, hq0⟩ : ∃ q : Nat, A / 2 = q := ⟨_, rfl⟩
  obtain ⟨i, hi⟩ : ∃ i : Nat, q0 % n = i := ⟨_, rfl⟩
  have hin : i < n := by rw [← hi]; exact Nat.mod_lt _ h0
  have hrow := rowId_of (idP_len hM.2.2.1 hin)
  have hYone := u8_one (idP zs i)
  have hYlen : ((idP zs i).map (Value.int .u8)).length = 32 := by rw [List.length_map]; exact idP_len hM.2.2.1 hin
  have hH : H.length = 32 := hM.1
  have hP : P.length = 32 := hM.2.1
  have hH' : H'.length = 32 := hM'.1
  have hP' : P'.length = 32 := hM'.2.1
  have hCl := bkC_len (a := a) (n := n) (c := c) hH hP
  have hDl := bkC_len (a := a') (n := n') (c := c') hH' hP'
  have fw1 := fun w' => r16Few_any H P a n c w' hH hP
  have fw2 := fun w' => r16Few_any H' P' a' n' c' w' hH' hP'
  rw [show decide (n ≤ 100) = true from decide_eq_true hn] at fw1
  rw [show decide (n' ≤ 100) = true from decide_eq_true hn'] at fw2
  have e0 := Lib.hid (fun w' g (h : Blk w' g 26 (bkC H P a n c)) => bk0 h)
  have e2 := Lib.hid (fun w' g (h : Blk w' g 26 (bkC H P a n c)) => bk2 h hH hP)
  have f1 := Lib.hid (fun w' g (h : Blk w' g 26 (bkC H' P' a' n' c')) => bk1 h hH')
  obtain ⟨E, hEe⟩ : ∃ E : Option Addr → Nat → List Value, ∀ b d, bkC H P b n d = E b d := ⟨_, fun _ _ => rfl⟩
  have hEl := Lib.hid (fun b d => show (E b d).length = 65 by rw [← hEe]; exact bkC_len hH hP)
  have hE1 := Lib.hid (fun b d => show ∀ v ∈ E b d, v.oneCell' = true by rw [← hEe]; exact bkC_one _ _ _ _ _)
  have f5 := Lib.hid (fun w' g b d (h : Blk w' g 26 (E b d)) => show w'.cell? ⟨g, 64, none⟩ = some (.slice b n d) by rw [← hEe] at h; exact bk2 h hH hP)
  have hqc := fun w' => eqId16 P' H hP' hH w'
  have hrX := rowId_of hH
  have hrY := rowId_of hP'
  have hX01 := u8_one H
  have hX0l : (H.map (Value.int .u8)).length = 32 := by rw [List.length_map, hH]
  obtain ⟨C, hC⟩ : ∃ C, bkC H P a n c = C := ⟨_, rfl⟩
  obtain ⟨D, hD⟩ : ∃ C, bkC H' P' a' n' c' = C := ⟨_, rfl⟩
  rw [hC] at hCl fw1 e0 e2
  rw [hD] at hDl fw2 f1
  obtain ⟨x, hxH⟩ : ∃ x, idP zs i = x := ⟨_, rfl⟩
  have hx : x.length = 32 := by rw [← hxH]; exact idP_len hM.2.2.1 hin
  have hXl : (x.map (Value.int .u8)).length = 32 := by rw [List.length_map, hx]
  have hXHl : ((x.take 16).map (Value.int .u8)).length = 16 := by rw [List.length_map, List.length_take]; omega
  have hx16 : (x.take 16).length = 16 := by rw [List.length_take]; omega
  have hrXx := rowId_of hx
  have hrXH := rowHint_of hx16
  have hXH1 := u8_one (x.take 16)
  have s1 := fun w' (h : Below w.heap.size w w') => bkHas_any H P a n c zs x w' hH hP (hT.keep h) (by omega) hx
  have s2 := fun w' (h : Below w.heap.size w w') => r16Has_any H P a n c zs x w' hH hP (hT.keep h) (by omega) hx
  have s3 := fun w' (h : Below w.heap.size w w') => bkHas_any H' P' a' n' c' ys x w' hH' hP' (hT'.keep h) (by omega) hx
  have s4 := fun w' (h : Below w.heap.size w w') => r16Has_any H' P' a' n' c' ys x w' hH' hP' (hT'.keep h) (by omega) hx
  have s5 := fun w' (h : Below w.heap.size w w') => bkHinted_any H P a n c zs (x.take 16) w' hH hP (hT.keep h) (by omega) hx16
  have s6 := fun w' (h : Below w.heap.size w w') => r16Hinted_any H P a n c zs (x.take 16) w' hH hP (hT.keep h) (by omega) hx16
  have hKn := hintN_le zs (x.take 16) n
  have s8 := fun w' => bkChild_any H P a n c H' P' a' n' c' w' hH hH' hP'
  have s9 := fun w' (h : Below w.heap.size w w') => bkCopy_any H P a n c zs w' hH hP (hT.keep h) (by omega)
  have r1 := fun w' (h : Below w.heap.size w w') => bkSame_any H P a n c zs H' P' a' n' c' ys w' hH hP hH' hP' (hT.keep h) (hT'.keep h) (by omega)
  have r2 := fun w' (h : Below w.heap.size w w') => r16Same_any H P a n c zs H' P' a' n' c' ys w' hH hP hH' hP' (hT.keep h) (hT'.keep h) (by omega)
  have r3 := fun w' b d (h : Below w.heap.size w w') (hB : IdsAt w' b n d zs) => bkSame_any H P a n c zs H P b n d zs w' hH hP hH hP (hT.keep h) hB (by omega)
  have r4 := fun w' b d (h : Below w.heap.size w w') (hB : IdsAt w' b n d zs) => r16Same_any H P a n c zs H P b n d zs w' hH hP hH hP (hT.keep h) hB (by omega)
  rw [sameK_self] at r3 r4
  rw [hC] at s1 s2 s5 s6 s8 s9 r1 r2 r3 r4
  rw [hD] at s3 s4 s8 r1 r2
  simp only [hEe] at s9 r3 r4
  obtain ⟨T1, hT1⟩ : ∃ B, hasL zs x n = B := ⟨_, rfl⟩
  obtain ⟨T2, hT2⟩ : ∃ B, hasL ys x n' = B := ⟨_, rfl⟩
  obtain ⟨T3, hT3⟩ : ∃ B, sameK ⟨H, P, n, zs⟩ ⟨H', P', n', ys⟩ = B := ⟨_, rfl⟩
  rw [hT1] at s1 s2
  rw [hT2] at s3 s4
  rw [hT3] at r1 r2
  obtain ⟨K, hK⟩ : ∃ K, hintN zs (x.take 16) n = K := ⟨_, rfl⟩
  obtain ⟨L, hL⟩ : ∃ K, hintL zs (x.take 16) n = K := ⟨_, rfl⟩
  rw [hK, hL] at s5 s6
  rw [hK] at hKn
  have s7 := fun b1 d1 b2 d2 w' (h1 : IdsAt w' b1 K d1 L) (h2 : IdsAt w' b2 K d2 L) => rSameB_any b1 K d1 L b2 K d2 L w' h1 h2 (by omega)
  rw [show sameL K L K L = true by simp [sameL]] at s7
  have hph := Lib.hid (fun w' g (h : Blk w' g 23 (x.map (Value.int .u8))) => id_head16 h)
  obtain ⟨X, hXe⟩ : ∃ X, x.map (Value.int .u8) = X := ⟨_, rfl⟩
  obtain ⟨XH, hXHe⟩ : ∃ X, (x.take 16).map (Value.int .u8) = X := ⟨_, rfl⟩
  rw [hXe] at hXl hrXx s1 s2 s3 s4
  rw [hXHe] at hXHl hrXH hXH1 s5 s6
  rw [hXe, hXHe] at hph
  have hXeH := Lib.hid hXe
  have t1 := Lib.hid s1
  have t2 := Lib.hid s2
  have t3 := Lib.hid s3
  have t4 := Lib.hid s4
  have t5 := Lib.hid s5
  have t6 := Lib.hid s6
  have t7 := Lib.hid s7
  have t8 := Lib.hid s8
  have t9 := Lib.hid s9
  have u1 := Lib.hid r1
  have u2 := Lib.hid r2
  have u3 := Lib.hid r3
  have u4 := Lib.hid r4
  clear s1 s2 s3 s4 s5 s6 s7 s8 s9 r1 r2 r3 r4 hT1 hT2 hT3 hK hL hXe hXHe hx hx16 hKn
  have hTH := Lib.hid hT
  have hpX := Lib.hid (fun w' (h : Below w.heap.size w w') => show w'.rangeAt b0 (off + i * 32) X by
    obtain ⟨b9, o9, hb9, hp9⟩ := (hT.keep h).get hin
    rw [← ha] at hb9
    injection hb9 with hb9
    injection hb9 with e1 e2
    subst e1; subst e2
    rw [hxH, hXeH.out] at hp9
    exact hp9)
  have hbl := Lib.hid (show b0 < w.heap.size by
    rcases hT.2.2 with h1 | ⟨b9, o9, hb9, hc9⟩
    · omega
    · rw [← ha] at hb9
      injection hb9 with hb9
      injection hb9 with e1 e2
      rw [e1]
      exact World.block_lt_of_cell? w _ (hc9 0 (by omega)))
  rw [hxH, hXeH.out] at hrow hYone hYlen
  rw [hC, hD]
  have hrC : IsRow Try.prog 26 C.length := by rw [hCl]; exact rowBk
  have hrD : IsRow Try.prog 26 D.length := by rw [hDl]; exact rowBk
  obtain ⟨F, hF⟩ : ∃ C, (P' == H) = C := ⟨_, rfl⟩
  rw [hF] at hqc
  have t8 := Lib.hid (fun w' => by have := t8.out w'; rw [hF] at this; exact this)
  obtain ⟨X0, hX0⟩ : ∃ C, H.map (Value.int .u8) = C := ⟨_, rfl⟩
  obtain ⟨Y1, hY1⟩ : ∃ C, P'.map (Value.int .u8) = C := ⟨_, rfl⟩
  rw [hX0] at e0 hqc hrX hX01 hX0l
  rw [hY1] at f1 hqc hrY
  have hX0H := Lib.hid hX0
  have hqc := Lib.hid hqc
  have fw1 := Lib.hid fw1
  have fw2 := Lib.hid fw2
  have hng := noGuardIds
  have z1 : (T1 != T1) = false := by cases T1 <;> rfl
  have z2 : (T2 != T2) = false := by cases T2 <;> rfl
  have z3 : (T3 != T3) = false := by cases T3 <;> rfl
  have z4 : (F != F) = false := by cases F <;> rfl
  obtain ⟨Zr, hZr⟩ : ∃ Z, List.replicate 32 (Value.int .u8 0) = Z := ⟨_, rfl⟩
  have hRl : Zr.length = 32 := by rw [← hZr]; rfl
  have hR0 : Zero Try.prog 23 Zr := by rw [← hZr]; exact zeroId9
  obtain ⟨Zh, hZh⟩ : ∃ Z, List.replicate 16 (Value.int .u8 0) = Z := ⟨_, rfl⟩
  have hZhl : Zh.length = 16 := by rw [← hZh]; rfl
  have hJ0 : Zero Try.prog 38 Zh := by rw [← hZh]; exact zeroHint9
  obtain ⟨Z, hZ⟩ : ∃ Z, bkC z32 z32 none 0 0 = Z := ⟨_, rfl⟩
  have hZ0 : Zero Try.prog 26 Z := by rw [← hZ]; exact zeroBk
  have hZl : Z.length = 65 := by rw [← hZ]; exact bkC_len rfl rfl
  have hb := below2 w (.cells C.toArray 26) (.cells D.toArray 26)
  have hk : Blk ((w.alloc (.cells C.toArray 26)).alloc (.cells D.toArray 26)) w.heap.size 26 C := (Blk.new w _ C).alloc _
  have hk2 : Blk ((w.alloc (.cells C.toArray 26)).alloc (.cells D.toArray 26)) (w.heap.size + 1) 26 D := Blk.new1 w _ _ _
  obtain ⟨V, hV⟩ : ∃ V, (w.alloc (.cells C.toArray 26)).alloc (.cells D.toArray 26) = V := ⟨_, rfl⟩
  rw [hV] at hb hk hk2
  obtain ⟨G, g9⟩ : ∃ G, w.heap.size = G := ⟨_, rfl⟩
  rw [g9] at hk hk2
  have hMM := Lib.hid (And.intro hM hM')
  clear hC hD hEe hF hX0 hY1 hZr hZh hZ hM hM' hH hP hH' hP' hn'
  clear hxH
  have hAi : (A : Int) < 256 := by omega
  have hnm : (n : Int) ≤ 100 := by omega
  have hni : (0 : Int) < (n : Int) := by omega
  have hn0 : ¬ (n : Int) = 0 := by omega
  have hnN : ¬ n = 0 := Nat.ne_of_gt h0
  have hii : (i : Int) < (n : Int) := Int.ofNat_lt.2 hin
  have k5 := wrapI16 (show i < 1000 by omega)
  have k5' := wrapJ16 (show i < 1000 by omega)
  have he : (A : Int) % 2 = 0 := by omega
  have he' : (A : Int).tmod 2 = 0 := by rw [Int.tmod_eq_emod_of_nonneg (by omega)]; exact he
  have k1 : (A : Int).tdiv 2 = (q0 : Int) := by rw [Int.tdiv_eq_ediv_of_nonneg (by omega)]; omega
  have k1' : (A : Int) / 2 = (q0 : Int) := by omega
  have k2 : IntKind.u8.wrap (q0 : Int) = (q0 : Int) := by rw [IntKind.wrap_u8]; omega
  have k2' : (q0 : Int) % 256 = (q0 : Int) := by omega
  have k3 := wrapI16 (show q0 < 1000 by omega)
  have k3' := wrapJ16 (show q0 < 1000 by omega)
  have k4' : (q0 : Int) % (n : Int) = (i : Int) := by rw [← hi, Int.natCast_emod]
  have k4 : (q0 : Int).tmod (n : Int) = (i : Int) := by rw [Int.tmod_eq_emod_of_nonneg (Int.natCast_nonneg q0)]; exact k4'
  have hnH := Lib.hid hn
  clear hT hT' h0 h2 hq0 hi hn
  subst ha
  go_enter Try.func5, Try.ntmps5
  go_wp2_with (first
    | ((with_reducible refine box_row rfl 26 (.tmp 0) rfl C ?_ ?_); rfl)
    | ((with_reducible refine box_row rfl 26 (.tmp 1) rfl D ?_ ?_); rfl; refine RowKit.Hid.out ?_))
  refine Lib.hid ?_
  clear hV
  go_wp2_with ((with_reducible refine wpList_load_blk rfl 26 (.tmp 3) rfl ?_ hk rowBk hCl ?_); rfl)
  refine (fw1.out V).mono ?_
  rintro q w1 ⟨rfl, b1⟩
  have hk := hk.keep b1 hk.lt
  have hk2 := hk2.keep b1 hk2.lt
  have hb := hb.trans (b1.mono hb.size)
  clear fw1 b1
  go_wp2_with ((with_reducible refine load_if rfl 26 (.tmp 4) rfl ?_ hk2 rowBk hDl ?_); rfl)
  refine (fw2.out w1).mono ?_
  rintro q w2 ⟨rfl, b2⟩
  have hk := hk.keep b2 hk.lt
  have hk2 := hk2.keep b2 hk2.lt
  have hb := hb.trans (b2.mono hb.size)
  clear fw2 b2
  have p0 := e0.out w2 G hk
  go_wp2_with (first
    | ((with_reducible refine wpList_load_part rfl 23 (.tmp 21) rfl ?_ X0 p0 hrX ?_); rfl)
    | ((with_reducible refine wpList_alloc_blk rfl 23 rfl hR0 ?_); refine RowKit.Hid.out ?_))
  refine Lib.hid ?_
  try simp only [Act.put, List.setIfInBounds_toArray, List.set_cons_zero, List.set_cons_succ]
  have hGA := hk.alloc (.cells Zr.toArray 23)
  have hDA := hk2.alloc (.cells Zr.toArray 23)
  have hIA := Blk.new w2 23 Zr
  have BA := hb.alloc hb.size (.cells Zr.toArray 23)
  have l1 := hk.lt
  have l2 := hk2.lt
  have l3 := hb.size
  obtain ⟨I, hI⟩ : ∃ N, w2.heap.size = N := ⟨_, rfl⟩
  rw [hI] at hIA l1 l2 l3 ⊢
  obtain ⟨U, hU⟩ : ∃ W, w2.alloc (.cells Zr.toArray 23) = W := ⟨_, rfl⟩
  rw [hU] at hGA hDA hIA BA ⊢
  clear hk hk2 hb hI hU p0
  refine store_row rfl 23 (.tmp 7) (.tmp 22) rfl rfl rfl hIA rowId9 hX0l hRl hX01 ?_
  intro wq hI3 hg3
  have hG3 := hGA.grown hg3 (fun e => by injection e with e; omega)
  have hD3 := hDA.grown hg3 (fun e => by injection e with e; omega)
  have B3 := BA.grown hg3 BA.size (fun q hq => by injection hq with hq; omega)
  have c2 := e2.out wq G hG3
  clear hGA hDA hIA BA hg3
  have hp3 := hpX.out wq B3
  have hbI : b0 < I := by have := hbl.out; omega
  have c2V : wq.drew.cell? ⟨G, 64, none⟩ = some (.slice (some ⟨b0, off, none⟩) n c) := c2
  have hpV : wq.drew.rangeAt b0 (off + i * 32) X := hp3
  have hIV : Blk wq.drew I 23 X0 := hI3
  have hGV : Blk wq.drew G 26 C := hG3
  have hDV : Blk wq.drew (G + 1) 26 D := hD3
  have BV : Below w.heap.size w wq.drew := Below.drew B3
  go_wp2_with fail
  refine region_seqS (fun w' => w'.cell? ⟨G, 64, none⟩ = some (.slice (some ⟨b0, off, none⟩) n c) ∧ w'.rangeAt b0 (off + i * 32) X) (by kernel_rfl) ⟨c2V, hpV⟩ ?_
  simp only [pairs, Nat.reduceAdd]
  clear hG3 hD3 hI3 B3 c2 hp3
  repeat (first
    | (refine SeqS.take (v := .agg (X).toArray) (by first | assumption | trivial) (by kernel_rfl) (by decide +kernel) (by decide +kernel) (yields_part (by rfl) 23 (.tmp 41) rfl rfl (fun w' h => h.2) (hrow)) ?_
       simp only [Act.put, List.setIfInBounds_toArray, List.set_cons_zero, List.set_cons_succ])
    | (refine SeqS.take (v := ?_) (by first | assumption | trivial) (by kernel_rfl) (by decide +kernel) (by decide +kernel) (Or.inl ⟨by rfl, ?_⟩) ?_
       rotate_left
       focus
         intro w' hb'
         go_simp
         with_reducible rfl
       simp only [Act.put, List.setIfInBounds_toArray, List.set_cons_zero, List.set_cons_succ])
    | (refine SeqS.take (v := ?_) (by first | assumption | trivial) (by kernel_rfl) (by decide +kernel) (by decide +kernel) (Or.inl ⟨by rfl, ?_⟩) ?_
       rotate_left
       focus
         intro w' hb'
         have d0 := hb'.1
         go_simp
         with_reducible rfl
       simp only [Act.put, List.setIfInBounds_toArray, List.set_cons_zero, List.set_cons_succ])
    | (refine SeqS.take (v := undef) (by first | assumption | trivial) (by kernel_rfl) (by decide +kernel) (by decide +kernel) (Or.inr ⟨by rfl, rfl⟩) ?_
       simp only [Act.put, List.setIfInBounds_toArray, List.set_cons_zero, List.set_cons_succ])
    | (refine SeqS.take1 (v := .agg (X).toArray) (by first | assumption | trivial) (by kernel_rfl) (by decide +kernel) (by decide +kernel) (yields_part (by rfl) 23 (.tmp 41) rfl rfl (fun w' h => h.2) (hrow)) ?_
       simp only [Act.put, List.setIfInBounds_toArray, List.set_cons_zero, List.set_cons_succ])
    | (refine SeqS.take1 (v := ?_) (by first | assumption | trivial) (by kernel_rfl) (by decide +kernel) (by decide +kernel) (Or.inl ⟨by rfl, ?_⟩) ?_
       rotate_left
       focus
         intro w' hb'
         go_simp
         with_reducible rfl
       simp only [Act.put, List.setIfInBounds_toArray, List.set_cons_zero, List.set_cons_succ])
    | (refine SeqS.take1 (v := ?_) (by first | assumption | trivial) (by kernel_rfl) (by decide +kernel) (by decide +kernel) (Or.inl ⟨by rfl, ?_⟩) ?_
       rotate_left
       focus
         intro w' hb'
         have d0 := hb'.1
         go_simp
         with_reducible rfl
       simp only [Act.put, List.setIfInBounds_toArray, List.set_cons_zero, List.set_cons_succ])
    | (refine SeqS.take1 (v := undef) (by first | assumption | trivial) (by kernel_rfl) (by decide +kernel) (by decide +kernel) (Or.inr ⟨by rfl, rfl⟩) ?_
       simp only [Act.put, List.setIfInBounds_toArray, List.set_cons_zero, List.set_cons_succ])
    | (refine SeqS.take2 (v := .agg (X).toArray) (by first | assumption | trivial) (by kernel_rfl) (by decide +kernel) (by decide +kernel) (yields_part (by rfl) 23 (.tmp 41) rfl rfl (fun w' h => h.2) (hrow)) ?_
       simp only [Act.put, List.setIfInBounds_toArray, List.set_cons_zero, List.set_cons_succ])
    | (refine SeqS.take2 (v := ?_) (by first | assumption | trivial) (by kernel_rfl) (by decide +kernel) (by decide +kernel) (Or.inl ⟨by rfl, ?_⟩) ?_
       rotate_left
       focus
         intro w' hb'
         go_simp
         with_reducible rfl
       simp only [Act.put, List.setIfInBounds_toArray, List.set_cons_zero, List.set_cons_succ])
    | (refine SeqS.take2 (v := ?_) (by first | assumption | trivial) (by kernel_rfl) (by decide +kernel) (by decide +kernel) (Or.inl ⟨by rfl, ?_⟩) ?_
       rotate_left
       focus
         intro w' hb'
         have d0 := hb'.1
         go_simp
         with_reducible rfl
       simp only [Act.put, List.setIfInBounds_toArray, List.set_cons_zero, List.set_cons_succ])
    | (refine SeqS.take2 (v := undef) (by first | assumption | trivial) (by kernel_rfl) (by decide +kernel) (by decide +kernel) (Or.inr ⟨by rfl, rfl⟩) ?_
       simp only [Act.put, List.setIfInBounds_toArray, List.set_cons_zero, List.set_cons_succ])
    | (refine SeqS.take3 (v := .agg (X).toArray) (by first | assumption | trivial) (by kernel_rfl) (by decide +kernel) (by decide +kernel) (yields_part (by rfl) 23 (.tmp 41) rfl rfl (fun w' h => h.2) (hrow)) ?_
       simp only [Act.put, List.setIfInBounds_toArray, List.set_cons_zero, List.set_cons_succ])
    | (refine SeqS.take3 (v := ?_) (by first | assumption | trivial) (by kernel_rfl) (by decide +kernel) (by decide +kernel) (Or.inl ⟨by rfl, ?_⟩) ?_
       rotate_left
       focus
         intro w' hb'
         go_simp
         with_reducible rfl
       simp only [Act.put, List.setIfInBounds_toArray, List.set_cons_zero, List.set_cons_succ])
    | (refine SeqS.take3 (v := ?_) (by first | assumption | trivial) (by kernel_rfl) (by decide +kernel) (by decide +kernel) (Or.inl ⟨by rfl, ?_⟩) ?_
       rotate_left
       focus
         intro w' hb'
         have d0 := hb'.1
         go_simp
         with_reducible rfl
       simp only [Act.put, List.setIfInBounds_toArray, List.set_cons_zero, List.set_cons_succ])
    | (refine SeqS.take3 (v := undef) (by first | assumption | trivial) (by kernel_rfl) (by decide +kernel) (by decide +kernel) (Or.inr ⟨by rfl, rfl⟩) ?_
       simp only [Act.put, List.setIfInBounds_toArray, List.set_cons_zero, List.set_cons_succ])
    | (refine SeqS.take4 (v := .agg (X).toArray) (by first | assumption | trivial) (by kernel_rfl) (by decide +kernel) (by decide +kernel) (yields_part (by rfl) 23 (.tmp 41) rfl rfl (fun w' h => h.2) (hrow)) ?_
       simp only [Act.put, List.setIfInBounds_toArray, List.set_cons_zero, List.set_cons_succ])
    | (refine SeqS.take4 (v := ?_) (by first | assumption | trivial) (by kernel_rfl) (by decide +kernel) (by decide +kernel) (Or.inl ⟨by rfl, ?_⟩) ?_
       rotate_left
       focus
         intro w' hb'
         go_simp
         with_reducible rfl
       simp only [Act.put, List.setIfInBounds_toArray, List.set_cons_zero, List.set_cons_succ])
    | (refine SeqS.take4 (v := ?_) (by first | assumption | trivial) (by kernel_rfl) (by decide +kernel) (by decide +kernel) (Or.inl ⟨by rfl, ?_⟩) ?_
       rotate_left
       focus
         intro w' hb'
         have d0 := hb'.1
         go_simp
         with_reducible rfl
       simp only [Act.put, List.setIfInBounds_toArray, List.set_cons_zero, List.set_cons_succ])
    | (refine SeqS.take4 (v := undef) (by first | assumption | trivial) (by kernel_rfl) (by decide +kernel) (by decide +kernel) (Or.inr ⟨by rfl, rfl⟩) ?_
       simp only [Act.put, List.setIfInBounds_toArray, List.set_cons_zero, List.set_cons_succ]))
  refine SeqS.alone (by decide +kernel) (by rfl) (fun K5 hK5 => ?_)
  refine wp_store_part 23 (.tmp 7) (.tmp 42) rfl rfl rfl hIV hrow (by rw [hYlen, hX0l]; decide) hYone ?_
  intro wq hI3 hg3
  have hI3 := hI3.cast (overV_all X0 X (by rw [hYlen, hX0l]))
  have hG3 := hGV.grown hg3 (fun e => by injection e with e; omega)
  have hD3 := hDV.grown hg3 (fun e => by injection e with e; omega)
  have B3 := BV.grown hg3 BV.size (fun q hq => by injection hq with hq; omega)
  have c2 := e2.out wq G hG3
  refine hK5 _ _ ⟨c2, fun k u hk => hg3.cell (hpV k u hk) (fun e => by injection e with e; have e : b0 = I := e; omega)⟩ ?_
  clear hK5 K5 hIV hGV hDV BV c2V hpV hg3 hbI
  refine SeqS.done (by decide +kernel) ?_
  -- the hint
  have hIlt := hI3.lt
  have hpart := hph.out wq I hI3
  have hat := fun cap v => run_array_at9 (P := Try.prog) 38 5 16 Try.underlying38 (some ⟨I, 0, none⟩) 16 cap (by decide) v
  go_wp2_with (first
    | ((with_reducible refine wpList_load_part rfl 38 (.tmp 44) rfl ?_ XH hpart hrXH ?_); rfl)
    | ((with_reducible refine wpList_alloc_blk rfl 38 rfl hJ0 ?_); refine RowKit.Hid.out ?_))
  refine Lib.hid ?_
  try simp only [Act.put, List.setIfInBounds_toArray, List.set_cons_zero, List.set_cons_succ]
  have hGA := hG3.alloc (.cells Zh.toArray 38)
  have hDA := hD3.alloc (.cells Zh.toArray 38)
  have hIA := hI3.alloc (.cells Zh.toArray 38)
  have hJA := Blk.new wq 38 Zh
  have BA := B3.alloc B3.size (.cells Zh.toArray 38)
  have l4 := hG3.lt
  have l5 := hD3.lt
  have l6 := B3.size
  obtain ⟨J, hJ⟩ : ∃ N, wq.heap.size = N := ⟨_, rfl⟩
  rw [hJ] at hJA l4 l5 l6 hIlt ⊢
  obtain ⟨U4, hU4⟩ : ∃ W, wq.alloc (.cells Zh.toArray 38) = W := ⟨_, rfl⟩
  rw [hU4] at hGA hDA hIA hJA BA ⊢
  clear hG3 hD3 hI3 B3 hJ hU4 hpart hat
  refine store_row rfl 38 (.tmp 8) (.tmp 45) rfl rfl rfl hJA rowHint9 hXHl hZhl hXH1 ?_
  intro w4 hJ4 hg4
  have hG4 := hGA.grown hg4 (fun e => by injection e with e; omega)
  have hD4 := hDA.grown hg4 (fun e => by injection e with e; omega)
  have hI4 := hIA.grown hg4 (fun e => by injection e with e; omega)
  have B4 := BA.grown hg4 BA.size (fun q hq => by injection hq with hq; omega)
  clear hGA hDA hIA hJA BA hg4
  -- what is asked
  have LC := Lib.hid (fun w' (h : Below w4.heap.size w4 w') => hG4.keep h hG4.lt)
  have LD := Lib.hid (fun w' (h : Below w4.heap.size w4 w') => hD4.keep h hD4.lt)
  have LX := Lib.hid (fun w' (h : Below w4.heap.size w4 w') => hI4.keep h hI4.lt)
  have LH := Lib.hid (fun w' (h : Below w4.heap.size w4 w') => hJ4.keep h hJ4.lt)
  have PC := Lib.hid (fun w' (h : Below w4.heap.size w4 w') => e0.out w' G (LC.out w' h))
  have PD := Lib.hid (fun w' (h : Below w4.heap.size w4 w') => f1.out w' (G + 1) (LD.out w' h))
  have BB := Lib.hid (fun w' (h : Below w4.heap.size w4 w') => B4.trans (h.mono B4.size))
  have b3 : Below w4.heap.size w4 w4.drew := (Below.refl _ _).drew
  clear hI4 hJ4 hIlt c2 l4 l5 l6 l1 l2 l3
  go_wp2_with fail
  have HG4 := Lib.hid (And.intro hG4 (And.intro hD4 B4))
  clear hG4 hD4 B4
  refine region_seqS (fun w' => Below w4.heap.size w4 w') (by kernel_rfl) b3 ?_
  simp only [pairs, Nat.reduceAdd]
  repeat (first
    | (refine SeqS.take (v := .agg (C).toArray) (by first | assumption | trivial) (by kernel_rfl) (by decide +kernel) (by decide +kernel) (yields_blk (by rfl) 26 (.tmp 3) rfl rfl (fun w' h => LC.out w' h) (hrC)) ?_
       simp only [Act.put, List.setIfInBounds_toArray, List.set_cons_zero, List.set_cons_succ])
    | (refine SeqS.take (v := .agg (X).toArray) (by first | assumption | trivial) (by kernel_rfl) (by decide +kernel) (by decide +kernel) (yields_blk (by rfl) 23 (.tmp 7) rfl rfl (fun w' h => LX.out w' h) (hrXx)) ?_
       simp only [Act.put, List.setIfInBounds_toArray, List.set_cons_zero, List.set_cons_succ])
    | (refine SeqS.take (v := ?_) (by first | assumption | trivial) (by kernel_rfl) (by decide +kernel) (by decide +kernel) (Or.inl ⟨by rfl, ?_⟩) ?_
       rotate_left
       focus
         intro w' hb'
         go_simp
         with_reducible rfl
       simp only [Act.put, List.setIfInBounds_toArray, List.set_cons_zero, List.set_cons_succ])
    | (refine SeqS.take (v := undef) (by first | assumption | trivial) (by kernel_rfl) (by decide +kernel) (by decide +kernel) (Or.inr ⟨by rfl, rfl⟩) ?_
       simp only [Act.put, List.setIfInBounds_toArray, List.set_cons_zero, List.set_cons_succ])
    | (refine SeqS.take1 (v := .agg (C).toArray) (by first | assumption | trivial) (by kernel_rfl) (by decide +kernel) (by decide +kernel) (yields_blk (by rfl) 26 (.tmp 3) rfl rfl (fun w' h => LC.out w' h) (hrC)) ?_
       simp only [Act.put, List.setIfInBounds_toArray, List.set_cons_zero, List.set_cons_succ])
    | (refine SeqS.take1 (v := .agg (X).toArray) (by first | assumption | trivial) (by kernel_rfl) (by decide +kernel) (by decide +kernel) (yields_blk (by rfl) 23 (.tmp 7) rfl rfl (fun w' h => LX.out w' h) (hrXx)) ?_
       simp only [Act.put, List.setIfInBounds_toArray, List.set_cons_zero, List.set_cons_succ])
    | (refine SeqS.take1 (v := ?_) (by first | assumption | trivial) (by kernel_rfl) (by decide +kernel) (by decide +kernel) (Or.inl ⟨by rfl, ?_⟩) ?_
       rotate_left
       focus
         intro w' hb'
         go_simp
         with_reducible rfl
       simp only [Act.put, List.setIfInBounds_toArray, List.set_cons_zero, List.set_cons_succ])
    | (refine SeqS.take1 (v := undef) (by first | assumption | trivial) (by kernel_rfl) (by decide +kernel) (by decide +kernel) (Or.inr ⟨by rfl, rfl⟩) ?_
       simp only [Act.put, List.setIfInBounds_toArray, List.set_cons_zero, List.set_cons_succ])
    | (refine SeqS.take2 (v := .agg (C).toArray) (by first | assumption | trivial) (by kernel_rfl) (by decide +kernel) (by decide +kernel) (yields_blk (by rfl) 26 (.tmp 3) rfl rfl (fun w' h => LC.out w' h) (hrC)) ?_
       simp only [Act.put, List.setIfInBounds_toArray, List.set_cons_zero, List.set_cons_succ])
    | (refine SeqS.take2 (v := .agg (X).toArray) (by first | assumption | trivial) (by kernel_rfl) (by decide +kernel) (by decide +kernel) (yields_blk (by rfl) 23 (.tmp 7) rfl rfl (fun w' h => LX.out w' h) (hrXx)) ?_
       simp only [Act.put, List.setIfInBounds_toArray, List.set_cons_zero, List.set_cons_succ])
    | (refine SeqS.take2 (v := ?_) (by first | assumption | trivial) (by kernel_rfl) (by decide +kernel) (by decide +kernel) (Or.inl ⟨by rfl, ?_⟩) ?_
       rotate_left
       focus
         intro w' hb'
         go_simp
         with_reducible rfl
       simp only [Act.put, List.setIfInBounds_toArray, List.set_cons_zero, List.set_cons_succ])
    | (refine SeqS.take2 (v := undef) (by first | assumption | trivial) (by kernel_rfl) (by decide +kernel) (by decide +kernel) (Or.inr ⟨by rfl, rfl⟩) ?_
       simp only [Act.put, List.setIfInBounds_toArray, List.set_cons_zero, List.set_cons_succ]))
  refine SeqS.alone (by decide +kernel) (by rfl) (fun K hK => ?_)
  go_simp
  go_at_call 15
  refine (t1.out _ (BB.out _ b3)).mono ?_
  rintro e w11 ⟨rfl, b11⟩
  go_simp
  have S11 : Below w4.heap.size w4 w11 := b3.trans (b11.mono b3.size)
  refine hK _ _ S11 ?_
  clear hK K
  refine SeqS.alone (by decide +kernel) (by rfl) (fun K hK => ?_)
  go_simp
  go_at_call 16
  refine (t2.out _ (BB.out _ S11)).mono ?_
  rintro e w12 ⟨rfl, b12⟩
  go_simp
  have S12 : Below w4.heap.size w4 w12 := S11.trans (b12.mono S11.size)
  refine hK _ _ S12 ?_
  clear hK K
  repeat (first
    | (refine SeqS.take (v := .agg (D).toArray) (by first | assumption | trivial) (by kernel_rfl) (by decide +kernel) (by decide +kernel) (yields_blk (by rfl) 26 (.tmp 4) rfl rfl (fun w' h => LD.out w' h) (hrD)) ?_
       simp only [Act.put, List.setIfInBounds_toArray, List.set_cons_zero, List.set_cons_succ])
    | (refine SeqS.take (v := .agg (X).toArray) (by first | assumption | trivial) (by kernel_rfl) (by decide +kernel) (by decide +kernel) (yields_blk (by rfl) 23 (.tmp 7) rfl rfl (fun w' h => LX.out w' h) (hrXx)) ?_
       simp only [Act.put, List.setIfInBounds_toArray, List.set_cons_zero, List.set_cons_succ])
    | (refine SeqS.take (v := ?_) (by first | assumption | trivial) (by kernel_rfl) (by decide +kernel) (by decide +kernel) (Or.inl ⟨by rfl, ?_⟩) ?_
       rotate_left
       focus
         intro w' hb'
         go_simp
         with_reducible rfl
       simp only [Act.put, List.setIfInBounds_toArray, List.set_cons_zero, List.set_cons_succ])
    | (refine SeqS.take (v := undef) (by first | assumption | trivial) (by kernel_rfl) (by decide +kernel) (by decide +kernel) (Or.inr ⟨by rfl, rfl⟩) ?_
       simp only [Act.put, List.setIfInBounds_toArray, List.set_cons_zero, List.set_cons_succ])
    | (refine SeqS.take1 (v := .agg (D).toArray) (by first | assumption | trivial) (by kernel_rfl) (by decide +kernel) (by decide +kernel) (yields_blk (by rfl) 26 (.tmp 4) rfl rfl (fun w' h => LD.out w' h) (hrD)) ?_
       simp only [Act.put, List.setIfInBounds_toArray, List.set_cons_zero, List.set_cons_succ])
    | (refine SeqS.take1 (v := .agg (X).toArray) (by first | assumption | trivial) (by kernel_rfl) (by decide +kernel) (by decide +kernel) (yields_blk (by rfl) 23 (.tmp 7) rfl rfl (fun w' h => LX.out w' h) (hrXx)) ?_
       simp only [Act.put, List.setIfInBounds_toArray, List.set_cons_zero, List.set_cons_succ])
    | (refine SeqS.take1 (v := ?_) (by first | assumption | trivial) (by kernel_rfl) (by decide +kernel) (by decide +kernel) (Or.inl ⟨by rfl, ?_⟩) ?_
       rotate_left
       focus
         intro w' hb'
         go_simp
         with_reducible rfl
       simp only [Act.put, List.setIfInBounds_toArray, List.set_cons_zero, List.set_cons_succ])
    | (refine SeqS.take1 (v := undef) (by first | assumption | trivial) (by kernel_rfl) (by decide +kernel) (by decide +kernel) (Or.inr ⟨by rfl, rfl⟩) ?_
       simp only [Act.put, List.setIfInBounds_toArray, List.set_cons_zero, List.set_cons_succ])
    | (refine SeqS.take2 (v := .agg (D).toArray) (by first | assumption | trivial) (by kernel_rfl) (by decide +kernel) (by decide +kernel) (yields_blk (by rfl) 26 (.tmp 4) rfl rfl (fun w' h => LD.out w' h) (hrD)) ?_
       simp only [Act.put, List.setIfInBounds_toArray, List.set_cons_zero, List.set_cons_succ])
    | (refine SeqS.take2 (v := .agg (X).toArray) (by first | assumption | trivial) (by kernel_rfl) (by decide +kernel) (by decide +kernel) (yields_blk (by rfl) 23 (.tmp 7) rfl rfl (fun w' h => LX.out w' h) (hrXx)) ?_
       simp only [Act.put, List.setIfInBounds_toArray, List.set_cons_zero, List.set_cons_succ])
    | (refine SeqS.take2 (v := ?_) (by first | assumption | trivial) (by kernel_rfl) (by decide +kernel) (by decide +kernel) (Or.inl ⟨by rfl, ?_⟩) ?_
       rotate_left
       focus
         intro w' hb'
         go_simp
         with_reducible rfl
       simp only [Act.put, List.setIfInBounds_toArray, List.set_cons_zero, List.set_cons_succ])
    | (refine SeqS.take2 (v := undef) (by first | assumption | trivial) (by kernel_rfl) (by decide +kernel) (by decide +kernel) (Or.inr ⟨by rfl, rfl⟩) ?_
       simp only [Act.put, List.setIfInBounds_toArray, List.set_cons_zero, List.set_cons_succ]))
  refine SeqS.alone (by decide +kernel) (by rfl) (fun K hK => ?_)
  go_simp
  go_at_call 15
  refine (t3.out _ (BB.out _ S12)).mono ?_
  rintro e w13 ⟨rfl, b13⟩
  go_simp
  have S13 : Below w4.heap.size w4 w13 := S12.trans (b13.mono S12.size)
  refine hK _ _ S13 ?_
  clear hK K
  refine SeqS.alone (by decide +kernel) (by rfl) (fun K hK => ?_)
  go_simp
  go_at_call 16
  refine (t4.out _ (BB.out _ S13)).mono ?_
  rintro e w14 ⟨rfl, b14⟩
  go_simp
  have S14 : Below w4.heap.size w4 w14 := S13.trans (b14.mono S13.size)
  refine hK _ _ S14 ?_
  clear hK K
  repeat (first
    | (refine SeqS.take (v := .agg (C).toArray) (by first | assumption | trivial) (by kernel_rfl) (by decide +kernel) (by decide +kernel) (yields_blk (by rfl) 26 (.tmp 3) rfl rfl (fun w' h => LC.out w' h) (hrC)) ?_
       simp only [Act.put, List.setIfInBounds_toArray, List.set_cons_zero, List.set_cons_succ])
    | (refine SeqS.take (v := .agg (XH).toArray) (by first | assumption | trivial) (by kernel_rfl) (by decide +kernel) (by decide +kernel) (yields_blk (by rfl) 38 (.tmp 8) rfl rfl (fun w' h => LH.out w' h) (hrXH)) ?_
       simp only [Act.put, List.setIfInBounds_toArray, List.set_cons_zero, List.set_cons_succ])
    | (refine SeqS.take (v := ?_) (by first | assumption | trivial) (by kernel_rfl) (by decide +kernel) (by decide +kernel) (Or.inl ⟨by rfl, ?_⟩) ?_
       rotate_left
       focus
         intro w' hb'
         go_simp
         with_reducible rfl
       simp only [Act.put, List.setIfInBounds_toArray, List.set_cons_zero, List.set_cons_succ])
    | (refine SeqS.take (v := undef) (by first | assumption | trivial) (by kernel_rfl) (by decide +kernel) (by decide +kernel) (Or.inr ⟨by rfl, rfl⟩) ?_
       simp only [Act.put, List.setIfInBounds_toArray, List.set_cons_zero, List.set_cons_succ])
    | (refine SeqS.take1 (v := .agg (C).toArray) (by first | assumption | trivial) (by kernel_rfl) (by decide +kernel) (by decide +kernel) (yields_blk (by rfl) 26 (.tmp 3) rfl rfl (fun w' h => LC.out w' h) (hrC)) ?_
       simp only [Act.put, List.setIfInBounds_toArray, List.set_cons_zero, List.set_cons_succ])
    | (refine SeqS.take1 (v := .agg (XH).toArray) (by first | assumption | trivial) (by kernel_rfl) (by decide +kernel) (by decide +kernel) (yields_blk (by rfl) 38 (.tmp 8) rfl rfl (fun w' h => LH.out w' h) (hrXH)) ?_
       simp only [Act.put, List.setIfInBounds_toArray, List.set_cons_zero, List.set_cons_succ])
    | (refine SeqS.take1 (v := ?_) (by first | assumption | trivial) (by kernel_rfl) (by decide +kernel) (by decide +kernel) (Or.inl ⟨by rfl, ?_⟩) ?_
       rotate_left
       focus
         intro w' hb'
         go_simp
         with_reducible rfl
       simp only [Act.put, List.setIfInBounds_toArray, List.set_cons_zero, List.set_cons_succ])
    | (refine SeqS.take1 (v := undef) (by first | assumption | trivial) (by kernel_rfl) (by decide +kernel) (by decide +kernel) (Or.inr ⟨by rfl, rfl⟩) ?_
       simp only [Act.put, List.setIfInBounds_toArray, List.set_cons_zero, List.set_cons_succ])
    | (refine SeqS.take2 (v := .agg (C).toArray) (by first | assumption | trivial) (by kernel_rfl) (by decide +kernel) (by decide +kernel) (yields_blk (by rfl) 26 (.tmp 3) rfl rfl (fun w' h => LC.out w' h) (hrC)) ?_
       simp only [Act.put, List.setIfInBounds_toArray, List.set_cons_zero, List.set_cons_succ])
    | (refine SeqS.take2 (v := .agg (XH).toArray) (by first | assumption | trivial) (by kernel_rfl) (by decide +kernel) (by decide +kernel) (yields_blk (by rfl) 38 (.tmp 8) rfl rfl (fun w' h => LH.out w' h) (hrXH)) ?_
       simp only [Act.put, List.setIfInBounds_toArray, List.set_cons_zero, List.set_cons_succ])
    | (refine SeqS.take2 (v := ?_) (by first | assumption | trivial) (by kernel_rfl) (by decide +kernel) (by decide +kernel) (Or.inl ⟨by rfl, ?_⟩) ?_
       rotate_left
       focus
         intro w' hb'
         go_simp
         with_reducible rfl
       simp only [Act.put, List.setIfInBounds_toArray, List.set_cons_zero, List.set_cons_succ])
    | (refine SeqS.take2 (v := undef) (by first | assumption | trivial) (by kernel_rfl) (by decide +kernel) (by decide +kernel) (Or.inr ⟨by rfl, rfl⟩) ?_
       simp only [Act.put, List.setIfInBounds_toArray, List.set_cons_zero, List.set_cons_succ]))
  refine SeqS.alone (by decide +kernel) (by rfl) (fun K hK => ?_)
  go_simp
  go_at_call 18
  refine (t5.out _ (BB.out _ S14)).mono ?_
  rintro e w15 ⟨hb5, hd5, rfl, hI5, -, b15⟩
  go_simp
  have S15 : Below w4.heap.size w4 w15 := S14.trans (b15.mono S14.size)
  refine hK _ _ S15 ?_
  clear hK K
  refine SeqS.alone (by decide +kernel) (by rfl) (fun K hK => ?_)
  go_simp
  go_at_call 19
  refine (t6.out _ (BB.out _ S15)).mono ?_
  rintro e w16 ⟨hb6, hd6, rfl, hI6, -, b16⟩
  go_simp
  have S16 : Below w4.heap.size w4 w16 := S15.trans (b16.mono S15.size)
  refine hK _ _ S16 ?_
  clear hK K
  refine SeqS.alone (by decide +kernel) (by rfl) (fun K hK => ?_)
  go_simp
  go_at_call 17
  refine (t7.out _ _ _ _ _ (hI5.keep b16) hI6).mono ?_
  rintro e w17 ⟨rfl, b17⟩
  go_simp
  have S17 : Below w4.heap.size w4 w17 := S16.trans (b17.mono S16.size)
  refine hK _ _ S17 ?_
  clear hK K
  repeat (first
    | (refine SeqS.take (v := .agg (C).toArray) (by first | assumption | trivial) (by kernel_rfl) (by decide +kernel) (by decide +kernel) (yields_blk (by rfl) 26 (.tmp 3) rfl rfl (fun w' h => LC.out w' h) (hrC)) ?_
       simp only [Act.put, List.setIfInBounds_toArray, List.set_cons_zero, List.set_cons_succ])
    | (refine SeqS.take (v := .agg (D).toArray) (by first | assumption | trivial) (by kernel_rfl) (by decide +kernel) (by decide +kernel) (yields_blk (by rfl) 26 (.tmp 4) rfl rfl (fun w' h => LD.out w' h) (hrD)) ?_
       simp only [Act.put, List.setIfInBounds_toArray, List.set_cons_zero, List.set_cons_succ])
    | (refine SeqS.take (v := .agg (Y1).toArray) (by first | assumption | trivial) (by kernel_rfl) (by decide +kernel) (by decide +kernel) (yields_part (by rfl) 23 (.tmp 76) rfl rfl (fun w' h => PD.out w' h) (hrY)) ?_
       simp only [Act.put, List.setIfInBounds_toArray, List.set_cons_zero, List.set_cons_succ])
    | (refine SeqS.take (v := .agg (X0).toArray) (by first | assumption | trivial) (by kernel_rfl) (by decide +kernel) (by decide +kernel) (yields_part (by rfl) 23 (.tmp 78) rfl rfl (fun w' h => PC.out w' h) (hrX)) ?_
       simp only [Act.put, List.setIfInBounds_toArray, List.set_cons_zero, List.set_cons_succ])
    | (refine SeqS.take (v := ?_) (by first | assumption | trivial) (by kernel_rfl) (by decide +kernel) (by decide +kernel) (Or.inl ⟨by rfl, ?_⟩) ?_
       rotate_left
       focus
         intro w' hb'
         go_simp
         with_reducible rfl
       simp only [Act.put, List.setIfInBounds_toArray, List.set_cons_zero, List.set_cons_succ])
    | (refine SeqS.take (v := ?_) (by first | assumption | trivial) (by kernel_rfl) (by decide +kernel) (by decide +kernel) (Or.inl ⟨by rfl, ?_⟩) ?_
       rotate_left
       focus
         intro w' hb'
         have d0 := hqc.out w'
         go_simp
         with_reducible rfl
       simp only [Act.put, List.setIfInBounds_toArray, List.set_cons_zero, List.set_cons_succ])
    | (refine SeqS.take (v := undef) (by first | assumption | trivial) (by kernel_rfl) (by decide +kernel) (by decide +kernel) (Or.inr ⟨by rfl, rfl⟩) ?_
       simp only [Act.put, List.setIfInBounds_toArray, List.set_cons_zero, List.set_cons_succ])
    | (refine SeqS.take1 (v := .agg (C).toArray) (by first | assumption | trivial) (by kernel_rfl) (by decide +kernel) (by decide +kernel) (yields_blk (by rfl) 26 (.tmp 3) rfl rfl (fun w' h => LC.out w' h) (hrC)) ?_
       simp only [Act.put, List.setIfInBounds_toArray, List.set_cons_zero, List.set_cons_succ])
    | (refine SeqS.take1 (v := .agg (D).toArray) (by first | assumption | trivial) (by kernel_rfl) (by decide +kernel) (by decide +kernel) (yields_blk (by rfl) 26 (.tmp 4) rfl rfl (fun w' h => LD.out w' h) (hrD)) ?_
       simp only [Act.put, List.setIfInBounds_toArray, List.set_cons_zero, List.set_cons_succ])
    | (refine SeqS.take1 (v := .agg (Y1).toArray) (by first | assumption | trivial) (by kernel_rfl) (by decide +kernel) (by decide +kernel) (yields_part (by rfl) 23 (.tmp 76) rfl rfl (fun w' h => PD.out w' h) (hrY)) ?_
       simp only [Act.put, List.setIfInBounds_toArray, List.set_cons_zero, List.set_cons_succ])
    | (refine SeqS.take1 (v := .agg (X0).toArray) (by first | assumption | trivial) (by kernel_rfl) (by decide +kernel) (by decide +kernel) (yields_part (by rfl) 23 (.tmp 78) rfl rfl (fun w' h => PC.out w' h) (hrX)) ?_
       simp only [Act.put, List.setIfInBounds_toArray, List.set_cons_zero, List.set_cons_succ])
    | (refine SeqS.take1 (v := ?_) (by first | assumption | trivial) (by kernel_rfl) (by decide +kernel) (by decide +kernel) (Or.inl ⟨by rfl, ?_⟩) ?_
       rotate_left
       focus
         intro w' hb'
         go_simp
         with_reducible rfl
       simp only [Act.put, List.setIfInBounds_toArray, List.set_cons_zero, List.set_cons_succ])
    | (refine SeqS.take1 (v := ?_) (by first | assumption | trivial) (by kernel_rfl) (by decide +kernel) (by decide +kernel) (Or.inl ⟨by rfl, ?_⟩) ?_
       rotate_left
       focus
         intro w' hb'
         have d0 := hqc.out w'
         go_simp
         with_reducible rfl
       simp only [Act.put, List.setIfInBounds_toArray, List.set_cons_zero, List.set_cons_succ])
    | (refine SeqS.take1 (v := undef) (by first | assumption | trivial) (by kernel_rfl) (by decide +kernel) (by decide +kernel) (Or.inr ⟨by rfl, rfl⟩) ?_
       simp only [Act.put, List.setIfInBounds_toArray, List.set_cons_zero, List.set_cons_succ])
    | (refine SeqS.take2 (v := .agg (C).toArray) (by first | assumption | trivial) (by kernel_rfl) (by decide +kernel) (by decide +kernel) (yields_blk (by rfl) 26 (.tmp 3) rfl rfl (fun w' h => LC.out w' h) (hrC)) ?_
       simp only [Act.put, List.setIfInBounds_toArray, List.set_cons_zero, List.set_cons_succ])
    | (refine SeqS.take2 (v := .agg (D).toArray) (by first | assumption | trivial) (by kernel_rfl) (by decide +kernel) (by decide +kernel) (yields_blk (by rfl) 26 (.tmp 4) rfl rfl (fun w' h => LD.out w' h) (hrD)) ?_
       simp only [Act.put, List.setIfInBounds_toArray, List.set_cons_zero, List.set_cons_succ])
    | (refine SeqS.take2 (v := .agg (Y1).toArray) (by first | assumption | trivial) (by kernel_rfl) (by decide +kernel) (by decide +kernel) (yields_part (by rfl) 23 (.tmp 76) rfl rfl (fun w' h => PD.out w' h) (hrY)) ?_
       simp only [Act.put, List.setIfInBounds_toArray, List.set_cons_zero, List.set_cons_succ])
    | (refine SeqS.take2 (v := .agg (X0).toArray) (by first | assumption | trivial) (by kernel_rfl) (by decide +kernel) (by decide +kernel) (yields_part (by rfl) 23 (.tmp 78) rfl rfl (fun w' h => PC.out w' h) (hrX)) ?_
       simp only [Act.put, List.setIfInBounds_toArray, List.set_cons_zero, List.set_cons_succ])
    | (refine SeqS.take2 (v := ?_) (by first | assumption | trivial) (by kernel_rfl) (by decide +kernel) (by decide +kernel) (Or.inl ⟨by rfl, ?_⟩) ?_
       rotate_left
       focus
         intro w' hb'
         go_simp
         with_reducible rfl
       simp only [Act.put, List.setIfInBounds_toArray, List.set_cons_zero, List.set_cons_succ])
    | (refine SeqS.take2 (v := ?_) (by first | assumption | trivial) (by kernel_rfl) (by decide +kernel) (by decide +kernel) (Or.inl ⟨by rfl, ?_⟩) ?_
       rotate_left
       focus
         intro w' hb'
         have d0 := hqc.out w'
         go_simp
         with_reducible rfl
       simp only [Act.put, List.setIfInBounds_toArray, List.set_cons_zero, List.set_cons_succ])
    | (refine SeqS.take2 (v := undef) (by first | assumption | trivial) (by kernel_rfl) (by decide +kernel) (by decide +kernel) (Or.inr ⟨by rfl, rfl⟩) ?_
       simp only [Act.put, List.setIfInBounds_toArray, List.set_cons_zero, List.set_cons_succ])
    | (refine SeqS.take3 (v := .agg (C).toArray) (by first | assumption | trivial) (by kernel_rfl) (by decide +kernel) (by decide +kernel) (yields_blk (by rfl) 26 (.tmp 3) rfl rfl (fun w' h => LC.out w' h) (hrC)) ?_
       simp only [Act.put, List.setIfInBounds_toArray, List.set_cons_zero, List.set_cons_succ])
    | (refine SeqS.take3 (v := .agg (D).toArray) (by first | assumption | trivial) (by kernel_rfl) (by decide +kernel) (by decide +kernel) (yields_blk (by rfl) 26 (.tmp 4) rfl rfl (fun w' h => LD.out w' h) (hrD)) ?_
       simp only [Act.put, List.setIfInBounds_toArray, List.set_cons_zero, List.set_cons_succ])
    | (refine SeqS.take3 (v := .agg (Y1).toArray) (by first | assumption | trivial) (by kernel_rfl) (by decide +kernel) (by decide +kernel) (yields_part (by rfl) 23 (.tmp 76) rfl rfl (fun w' h => PD.out w' h) (hrY)) ?_
       simp only [Act.put, List.setIfInBounds_toArray, List.set_cons_zero, List.set_cons_succ])
    | (refine SeqS.take3 (v := .agg (X0).toArray) (by first | assumption | trivial) (by kernel_rfl) (by decide +kernel) (by decide +kernel) (yields_part (by rfl) 23 (.tmp 78) rfl rfl (fun w' h => PC.out w' h) (hrX)) ?_
       simp only [Act.put, List.setIfInBounds_toArray, List.set_cons_zero, List.set_cons_succ])
    | (refine SeqS.take3 (v := ?_) (by first | assumption | trivial) (by kernel_rfl) (by decide +kernel) (by decide +kernel) (Or.inl ⟨by rfl, ?_⟩) ?_
       rotate_left
       focus
         intro w' hb'
         go_simp
         with_reducible rfl
       simp only [Act.put, List.setIfInBounds_toArray, List.set_cons_zero, List.set_cons_succ])
    | (refine SeqS.take3 (v := ?_) (by first | assumption | trivial) (by kernel_rfl) (by decide +kernel) (by decide +kernel) (Or.inl ⟨by rfl, ?_⟩) ?_
       rotate_left
       focus
         intro w' hb'
         have d0 := hqc.out w'
         go_simp
         with_reducible rfl
       simp only [Act.put, List.setIfInBounds_toArray, List.set_cons_zero, List.set_cons_succ])
    | (refine SeqS.take3 (v := undef) (by first | assumption | trivial) (by kernel_rfl) (by decide +kernel) (by decide +kernel) (Or.inr ⟨by rfl, rfl⟩) ?_
       simp only [Act.put, List.setIfInBounds_toArray, List.set_cons_zero, List.set_cons_succ]))
  refine SeqS.alone (by decide +kernel) (by rfl) (fun K hK => ?_)
  go_simp
  go_at_call 20
  refine (t8.out _).mono ?_
  rintro e w18 ⟨rfl, b18⟩
  go_simp
  have S18 : Below w4.heap.size w4 w18 := S17.trans (b18.mono S17.size)
  refine hK _ _ S18 ?_
  clear hK K
  repeat (first
    | (refine SeqS.take (v := ?_) (by first | assumption | trivial) (by kernel_rfl) (by decide +kernel) (by decide +kernel) (Or.inl ⟨by rfl, ?_⟩) ?_
       rotate_left
       focus
         intro w' hb'
         go_simp
         with_reducible rfl
       simp only [Act.put, List.setIfInBounds_toArray, List.set_cons_zero, List.set_cons_succ])
    | (refine SeqS.take (v := ?_) (by first | assumption | trivial) (by kernel_rfl) (by decide +kernel) (by decide +kernel) (Or.inl ⟨by rfl, ?_⟩) ?_
       rotate_left
       focus
         intro w' hb'
         have d0 := hqc.out w'
         go_simp
         with_reducible rfl
       simp only [Act.put, List.setIfInBounds_toArray, List.set_cons_zero, List.set_cons_succ])
    | (refine SeqS.take (v := undef) (by first | assumption | trivial) (by kernel_rfl) (by decide +kernel) (by decide +kernel) (Or.inr ⟨by rfl, rfl⟩) ?_
       simp only [Act.put, List.setIfInBounds_toArray, List.set_cons_zero, List.set_cons_succ])
    | (refine SeqS.take1 (v := ?_) (by first | assumption | trivial) (by kernel_rfl) (by decide +kernel) (by decide +kernel) (Or.inl ⟨by rfl, ?_⟩) ?_
       rotate_left
       focus
         intro w' hb'
         go_simp
         with_reducible rfl
       simp only [Act.put, List.setIfInBounds_toArray, List.set_cons_zero, List.set_cons_succ])
    | (refine SeqS.take1 (v := ?_) (by first | assumption | trivial) (by kernel_rfl) (by decide +kernel) (by decide +kernel) (Or.inl ⟨by rfl, ?_⟩) ?_
       rotate_left
       focus
         intro w' hb'
         have d0 := hqc.out w'
         go_simp
         with_reducible rfl
       simp only [Act.put, List.setIfInBounds_toArray, List.set_cons_zero, List.set_cons_succ])
    | (refine SeqS.take1 (v := undef) (by first | assumption | trivial) (by kernel_rfl) (by decide +kernel) (by decide +kernel) (Or.inr ⟨by rfl, rfl⟩) ?_
       simp only [Act.put, List.setIfInBounds_toArray, List.set_cons_zero, List.set_cons_succ])
    | (refine SeqS.take2 (v := ?_) (by first | assumption | trivial) (by kernel_rfl) (by decide +kernel) (by decide +kernel) (Or.inl ⟨by rfl, ?_⟩) ?_
       rotate_left
       focus
         intro w' hb'
         go_simp
         with_reducible rfl
       simp only [Act.put, List.setIfInBounds_toArray, List.set_cons_zero, List.set_cons_succ])
    | (refine SeqS.take2 (v := ?_) (by first | assumption | trivial) (by kernel_rfl) (by decide +kernel) (by decide +kernel) (Or.inl ⟨by rfl, ?_⟩) ?_
       rotate_left
       focus
         intro w' hb'
         have d0 := hqc.out w'
         go_simp
         with_reducible rfl
       simp only [Act.put, List.setIfInBounds_toArray, List.set_cons_zero, List.set_cons_succ])
    | (refine SeqS.take2 (v := undef) (by first | assumption | trivial) (by kernel_rfl) (by decide +kernel) (by decide +kernel) (Or.inr ⟨by rfl, rfl⟩) ?_
       simp only [Act.put, List.setIfInBounds_toArray, List.set_cons_zero, List.set_cons_succ]))
  refine SeqS.done (by decide +kernel) ?_
  have hG5 := HG4.out.1.keep S18 HG4.out.1.lt
  have hD5 := HG4.out.2.1.keep S18 HG4.out.2.1.lt
  have B5 := HG4.out.2.2.trans (S18.mono HG4.out.2.2.size)
  clear b3 b11 b12 b13 b14 b15 b16 b17 b18 S11 S12 S13 S14 S15 S16 S17 S18 t1 t2 t3 t4 t5 t6 t7 t8 LC LD LX LH PC PD BB HG4 hI5 hI6
  -- the first copy
  go_wp2_with ((with_reducible refine wpList_load_blk rfl 26 (.tmp 3) rfl ?_ hG5 rowBk hCl ?_); rfl)
  refine (t9.out w18 B5).mono ?_
  rintro q w6 ⟨b, d, rfl, ho6, b6⟩
  have hG6 := hG5.keep b6 hG5.lt
  have hD6 := hD5.keep b6 hD5.lt
  have B6 := B5.trans (b6.mono B5.size)
  have hlo6 : ∀ y, b = some y → w18.heap.size ≤ y.block ∧ y.block < w6.heap.size := fun y hy => ho6.lt y.block (by rw [hy]; rfl)
  have lG := hG5.lt
  have lD := hD5.lt
  have hT6 := IdsAt.of_owns ho6
  have hBy6 := Bym.of_owns ho6
  have hlE := hEl.out b d
  have hoE := hE1.out b d
  obtain ⟨C1, hC1⟩ : ∃ C, E b d = C := ⟨_, rfl⟩
  rw [hC1] at hlE hoE
  have hC1H := Lib.hid hC1
  have hB5s := B5.size
  clear hG5 hD5 B5 b6 ho6
  go_wp2_with ((with_reducible refine wpList_alloc_blk rfl 26 rfl hZ0 ?_); refine RowKit.Hid.out ?_)
  refine Lib.hid ?_
  try simp only [Act.put, List.setIfInBounds_toArray, List.set_cons_zero, List.set_cons_succ]
  try simp only [hC1]
  have hGA := hG6.alloc (.cells Z.toArray 26)
  have hDA := hD6.alloc (.cells Z.toArray 26)
  have hNA := Blk.new w6 26 Z
  have bA := below1 w6 (.cells Z.toArray 26)
  have hTA := hT6.keep bA
  have BA := B6.alloc B6.size (.cells Z.toArray 26)
  have hByA := hBy6.grown (World.grownBy_alloc w6 (.cells Z.toArray 26) none) (fun _ _ => by simp)
  have l7 := hG6.lt
  have l8 := hD6.lt
  have l9 := B6.size
  have hin6 := hT6.isIn
  obtain ⟨N, hN⟩ : ∃ N, w6.heap.size = N := ⟨_, rfl⟩
  rw [hN] at hNA l7 l8 l9 hin6 hlo6 ⊢
  obtain ⟨U6, hU6⟩ : ∃ W, w6.alloc (.cells Z.toArray 26) = W := ⟨_, rfl⟩
  rw [hU6] at hGA hDA hNA hTA BA hByA ⊢
  clear hG6 hD6 hT6 B6 hBy6 bA hN hU6 hC1
  refine store_row rfl 26 (.tmp 9) (.tmp 84) rfl rfl rfl hNA rowBk hlE hZl hoE ?_
  intro w7 hN7 hg7
  have hG7 := hGA.grown hg7 (fun e => by injection e with e; omega)
  have hD7 := hDA.grown hg7 (fun e => by injection e with e; omega)
  have hT7 := hTA.grownR hg7 (fun y hy h0 e => by injection e with e; have := hin6 y hy h0; omega)
  have hBy7 := hByA.grown hg7 (fun q hq e => by injection e with e; obtain ⟨h0, y, hy, hyq⟩ := hq; have := hin6 y hy h0; omega)
  have B7 := BA.grown hg7 BA.size (fun q hq => by injection hq with hq; omega)
  clear hGA hDA hNA hTA BA hByA hg7
  go_wp2_with fail
  have b3 : Below w7.heap.size w7 w7.drew := (Below.refl _ _).drew
  have LC := Lib.hid (fun w' (h : Below w7.heap.size w7 w') => hG7.keep h hG7.lt)
  have LD := Lib.hid (fun w' (h : Below w7.heap.size w7 w') => hD7.keep h hD7.lt)
  have LE := Lib.hid (fun w' (h : Below w7.heap.size w7 w') => hN7.keep h hN7.lt)
  have hrE : IsRow Try.prog 26 C1.length := by rw [hlE]; exact rowBk
  have q1 := Lib.hid (fun w' (h : Below w7.heap.size w7 w') => u1.out w' (B7.trans (h.mono B7.size)))
  have q2 := Lib.hid (fun w' (h : Below w7.heap.size w7 w') => u2.out w' (B7.trans (h.mono B7.size)))
  have q3 := Lib.hid (fun w' (h : Below w7.heap.size w7 w') => u3.out w' b d (B7.trans (h.mono B7.size)) (hT7.keep h))
  have q4 := Lib.hid (fun w' (h : Below w7.heap.size w7 w') => u4.out w' b d (B7.trans (h.mono B7.size)) (hT7.keep h))
  rw [hC1H.out] at q3 q4
  have H7 := Lib.hid (And.intro hG7 (And.intro hN7 (And.intro hBy7 B7)))
  clear u1 u2 u3 hT7 hG7 hD7 hN7 hBy7 B7
  refine region_seqS (fun w' => Below w7.heap.size w7 w') (by kernel_rfl) b3 ?_
  simp only [pairs, Nat.reduceAdd]
  repeat (first
    | (refine SeqS.take (v := .agg (C).toArray) (by first | assumption | trivial) (by kernel_rfl) (by decide +kernel) (by decide +kernel) (yields_blk (by rfl) 26 (.tmp 3) rfl rfl (fun w' h => LC.out w' h) (hrC)) ?_
       simp only [Act.put, List.setIfInBounds_toArray, List.set_cons_zero, List.set_cons_succ])
    | (refine SeqS.take (v := .agg (D).toArray) (by first | assumption | trivial) (by kernel_rfl) (by decide +kernel) (by decide +kernel) (yields_blk (by rfl) 26 (.tmp 4) rfl rfl (fun w' h => LD.out w' h) (hrD)) ?_
       simp only [Act.put, List.setIfInBounds_toArray, List.set_cons_zero, List.set_cons_succ])
    | (refine SeqS.take (v := ?_) (by first | assumption | trivial) (by kernel_rfl) (by decide +kernel) (by decide +kernel) (Or.inl ⟨by rfl, ?_⟩) ?_
       rotate_left
       focus
         intro w' hb'
         go_simp
         with_reducible rfl
       simp only [Act.put, List.setIfInBounds_toArray, List.set_cons_zero, List.set_cons_succ])
    | (refine SeqS.take (v := undef) (by first | assumption | trivial) (by kernel_rfl) (by decide +kernel) (by decide +kernel) (Or.inr ⟨by rfl, rfl⟩) ?_
       simp only [Act.put, List.setIfInBounds_toArray, List.set_cons_zero, List.set_cons_succ])
    | (refine SeqS.take1 (v := .agg (C).toArray) (by first | assumption | trivial) (by kernel_rfl) (by decide +kernel) (by decide +kernel) (yields_blk (by rfl) 26 (.tmp 3) rfl rfl (fun w' h => LC.out w' h) (hrC)) ?_
       simp only [Act.put, List.setIfInBounds_toArray, List.set_cons_zero, List.set_cons_succ])
    | (refine SeqS.take1 (v := .agg (D).toArray) (by first | assumption | trivial) (by kernel_rfl) (by decide +kernel) (by decide +kernel) (yields_blk (by rfl) 26 (.tmp 4) rfl rfl (fun w' h => LD.out w' h) (hrD)) ?_
       simp only [Act.put, List.setIfInBounds_toArray, List.set_cons_zero, List.set_cons_succ])
    | (refine SeqS.take1 (v := ?_) (by first | assumption | trivial) (by kernel_rfl) (by decide +kernel) (by decide +kernel) (Or.inl ⟨by rfl, ?_⟩) ?_
       rotate_left
       focus
         intro w' hb'
         go_simp
         with_reducible rfl
       simp only [Act.put, List.setIfInBounds_toArray, List.set_cons_zero, List.set_cons_succ])
    | (refine SeqS.take1 (v := undef) (by first | assumption | trivial) (by kernel_rfl) (by decide +kernel) (by decide +kernel) (Or.inr ⟨by rfl, rfl⟩) ?_
       simp only [Act.put, List.setIfInBounds_toArray, List.set_cons_zero, List.set_cons_succ])
    | (refine SeqS.take2 (v := .agg (C).toArray) (by first | assumption | trivial) (by kernel_rfl) (by decide +kernel) (by decide +kernel) (yields_blk (by rfl) 26 (.tmp 3) rfl rfl (fun w' h => LC.out w' h) (hrC)) ?_
       simp only [Act.put, List.setIfInBounds_toArray, List.set_cons_zero, List.set_cons_succ])
    | (refine SeqS.take2 (v := .agg (D).toArray) (by first | assumption | trivial) (by kernel_rfl) (by decide +kernel) (by decide +kernel) (yields_blk (by rfl) 26 (.tmp 4) rfl rfl (fun w' h => LD.out w' h) (hrD)) ?_
       simp only [Act.put, List.setIfInBounds_toArray, List.set_cons_zero, List.set_cons_succ])
    | (refine SeqS.take2 (v := ?_) (by first | assumption | trivial) (by kernel_rfl) (by decide +kernel) (by decide +kernel) (Or.inl ⟨by rfl, ?_⟩) ?_
       rotate_left
       focus
         intro w' hb'
         go_simp
         with_reducible rfl
       simp only [Act.put, List.setIfInBounds_toArray, List.set_cons_zero, List.set_cons_succ])
    | (refine SeqS.take2 (v := undef) (by first | assumption | trivial) (by kernel_rfl) (by decide +kernel) (by decide +kernel) (Or.inr ⟨by rfl, rfl⟩) ?_
       simp only [Act.put, List.setIfInBounds_toArray, List.set_cons_zero, List.set_cons_succ]))
  refine SeqS.alone (by decide +kernel) (by rfl) (fun K hK => ?_)
  go_simp
  go_at_call 22
  refine (q1.out _ b3).mono ?_
  rintro e w11 ⟨rfl, b11⟩
  go_simp
  have S11 : Below w7.heap.size w7 w11 := b3.trans (b11.mono b3.size)
  refine hK _ _ S11 ?_
  clear hK K
  refine SeqS.alone (by decide +kernel) (by rfl) (fun K hK => ?_)
  go_simp
  go_at_call 13
  refine (q2.out _ S11).mono ?_
  rintro e w12 ⟨rfl, b12⟩
  go_simp
  have S12 : Below w7.heap.size w7 w12 := S11.trans (b12.mono S11.size)
  refine hK _ _ S12 ?_
  clear hK K
  repeat (first
    | (refine SeqS.take (v := .agg (C).toArray) (by first | assumption | trivial) (by kernel_rfl) (by decide +kernel) (by decide +kernel) (yields_blk (by rfl) 26 (.tmp 3) rfl rfl (fun w' h => LC.out w' h) (hrC)) ?_
       simp only [Act.put, List.setIfInBounds_toArray, List.set_cons_zero, List.set_cons_succ])
    | (refine SeqS.take (v := .agg (C1).toArray) (by first | assumption | trivial) (by kernel_rfl) (by decide +kernel) (by decide +kernel) (yields_blk (by rfl) 26 (.tmp 9) rfl rfl (fun w' h => LE.out w' h) (hrE)) ?_
       simp only [Act.put, List.setIfInBounds_toArray, List.set_cons_zero, List.set_cons_succ])
    | (refine SeqS.take (v := ?_) (by first | assumption | trivial) (by kernel_rfl) (by decide +kernel) (by decide +kernel) (Or.inl ⟨by rfl, ?_⟩) ?_
       rotate_left
       focus
         intro w' hb'
         go_simp
         with_reducible rfl
       simp only [Act.put, List.setIfInBounds_toArray, List.set_cons_zero, List.set_cons_succ])
    | (refine SeqS.take (v := undef) (by first | assumption | trivial) (by kernel_rfl) (by decide +kernel) (by decide +kernel) (Or.inr ⟨by rfl, rfl⟩) ?_
       simp only [Act.put, List.setIfInBounds_toArray, List.set_cons_zero, List.set_cons_succ])
    | (refine SeqS.take1 (v := .agg (C).toArray) (by first | assumption | trivial) (by kernel_rfl) (by decide +kernel) (by decide +kernel) (yields_blk (by rfl) 26 (.tmp 3) rfl rfl (fun w' h => LC.out w' h) (hrC)) ?_
       simp only [Act.put, List.setIfInBounds_toArray, List.set_cons_zero, List.set_cons_succ])
    | (refine SeqS.take1 (v := .agg (C1).toArray) (by first | assumption | trivial) (by kernel_rfl) (by decide +kernel) (by decide +kernel) (yields_blk (by rfl) 26 (.tmp 9) rfl rfl (fun w' h => LE.out w' h) (hrE)) ?_
       simp only [Act.put, List.setIfInBounds_toArray, List.set_cons_zero, List.set_cons_succ])
    | (refine SeqS.take1 (v := ?_) (by first | assumption | trivial) (by kernel_rfl) (by decide +kernel) (by decide +kernel) (Or.inl ⟨by rfl, ?_⟩) ?_
       rotate_left
       focus
         intro w' hb'
         go_simp
         with_reducible rfl
       simp only [Act.put, List.setIfInBounds_toArray, List.set_cons_zero, List.set_cons_succ])
    | (refine SeqS.take1 (v := undef) (by first | assumption | trivial) (by kernel_rfl) (by decide +kernel) (by decide +kernel) (Or.inr ⟨by rfl, rfl⟩) ?_
       simp only [Act.put, List.setIfInBounds_toArray, List.set_cons_zero, List.set_cons_succ])
    | (refine SeqS.take2 (v := .agg (C).toArray) (by first | assumption | trivial) (by kernel_rfl) (by decide +kernel) (by decide +kernel) (yields_blk (by rfl) 26 (.tmp 3) rfl rfl (fun w' h => LC.out w' h) (hrC)) ?_
       simp only [Act.put, List.setIfInBounds_toArray, List.set_cons_zero, List.set_cons_succ])
    | (refine SeqS.take2 (v := .agg (C1).toArray) (by first | assumption | trivial) (by kernel_rfl) (by decide +kernel) (by decide +kernel) (yields_blk (by rfl) 26 (.tmp 9) rfl rfl (fun w' h => LE.out w' h) (hrE)) ?_
       simp only [Act.put, List.setIfInBounds_toArray, List.set_cons_zero, List.set_cons_succ])
    | (refine SeqS.take2 (v := ?_) (by first | assumption | trivial) (by kernel_rfl) (by decide +kernel) (by decide +kernel) (Or.inl ⟨by rfl, ?_⟩) ?_
       rotate_left
       focus
         intro w' hb'
         go_simp
         with_reducible rfl
       simp only [Act.put, List.setIfInBounds_toArray, List.set_cons_zero, List.set_cons_succ])
    | (refine SeqS.take2 (v := undef) (by first | assumption | trivial) (by kernel_rfl) (by decide +kernel) (by decide +kernel) (Or.inr ⟨by rfl, rfl⟩) ?_
       simp only [Act.put, List.setIfInBounds_toArray, List.set_cons_zero, List.set_cons_succ]))
  refine SeqS.alone (by decide +kernel) (by rfl) (fun K hK => ?_)
  go_simp
  go_at_call 22
  refine (q3.out _ S12).mono ?_
  rintro e w13 ⟨rfl, b13⟩
  go_simp
  have S13 : Below w7.heap.size w7 w13 := S12.trans (b13.mono S12.size)
  refine hK _ _ S13 ?_
  clear hK K
  repeat (first
    | (refine SeqS.take (v := .agg (C).toArray) (by first | assumption | trivial) (by kernel_rfl) (by decide +kernel) (by decide +kernel) (yields_blk (by rfl) 26 (.tmp 3) rfl rfl (fun w' h => LC.out w' h) (hrC)) ?_
       simp only [Act.put, List.setIfInBounds_toArray, List.set_cons_zero, List.set_cons_succ])
    | (refine SeqS.take (v := .agg (C1).toArray) (by first | assumption | trivial) (by kernel_rfl) (by decide +kernel) (by decide +kernel) (yields_blk (by rfl) 26 (.tmp 9) rfl rfl (fun w' h => LE.out w' h) (hrE)) ?_
       simp only [Act.put, List.setIfInBounds_toArray, List.set_cons_zero, List.set_cons_succ])
    | (refine SeqS.take (v := ?_) (by first | assumption | trivial) (by kernel_rfl) (by decide +kernel) (by decide +kernel) (Or.inl ⟨by rfl, ?_⟩) ?_
       rotate_left
       focus
         intro w' hb'
         go_simp
         with_reducible rfl
       simp only [Act.put, List.setIfInBounds_toArray, List.set_cons_zero, List.set_cons_succ])
    | (refine SeqS.take (v := undef) (by first | assumption | trivial) (by kernel_rfl) (by decide +kernel) (by decide +kernel) (Or.inr ⟨by rfl, rfl⟩) ?_
       simp only [Act.put, List.setIfInBounds_toArray, List.set_cons_zero, List.set_cons_succ])
    | (refine SeqS.take1 (v := .agg (C).toArray) (by first | assumption | trivial) (by kernel_rfl) (by decide +kernel) (by decide +kernel) (yields_blk (by rfl) 26 (.tmp 3) rfl rfl (fun w' h => LC.out w' h) (hrC)) ?_
       simp only [Act.put, List.setIfInBounds_toArray, List.set_cons_zero, List.set_cons_succ])
    | (refine SeqS.take1 (v := .agg (C1).toArray) (by first | assumption | trivial) (by kernel_rfl) (by decide +kernel) (by decide +kernel) (yields_blk (by rfl) 26 (.tmp 9) rfl rfl (fun w' h => LE.out w' h) (hrE)) ?_
       simp only [Act.put, List.setIfInBounds_toArray, List.set_cons_zero, List.set_cons_succ])
    | (refine SeqS.take1 (v := ?_) (by first | assumption | trivial) (by kernel_rfl) (by decide +kernel) (by decide +kernel) (Or.inl ⟨by rfl, ?_⟩) ?_
       rotate_left
       focus
         intro w' hb'
         go_simp
         with_reducible rfl
       simp only [Act.put, List.setIfInBounds_toArray, List.set_cons_zero, List.set_cons_succ])
    | (refine SeqS.take1 (v := undef) (by first | assumption | trivial) (by kernel_rfl) (by decide +kernel) (by decide +kernel) (Or.inr ⟨by rfl, rfl⟩) ?_
       simp only [Act.put, List.setIfInBounds_toArray, List.set_cons_zero, List.set_cons_succ])
    | (refine SeqS.take2 (v := .agg (C).toArray) (by first | assumption | trivial) (by kernel_rfl) (by decide +kernel) (by decide +kernel) (yields_blk (by rfl) 26 (.tmp 3) rfl rfl (fun w' h => LC.out w' h) (hrC)) ?_
       simp only [Act.put, List.setIfInBounds_toArray, List.set_cons_zero, List.set_cons_succ])
    | (refine SeqS.take2 (v := .agg (C1).toArray) (by first | assumption | trivial) (by kernel_rfl) (by decide +kernel) (by decide +kernel) (yields_blk (by rfl) 26 (.tmp 9) rfl rfl (fun w' h => LE.out w' h) (hrE)) ?_
       simp only [Act.put, List.setIfInBounds_toArray, List.set_cons_zero, List.set_cons_succ])
    | (refine SeqS.take2 (v := ?_) (by first | assumption | trivial) (by kernel_rfl) (by decide +kernel) (by decide +kernel) (Or.inl ⟨by rfl, ?_⟩) ?_
       rotate_left
       focus
         intro w' hb'
         go_simp
         with_reducible rfl
       simp only [Act.put, List.setIfInBounds_toArray, List.set_cons_zero, List.set_cons_succ])
    | (refine SeqS.take2 (v := undef) (by first | assumption | trivial) (by kernel_rfl) (by decide +kernel) (by decide +kernel) (Or.inr ⟨by rfl, rfl⟩) ?_
       simp only [Act.put, List.setIfInBounds_toArray, List.set_cons_zero, List.set_cons_succ]))
  refine SeqS.alone (by decide +kernel) (by rfl) (fun K hK => ?_)
  go_simp
  go_at_call 13
  refine (q4.out _ S13).mono ?_
  rintro e w14 ⟨rfl, b14⟩
  go_simp
  have S14 : Below w7.heap.size w7 w14 := S13.trans (b14.mono S13.size)
  refine hK _ _ S14 ?_
  clear hK K
  repeat (first
    | (refine SeqS.take (v := ?_) (by first | assumption | trivial) (by kernel_rfl) (by decide +kernel) (by decide +kernel) (Or.inl ⟨by rfl, ?_⟩) ?_
       rotate_left
       focus
         intro w' hb'
         go_simp
         with_reducible rfl
       simp only [Act.put, List.setIfInBounds_toArray, List.set_cons_zero, List.set_cons_succ])
    | (refine SeqS.take (v := undef) (by first | assumption | trivial) (by kernel_rfl) (by decide +kernel) (by decide +kernel) (Or.inr ⟨by rfl, rfl⟩) ?_
       simp only [Act.put, List.setIfInBounds_toArray, List.set_cons_zero, List.set_cons_succ])
    | (refine SeqS.take1 (v := ?_) (by first | assumption | trivial) (by kernel_rfl) (by decide +kernel) (by decide +kernel) (Or.inl ⟨by rfl, ?_⟩) ?_
       rotate_left
       focus
         intro w' hb'
         go_simp
         with_reducible rfl
       simp only [Act.put, List.setIfInBounds_toArray, List.set_cons_zero, List.set_cons_succ])
    | (refine SeqS.take1 (v := undef) (by first | assumption | trivial) (by kernel_rfl) (by decide +kernel) (by decide +kernel) (Or.inr ⟨by rfl, rfl⟩) ?_
       simp only [Act.put, List.setIfInBounds_toArray, List.set_cons_zero, List.set_cons_succ])
    | (refine SeqS.take2 (v := ?_) (by first | assumption | trivial) (by kernel_rfl) (by decide +kernel) (by decide +kernel) (Or.inl ⟨by rfl, ?_⟩) ?_
       rotate_left
       focus
         intro w' hb'
         go_simp
         with_reducible rfl
       simp only [Act.put, List.setIfInBounds_toArray, List.set_cons_zero, List.set_cons_succ])
    | (refine SeqS.take2 (v := undef) (by first | assumption | trivial) (by kernel_rfl) (by decide +kernel) (by decide +kernel) (Or.inr ⟨by rfl, rfl⟩) ?_
       simp only [Act.put, List.setIfInBounds_toArray, List.set_cons_zero, List.set_cons_succ]))
  refine SeqS.done (by decide +kernel) ?_
  have hG8 := H7.out.1.keep S14 H7.out.1.lt
  have hN8 := H7.out.2.1.keep S14 H7.out.2.1.lt
  have hBy8 := H7.out.2.2.1.keep S14
  have B8 := H7.out.2.2.2.trans (S14.mono H7.out.2.2.2.size)
  clear b3 b11 b12 b13 b14 S11 S12 S13 S14 q1 q2 q3 q4 LC LD LE H7 hrE
  -- the second copy
  go_wp2_with ((with_reducible refine wpList_load_blk rfl 26 (.tmp 3) rfl ?_ hG8 rowBk hCl ?_); rfl)
  refine (t9.out _ B8).mono ?_
  rintro q w9 ⟨b2, d2, rfl, ho9, b9⟩
  have lN := hN8.lt
  have hG9 := hG8.keep b9 hG8.lt
  have hN9 := hN8.keep b9 hN8.lt
  have hBy9 := hBy8.keep b9
  have B9 := B8.trans (b9.mono B8.size)
  have hlo9 : ∀ y, b2 = some y → N < y.block ∧ y.block < w9.heap.size := fun y hy => by have := ho9.lt y.block (by rw [hy]; rfl); omega
  have hT9 := IdsAt.of_owns ho9
  have hlF := hEl.out b2 d2
  have hoF := hE1.out b2 d2
  obtain ⟨C2, hC2⟩ : ∃ C, E b2 d2 = C := ⟨_, rfl⟩
  rw [hC2] at hlF hoF
  have hC2H := Lib.hid hC2
  clear hG8 hN8 hBy8 B8 b9 ho9 t9
  go_wp2_with ((with_reducible refine wpList_alloc_blk rfl 26 rfl hZ0 ?_); refine RowKit.Hid.out ?_)
  refine Lib.hid ?_
  try simp only [Act.put, List.setIfInBounds_toArray, List.set_cons_zero, List.set_cons_succ]
  try simp only [hC2]
  have hGA := hG9.alloc (.cells Z.toArray 26)
  have hNA := hN9.alloc (.cells Z.toArray 26)
  have hOA := Blk.new w9 26 Z
  have bA := below1 w9 (.cells Z.toArray 26)
  have hTA := hT9.keep bA
  have hByA := hBy9.keep bA
  have BA := B9.alloc B9.size (.cells Z.toArray 26)
  have m1 := hG9.lt
  have m2 := hN9.lt
  have m3 := B9.size
  obtain ⟨O, hO⟩ : ∃ N, w9.heap.size = N := ⟨_, rfl⟩
  rw [hO] at hOA m1 m2 m3 hlo9 ⊢
  obtain ⟨U9, hU9⟩ : ∃ W, w9.alloc (.cells Z.toArray 26) = W := ⟨_, rfl⟩
  rw [hU9] at hGA hNA hOA hTA BA hByA ⊢
  clear hG9 hN9 hT9 B9 hBy9 bA hO hU9 hC2
  refine store_row rfl 26 (.tmp 10) (.tmp 105) rfl rfl rfl hOA rowBk hlF hZl hoF ?_
  intro w10 hO10 hg10
  have hG10 := hGA.grown hg10 (fun e => by injection e with e; omega)
  have hN10 := hNA.grown hg10 (fun e => by injection e with e; omega)
  have hT10 := hTA.grownR hg10 (fun y hy h0 e => by injection e with e; have := hlo9 y hy; omega)
  have hBy10 := hByA.grown hg10 (fun q hq e => by injection e with e; obtain ⟨h0, y, hy, hyq⟩ := hq; have := hlo6 y hy; omega)
  have B10 := BA.grown hg10 BA.size (fun q hq => by injection hq with hq; omega)
  have n5 := f5.out w10 N b d (by rw [hC1H.out]; exact hN10)
  have hAt : ∀ q, Atm b n q → w.heap.size ≤ q ∧ q ≠ G ∧ q ≠ N ∧ q < N := fun q ⟨h0, y, hy, hyq⟩ => by have := hlo6 y hy; omega
  clear hGA hNA hOA hTA BA hByA hg10
  go_wp2_with fail
  go_loopw [109] (fun i wr => ∃ j : Nat, j ≤ n ∧ i = .int .i64 j ∧ Bym wr b n d ∧ Moved (Atm b n) w10 wr) (fun i _ => n - (intOf i).toNat)
  case atStart => exact ⟨0, Nat.zero_le _, rfl, hBy10, Moved.rfl'⟩
  case round =>
    clear n5
    obtain ⟨j, hj, rfl, hBy, hMv⟩ := hrel
    have hNr := blk_moved hN10 hMv (fun h => (hAt N h).2.2.1 rfl)
    by_cases hlt : j < n
    · have hji : (j : Int) < (n : Int) := by omega
      obtain ⟨V5, hV5⟩ : ∃ V, wr.drew = V := ⟨_, rfl⟩
      have hByV : Bym V5 b n d := by rw [← hV5]; exact hBy.keep (Below.drew (Below.refl _ _))
      have hNV : Blk V5 N 26 C1 := by rw [← hV5]; exact hNr
      have hMV : Moved (Atm b n) w10 V5 := by rw [← hV5]; exact hMv.then (Moved.of_below (Below.drew (Below.refl _ _)))
      obtain ⟨o, v, hbo, hc, hf, hinc⟩ := hByV.inc j hlt
      have hoN : o ≠ N := fun e => (hAt o ⟨by omega, _, hbo, rfl⟩).2.2.1 e
      subst hbo
      have n5 := f5.out V5 N (some ⟨o, 0, none⟩) d (by rw [hC1H.out]; exact hNV)
      obtain ⟨v', hv'⟩ : ∃ v', (v + 1) % 256 = v' := ⟨_, rfl⟩
      have hv'' : IntKind.u8.wrap (v + 1) = v' := by rw [IntKind.wrap_u8]; exact hv'
      have n5S := Lib.hid (f5.out _ N (some ⟨o, 0, none⟩) d (by rw [hC1H.out]; exact hNV.far (p := ⟨o, j * 32, none⟩) (by show N ≠ o; omega) (.int .u8 v')))
      have hincH := Lib.hid (hinc v')
      have hMvH := Lib.hid hMV
      have hltH := Lib.hid hlt
      clear hlt hj hNr hinc hBy hMv hByV hNV hMV
      go_wp2_with fail
      refine region_seqS (fun w' => w'.cell? ⟨N, 64, none⟩ = some (.slice (some ⟨o, 0, none⟩) n d)) (by kernel_rfl) (by rw [hV5]; exact n5) ?_
      simp only [pairs, Nat.reduceAdd]
      try rw [hV5]
      clear hV5
      repeat (first
        | (refine SeqS.take (v := ?_) (by first | assumption | trivial) (by kernel_rfl) (by decide +kernel) (by decide +kernel) (Or.inl ⟨by rfl, ?_⟩) ?_
           rotate_left
           focus
             intro w' hb'
             go_simp
             with_reducible rfl
           simp only [Act.put, List.setIfInBounds_toArray, List.set_cons_zero, List.set_cons_succ])
        | (refine SeqS.take (v := ?_) (by first | assumption | trivial) (by kernel_rfl) (by decide +kernel) (by decide +kernel) (Or.inl ⟨by rfl, ?_⟩) ?_
           rotate_left
           focus
             intro w' hb'
             have d0 := hb'
             go_simp
             with_reducible rfl
           simp only [Act.put, List.setIfInBounds_toArray, List.set_cons_zero, List.set_cons_succ])
        | (refine SeqS.take (v := undef) (by first | assumption | trivial) (by kernel_rfl) (by decide +kernel) (by decide +kernel) (Or.inr ⟨by rfl, rfl⟩) ?_
           simp only [Act.put, List.setIfInBounds_toArray, List.set_cons_zero, List.set_cons_succ])
        | (refine SeqS.take1 (v := ?_) (by first | assumption | trivial) (by kernel_rfl) (by decide +kernel) (by decide +kernel) (Or.inl ⟨by rfl, ?_⟩) ?_
           rotate_left
           focus
             intro w' hb'
             go_simp
             with_reducible rfl
           simp only [Act.put, List.setIfInBounds_toArray, List.set_cons_zero, List.set_cons_succ])
        | (refine SeqS.take1 (v := ?_) (by first | assumption | trivial) (by kernel_rfl) (by decide +kernel) (by decide +kernel) (Or.inl ⟨by rfl, ?_⟩) ?_
           rotate_left
           focus
             intro w' hb'
             have d0 := hb'
             go_simp
             with_reducible rfl
           simp only [Act.put, List.setIfInBounds_toArray, List.set_cons_zero, List.set_cons_succ])
        | (refine SeqS.take1 (v := undef) (by first | assumption | trivial) (by kernel_rfl) (by decide +kernel) (by decide +kernel) (Or.inr ⟨by rfl, rfl⟩) ?_
           simp only [Act.put, List.setIfInBounds_toArray, List.set_cons_zero, List.set_cons_succ])
        | (refine SeqS.take2 (v := ?_) (by first | assumption | trivial) (by kernel_rfl) (by decide +kernel) (by decide +kernel) (Or.inl ⟨by rfl, ?_⟩) ?_
           rotate_left
           focus
             intro w' hb'
             go_simp
             with_reducible rfl
           simp only [Act.put, List.setIfInBounds_toArray, List.set_cons_zero, List.set_cons_succ])
        | (refine SeqS.take2 (v := ?_) (by first | assumption | trivial) (by kernel_rfl) (by decide +kernel) (by decide +kernel) (Or.inl ⟨by rfl, ?_⟩) ?_
           rotate_left
           focus
             intro w' hb'
             have d0 := hb'
             go_simp
             with_reducible rfl
           simp only [Act.put, List.setIfInBounds_toArray, List.set_cons_zero, List.set_cons_succ])
        | (refine SeqS.take2 (v := undef) (by first | assumption | trivial) (by kernel_rfl) (by decide +kernel) (by decide +kernel) (Or.inr ⟨by rfl, rfl⟩) ?_
           simp only [Act.put, List.setIfInBounds_toArray, List.set_cons_zero, List.set_cons_succ])
        | (refine SeqS.take3 (v := ?_) (by first | assumption | trivial) (by kernel_rfl) (by decide +kernel) (by decide +kernel) (Or.inl ⟨by rfl, ?_⟩) ?_
           rotate_left
           focus
             intro w' hb'
             go_simp
             with_reducible rfl
           simp only [Act.put, List.setIfInBounds_toArray, List.set_cons_zero, List.set_cons_succ])
        | (refine SeqS.take3 (v := ?_) (by first | assumption | trivial) (by kernel_rfl) (by decide +kernel) (by decide +kernel) (Or.inl ⟨by rfl, ?_⟩) ?_
           rotate_left
           focus
             intro w' hb'
             have d0 := hb'
             go_simp
             with_reducible rfl
           simp only [Act.put, List.setIfInBounds_toArray, List.set_cons_zero, List.set_cons_succ])
        | (refine SeqS.take3 (v := undef) (by first | assumption | trivial) (by kernel_rfl) (by decide +kernel) (by decide +kernel) (Or.inr ⟨by rfl, rfl⟩) ?_
           simp only [Act.put, List.setIfInBounds_toArray, List.set_cons_zero, List.set_cons_succ]))
      refine SeqS.alone (by decide +kernel) (by rfl) (fun K5 hK5 => ?_)
      go_simp
      refine hK5 _ _ n5 ?_
      clear hK5 K5
      try simp only [Act.put, List.setIfInBounds_toArray, List.set_cons_zero, List.set_cons_succ]
      repeat (first
        | (refine SeqS.take (v := ?_) (by first | assumption | trivial) (by kernel_rfl) (by decide +kernel) (by decide +kernel) (Or.inl ⟨by rfl, ?_⟩) ?_
           rotate_left
           focus
             intro w' hb'
             go_simp
             with_reducible rfl
           simp only [Act.put, List.setIfInBounds_toArray, List.set_cons_zero, List.set_cons_succ])
        | (refine SeqS.take (v := ?_) (by first | assumption | trivial) (by kernel_rfl) (by decide +kernel) (by decide +kernel) (Or.inl ⟨by rfl, ?_⟩) ?_
           rotate_left
           focus
             intro w' hb'
             have d0 := hv'
             go_simp
             with_reducible rfl
           simp only [Act.put, List.setIfInBounds_toArray, List.set_cons_zero, List.set_cons_succ])
        | (refine SeqS.take (v := undef) (by first | assumption | trivial) (by kernel_rfl) (by decide +kernel) (by decide +kernel) (Or.inr ⟨by rfl, rfl⟩) ?_
           simp only [Act.put, List.setIfInBounds_toArray, List.set_cons_zero, List.set_cons_succ])
        | (refine SeqS.take1 (v := ?_) (by first | assumption | trivial) (by kernel_rfl) (by decide +kernel) (by decide +kernel) (Or.inl ⟨by rfl, ?_⟩) ?_
           rotate_left
           focus
             intro w' hb'
             go_simp
             with_reducible rfl
           simp only [Act.put, List.setIfInBounds_toArray, List.set_cons_zero, List.set_cons_succ])
        | (refine SeqS.take1 (v := ?_) (by first | assumption | trivial) (by kernel_rfl) (by decide +kernel) (by decide +kernel) (Or.inl ⟨by rfl, ?_⟩) ?_
           rotate_left
           focus
             intro w' hb'
             have d0 := hv'
             go_simp
             with_reducible rfl
           simp only [Act.put, List.setIfInBounds_toArray, List.set_cons_zero, List.set_cons_succ])
        | (refine SeqS.take1 (v := undef) (by first | assumption | trivial) (by kernel_rfl) (by decide +kernel) (by decide +kernel) (Or.inr ⟨by rfl, rfl⟩) ?_
           simp only [Act.put, List.setIfInBounds_toArray, List.set_cons_zero, List.set_cons_succ])
        | (refine SeqS.take2 (v := ?_) (by first | assumption | trivial) (by kernel_rfl) (by decide +kernel) (by decide +kernel) (Or.inl ⟨by rfl, ?_⟩) ?_
           rotate_left
           focus
             intro w' hb'
             go_simp
             with_reducible rfl
           simp only [Act.put, List.setIfInBounds_toArray, List.set_cons_zero, List.set_cons_succ])
        | (refine SeqS.take2 (v := ?_) (by first | assumption | trivial) (by kernel_rfl) (by decide +kernel) (by decide +kernel) (Or.inl ⟨by rfl, ?_⟩) ?_
           rotate_left
           focus
             intro w' hb'
             have d0 := hv'
             go_simp
             with_reducible rfl
           simp only [Act.put, List.setIfInBounds_toArray, List.set_cons_zero, List.set_cons_succ])
        | (refine SeqS.take2 (v := undef) (by first | assumption | trivial) (by kernel_rfl) (by decide +kernel) (by decide +kernel) (Or.inr ⟨by rfl, rfl⟩) ?_
           simp only [Act.put, List.setIfInBounds_toArray, List.set_cons_zero, List.set_cons_succ]))
      refine SeqS.alone (by decide +kernel) (by rfl) (fun K5 hK5 => ?_)
      go_simp
      refine hK5 _ _ n5S.out ?_
      clear hK5 K5
      refine SeqS.done (by decide +kernel) ?_
      go_wp2
      exact ⟨⟨j + 1, by have := hltH.out; omega, by congr 1, hincH.out.1, hMvH.out.then hincH.out.2⟩, by simp only [intOf]; have := hltH.out; omega⟩
    · have hji : ¬ (j : Int) < (n : Int) := by omega
      have hGr := blk_moved hG10 hMv (fun h => (hAt G h).2.1 rfl)
      have hOr := blk_moved hO10 hMv (fun h => by have := (hAt O h).2.2.2; omega)
      have Br := B10.trans (hMv.below (fun q hq => (hAt q hq).1) B10.size)
      have hTr := ids_stay hT10 hMv (fun y hy h0 h => by have := (hAt _ h).2.2.2; have := hlo9 y hy; omega)
      have sm := Lib.hid (u4.out wr b2 d2 Br hTr)
      rw [hC2H.out] at sm
      clear hlt hj hMv hBy hBy10 hG10 hN10 hNr hO10 B10 hT10 hTr
      go_wp2_with (first
        | ((with_reducible refine wpList_load_blk rfl 26 (.tmp 3) rfl ?_ hGr rowBk hCl ?_); rfl)
        | ((with_reducible refine wpList_load_blk rfl 26 (.tmp 10) rfl ?_ hOr rowBk hlF ?_); rfl))
      refine sm.out.mono ?_
      rintro q w11 ⟨rfl, b11⟩
      have B11 := Br.trans (b11.mono Br.size)
      clear sm hGr hOr Br b11
      go_wp2_with fail
      refine (alive16_any w11).mono ?_
      rintro q w12 ⟨rfl, b12⟩
      go_wp2
      go_ret
      exact ⟨by first | rfl | simp, B11.trans (b12.mono B11.size)⟩
end Go.Proofs.Ytndodckcncejiaa

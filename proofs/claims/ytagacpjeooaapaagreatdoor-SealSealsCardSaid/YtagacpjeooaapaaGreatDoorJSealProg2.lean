/-
  Texts of stages that were proved on their own, joined: CipherKey, CipherChg, CipherExp, CipherRefMix, CipherEx, StreamEx, StreamMem, StreamPlain, StreamNum, CipherDec, CipherNew, CipherAlive, CipherRefTab, CipherRefNew, CipherRefXor, CipherRefEnc, StreamNew. Each begins with its own words.
-/
import Derived.Test.YtagacpjeooaapaaGreatDoorJSealProg1
import Derived.Test.YtagacpjeooaapaaGreatDoorWordBytes
import Derived.Test.YtagacpjeooaapaaGreatDoorWordTurn
import Derived.Test.YtagacpjeooaapaaGreatDoorWordWords
import Derived.Test.YtagacpjeooaapaaGreatDoorSeqS
import Derived.Test.YtagacpjeooaapaaGreatDoorSteps
import Derived.Test.YtagacpjeooaapaaGreatDoorEqArr
import Derived.Test.YtagacpjeooaapaaGreatDoorAppends
import Derived.Test.YtagacpjeooaapaaGreatDoorWordRefWords
import Derived.Test.YtagacpjeooaapaaGreatDoorBlocks2

/-
  The key's words and the round keys' bytes, on plain numbers: a word from the one ahead of it and the one eight before. Conditions: words are numbers below 2^32.
-/
namespace Go.Proofs.YtagacpjeooaapaaGreatDoor
open Go.RowKit

/-- All are words. -/
def Wd (f : Nat → Nat) : Prop := ∀ i, f i < 4294967296
def rl8 (x : Nat) : Nat := (x * 256 % 4294967296) ||| (x / 16777216)
theorem rl8_lt (x : Nat) (h : x < 4294967296) : rl8 x < 4294967296 := Nat.or_lt_two_pow (n := 32) (Nat.mod_lt _ (by decide)) (Nat.lt_of_le_of_lt (Nat.div_le_self _ _) h)
theorem rotl_rl8 (x : Nat) (h : x < 4294967296) : rotl (x : Int) 8 = (rl8 x : Nat) := by
  rw [← rotl_eq (x : Int) 8 8 (by decide), ← wrap_rl (x : Int) 8 (by omega) (by omega) (by decide), IntKind.wrap_u32]
  have e1 : (x : Int) * 2 ^ 8 % 4294967296 = ((x * 256 % 4294967296 : Nat) : Int) := by omega
  have e2 : (x : Int) / 2 ^ (32 - 8) = ((x / 16777216 : Nat) : Int) := by
    rw [show ((2 : Int) ^ (32 - 8)) = 16777216 by decide]; omega
  rw [e1, e2]
  exact bits_or32 _ _ (Nat.mod_lt _ (by decide)) (Nat.lt_of_le_of_lt (Nat.div_le_self _ _) h)
/-- What the word ahead of the word t gives to it. -/
def chg (t x : Nat) : Nat := if t % 8 = 0 then bwd sb (rl8 x) 4 ^^^ (pw 2 (t / 8 - 1) * 16777216) else if t % 8 = 4 then bwd sb x 4 else x
theorem wd4_lt (x : Nat) : bwd sb x 4 < 4294967296 := wd_lt sb sb_256 x 4
theorem pw2_lt (n : Nat) : pw 2 n * 16777216 < 4294967296 := by
  have := pw_256 (a := 2) n
  omega
theorem chg_lt (t x : Nat) (h : x < 4294967296) : chg t x < 4294967296 := by
  unfold chg
  split
  · exact Nat.xor_lt_two_pow (n := 32) (wd4_lt _) (pw2_lt _)
  · split
    · exact wd4_lt _
    · exact h
/-- The words, n more than the key's own. -/
def kws (u : Nat → Nat) : Nat → Nat → Nat
  | 0 => u
  | n + 1 => upd (kws u n) (8 + n) (kws u n n ^^^ chg (8 + n) (kws u n (7 + n)))
theorem kws_wd {u : Nat → Nat} (h : Wd u) : ∀ n, Wd (kws u n)
  | 0 => h
  | n + 1 => fun i => by
    show upd _ _ _ i < _
    unfold upd
    split
    · exact Nat.xor_lt_two_pow (n := 32) (kws_wd h n n) (chg_lt _ _ (kws_wd h n _))
    · exact kws_wd h n i
/-- The bytes of words. -/
def kb (W : Nat → Nat) (j : Nat) : Nat := W (j / 4) / 2 ^ (8 * (3 - j % 4)) % 256
theorem kb_by (W : Nat → Nat) : By (kb W) := fun _ => Nat.mod_lt _ (by decide)
/-- Words as a list of numbers. -/
def wordsL (n : Nat) (f : Nat → Nat) (s : Nat) : List Int := (List.range n).map fun i => (f (s + i) : Int)
theorem wordsL_len (n : Nat) (f : Nat → Nat) (s : Nat) : (wordsL n f s).length = n := by simp [wordsL]
theorem wordsL_at (n : Nat) (f : Nat → Nat) (s i : Nat) (hi : i < n) : (wordsL n f s).getD i 0 = (f (s + i) : Int) := by
  simp [wordsL, List.getD_eq_getElem?_getD, hi]
theorem wordsL_range {f : Nat → Nat} (h : Wd f) (n s : Nat) : ∀ x ∈ wordsL n f s, 0 ≤ x ∧ x < 4294967296 := by
  intro x hx
  obtain ⟨i, _, rfl⟩ := List.mem_map.1 hx
  have := h (s + i)
  omega
theorem bytes4_row (x : Nat) (h : x < 4294967296) : bytes4 (x : Int) = [((x / 2 ^ 24 % 256 : Nat) : Int), ((x / 2 ^ 16 % 256 : Nat) : Int), ((x / 2 ^ 8 % 256 : Nat) : Int), ((x / 2 ^ 0 % 256 : Nat) : Int)] := by
  unfold bytes4
  have e0 : (x : Int) / 16777216 = ((x / 2 ^ 24 % 256 : Nat) : Int) := by omega
  have e1 : (x : Int) / 65536 % 256 = ((x / 2 ^ 16 % 256 : Nat) : Int) := by omega
  have e2 : (x : Int) / 256 % 256 = ((x / 2 ^ 8 % 256 : Nat) : Int) := by omega
  have e3 : (x : Int) % 256 = ((x / 2 ^ 0 % 256 : Nat) : Int) := by omega
  rw [e0, e1, e2, e3]
theorem kb_at (W : Nat → Nat) (r i j : Nat) (hj : j < 4) : kb W (16 * r + (4 * i + j)) = W (4 * r + i) / 2 ^ (8 * (3 - j)) % 256 := by
  unfold kb
  rw [show (16 * r + (4 * i + j)) / 4 = 4 * r + i by omega, show (16 * r + (4 * i + j)) % 4 = j by omega]
theorem bytes_key (W : Nat → Nat) (h : Wd W) (r : Nat) : (bytesOf (wordsL 4 W (4 * r))).map (Value.int .u8) = rowN 16 (fun i => kb W (16 * r + i)) := by
  have e : bytesOf (wordsL 4 W (4 * r)) = bytes4 (W (4 * r + 0) : Int) ++ (bytes4 (W (4 * r + 1) : Int) ++ (bytes4 (W (4 * r + 2) : Int) ++ (bytes4 (W (4 * r + 3) : Int) ++ []))) := rfl
  rw [e, bytes4_row _ (h _), bytes4_row _ (h _), bytes4_row _ (h _), bytes4_row _ (h _)]
  have l : rowN 16 (fun i => kb W (16 * r + i)) = [0, 1, 2, 3, 4, 5, 6, 7, 8, 9, 10, 11, 12, 13, 14, 15].map fun i => Value.int .u8 ((kb W (16 * r + i) : Nat) : Int) := rfl
  rw [l]
  have k0 := kb_at W r 0 0 (by decide)
  have k1 := kb_at W r 0 1 (by decide)
  have k2 := kb_at W r 0 2 (by decide)
  have k3 := kb_at W r 0 3 (by decide)
  have k4 := kb_at W r 1 0 (by decide)
  have k5 := kb_at W r 1 1 (by decide)
  have k6 := kb_at W r 1 2 (by decide)
  have k7 := kb_at W r 1 3 (by decide)
  have k8 := kb_at W r 2 0 (by decide)
  have k9 := kb_at W r 2 1 (by decide)
  have k10 := kb_at W r 2 2 (by decide)
  have k11 := kb_at W r 2 3 (by decide)
  have k12 := kb_at W r 3 0 (by decide)
  have k13 := kb_at W r 3 1 (by decide)
  have k14 := kb_at W r 3 2 (by decide)
  have k15 := kb_at W r 3 3 (by decide)
  simp only [Nat.mul_zero, Nat.mul_one, Nat.zero_add, Nat.reduceMul, Nat.reduceAdd, Nat.reduceSub] at k0 k1 k2 k3 k4 k5 k6 k7 k8 k9 k10 k11 k12 k13 k14 k15
  simp only [List.map_cons, List.map_nil, List.cons_append, List.nil_append, k0, k1, k2, k3, k4, k5, k6, k7, k8, k9, k10, k11, k12, k13, k14, k15]
end Go.Proofs.YtagacpjeooaapaaGreatDoor

/-
  What a cipher that is nil, or that no call made, does with a block; and what a word of the key gives to the next one.
-/
namespace Go.Proofs.YtagacpjeooaapaaGreatDoor
open Go.RowKit

theorem bits_xor32 (a b : Nat) (ha : a < 4294967296) (hb : b < 4294967296) : bits .xor .u32 (a : Int) (b : Int) = ((a ^^^ b : Nat) : Int) := by
  show IntKind.u32.wrap (((BitVec.ofInt 32 (a : Int)) ^^^ (BitVec.ofInt 32 (b : Int))).toNat : Int) = _
  rw [BitVec.toNat_xor, ofInt_toNat 32 a ha, ofInt_toNat 32 b hb, IntKind.wrap_u32]
  have : a ^^^ b < 2 ^ 32 := Nat.xor_lt_two_pow ha hb
  omega
theorem pz_pw (a n : Nat) : pz a (n : Int) = pw a n := by
  unfold pz
  rw [if_neg (by omega), Int.toNat_natCast]

set_option maxRecDepth 100000 in
set_option maxHeartbeats 400000 in
theorem cEnc_nil (b : Nat → Nat) (w : World) :
    Calls Tryz.prog 48 #[.pointer none, .agg (rowN 16 b).toArray] w fun e w' => e = .returned (.agg (rowN 16 b).toArray) ∧ Below w.heap.size w w' := by
  have hx : ∀ o, Blk ((w.alloc (.cells (rowN 16 b).toArray 90)).alloc o) w.heap.size 90 (rowN 16 b) := fun o => (Blk.new w _ _).alloc _
  have hr := Blk.new1 w (.cells (rowN 16 b).toArray 90) 90 (rowN 16 zf)
  have hB := below2 w (.cells (rowN 16 b).toArray 90) (.cells (rowN 16 zf).toArray 90)
  go_enter Tryz.func48, Tryz.ntmps48
  go_wp2_with (first
    | ((with_reducible refine wpList_box_blk rfl 90 (.tmp 1) rfl (rowN 16 b) ?_ ?_); rfl)
    | (with_reducible refine wpList_alloc_blk rfl 90 rfl zero16 ?_)
    | ((refine wpList_load16 rfl (.tmp 3) rfl ?_ (hx _) ?_); rfl)
    | ((refine wpList_store16 (new := b) rfl (.tmp 4) (.tmp 15) rfl ?_ ?_ hr ?_); rfl; rfl; intro w9 hR9 hg9))
  (try simp only [Exit.inBlock, Exit.then])
  refine bodyPost_ret (results_blk rfl rfl hR9 (row16 _)) rfl ?_
  exact ⟨rfl, hB.trans ((below_of_grown hg9 (Nat.le_refl _) hr.lt).mono (by omega))⟩

set_option maxRecDepth 100000 in
set_option maxHeartbeats 400000 in
theorem cEnc_zero (q : Nat) (F f h : Nat → Nat) (bm : Bool) (b : Nat → Nat) (w : World) (hC : CiAt w q F f h bm false) :
    Calls Tryz.prog 48 #[.pointer (some ⟨q, 0, none⟩), .agg (rowN 16 b).toArray] w fun e w' => e = .returned (.agg (rowN 16 b).toArray) ∧ Below w.heap.size w w' := by
  have hmd : ∀ o o', ((w.alloc o).alloc o').cell? ⟨q, 753, none⟩ = some (.bool false) := fun o o' => by rw [((Blk.alloc hC o).alloc o').cell, ciCells_made]
  have hx : ∀ o, Blk ((w.alloc (.cells (rowN 16 b).toArray 90)).alloc o) w.heap.size 90 (rowN 16 b) := fun o => (Blk.new w _ _).alloc _
  have hr := Blk.new1 w (.cells (rowN 16 b).toArray 90) 90 (rowN 16 zf)
  have hB := below2 w (.cells (rowN 16 b).toArray 90) (.cells (rowN 16 zf).toArray 90)
  go_enter Tryz.func48, Tryz.ntmps48
  go_wp2_with (first
    | ((with_reducible refine wpList_box_blk rfl 90 (.tmp 1) rfl (rowN 16 b) ?_ ?_); rfl)
    | (with_reducible refine wpList_alloc_blk rfl 90 rfl zero16 ?_)
    | ((refine wpList_load16 rfl (.tmp 3) rfl ?_ (hx _) ?_); rfl)
    | ((refine wpList_store16 (new := b) rfl (.tmp 4) (.tmp 15) rfl ?_ ?_ hr ?_); rfl; rfl; intro w9 hR9 hg9))
  (try simp only [Exit.inBlock, Exit.then])
  refine bodyPost_ret (results_blk rfl rfl hR9 (row16 _)) rfl ?_
  exact ⟨rfl, hB.trans ((below_of_grown hg9 (Nat.le_refl _) hr.lt).mono (by omega))⟩

set_option maxRecDepth 100000 in
set_option maxHeartbeats 1000000 in
theorem cChg_any (q : Nat) (F : Nat → Nat) (bm m : Bool) (t x : Nat) (w : World) (hC : CiAt w q F sb bk bm m) (ht : t < 60) (h8 : 8 ≤ t) (hx : x < 4294967296) :
    Calls Tryz.prog 92 #[.pointer (some ⟨q, 0, none⟩), .int .i64 (t : Int), .int .u32 (x : Int)] w fun e w' => e = .returned (.int .u32 (chg t x : Nat)) ∧ Draws w w' := by
  go_enter Tryz.func92, Tryz.ntmps92
  by_cases h0 : t % 8 = 0
  · have e0 : (t : Int) % 8 = 0 := by omega
    obtain ⟨s, hs⟩ : ∃ s, t / 8 = s + 1 := ⟨t / 8 - 1, by omega⟩
    have hsl : s < 7 := by omega
    have hch : chg t x = bwd sb (rl8 x) 4 ^^^ (pw 2 s * 16777216) := by unfold chg; rw [if_pos h0, hs, Nat.add_sub_cancel]
    have e1 : (t : Int).tdiv 8 = (s + 1 : Nat) := by rw [← hs]; exact Int.ofNat_tdiv t 8
    have hs' := Lib.hid hs
    have h8' := Lib.hid h8
    have hx' := Lib.hid hx
    have e0' : ((t : Int) % 8 == 0) = true := by rw [e0]; rfl
    have c1 : ∀ v, Calls Tryz.prog 106 #[.int .u32 (x : Int), .int .i64 8] v fun e w' => e = .returned (.int .u32 (rl8 x : Nat)) ∧ v = w' := fun v => by rw [← rotl_rl8 x hx]; exact left_any x 8 v (by omega) (by omega)
    have c2 : ∀ v, CiAt v q F sb bk bm m → Calls Tryz.prog 105 #[.pointer (some ⟨q, 240, none⟩), .int .u32 (rl8 x : Nat)] v fun e w' => e = .returned (.int .u32 (bwd sb (rl8 x) 4 : Nat)) ∧ v = w' := fun v hv => cWord_any q F sb bk bm m sb_256 (rl8 x) v hv (rl8_lt x hx)
    have c3 : ∀ v, Calls Tryz.prog 107 #[.int .u8 2, .int .i64 (s : Int)] v fun e w' => e = .returned (.int .u8 (pw 2 s : Nat)) ∧ v = w' := fun v => by rw [← pz_pw 2 s]; exact fPower_any 2 s v (by decide) (by omega) (by omega)
    have w1 : IntKind.i64.wrap ((s : Int) + 1) = (s : Int) + 1 := by rw [IntKind.wrap_i64]; omega
    have w2 : IntKind.i64.wrap ((s : Int) + 1 - 1) = (s : Int) := by rw [IntKind.wrap_i64]; omega
    have w2' : IntKind.i64.wrap (s : Int) = (s : Int) := by rw [IntKind.wrap_i64]; omega
    have hp := pw_256 (a := 2) s
    have ha := wd4_lt (rl8 x)
    obtain ⟨p, hpe⟩ : ∃ p, pw 2 s = p := ⟨_, rfl⟩
    obtain ⟨a, hae⟩ : ∃ a, bwd sb (rl8 x) 4 = a := ⟨_, rfl⟩
    rw [hpe, hae] at hch
    rw [hpe] at hp c3
    rw [hae] at ha c2
    have w3 : IntKind.u32.wrap (p : Int) = (p : Int) := by rw [IntKind.wrap_u32]; omega
    have w4 : IntKind.u32.wrap ((p : Int) * 16777216) = ((p * 16777216 : Nat) : Int) := by rw [IntKind.wrap_u32]; omega
    have w5 : bits .xor .u32 (a : Int) ((p * 16777216 : Nat) : Int) = ((a ^^^ (p * 16777216) : Nat) : Int) := bits_xor32 _ _ ha (by omega)
    have w5 := Lib.hid w5
    have hch := Lib.hid hch
    clear hs ht h8 hx h0 hpe hae hp ha hsl
    go_wp2_with fail
    refine wp_region_still_lit (by kernel_rfl) (by decide +kernel) ?_
    change wpStill _ _ w.drew _ _ _
    repeat still_step
    still_call ((c1 _).mono fun _ _ h => ⟨h.1, h.2.symm⟩)
    repeat still_step
    still_call ((c2 _ (show CiAt w.drew q F sb bk bm m from hC)).mono fun _ _ h => ⟨h.1, h.2.symm⟩)
    repeat still_step
    still_call ((c3 _).mono fun _ _ h => ⟨h.1, h.2.symm⟩)
    repeat still_step
    refine wpStill_nil ?_
    change Exit.then _ _ _ _ w.drew
    go_wp2
    go_ret
    refine ⟨ret_u32 ?_, (Draws.refl w).drew⟩
    rw [hch.out]
    exact w5.out
  · by_cases h4 : t % 8 = 4
    · have e4 : (t : Int) % 8 = 4 := by omega
      have hch := Lib.hid (show chg t x = bwd sb x 4 by unfold chg; rw [if_neg h0, if_pos h4])
      have c2 : ∀ v, CiAt v q F sb bk bm m → Calls Tryz.prog 105 #[.pointer (some ⟨q, 240, none⟩), .int .u32 (x : Int)] v fun e w' => e = .returned (.int .u32 (bwd sb x 4 : Nat)) ∧ v = w' := fun v hv => cWord_any q F sb bk bm m sb_256 x v hv hx
      clear h0 h4 ht h8 hx
      go_wp2_with fail
      refine (c2 _ hC).mono ?_
      rintro e w' ⟨rfl, rfl⟩
      go_wp2
      go_ret
      exact ⟨ret_u32 (by rw [hch.out]), Draws.refl w⟩
    · obtain ⟨r, hr⟩ : ∃ r, t % 8 = r := ⟨_, rfl⟩
      have hch := Lib.hid (show chg t x = x by unfold chg; rw [if_neg h0, if_neg h4])
      have e : (t : Int) % 8 = (r : Int) := by omega
      have n0 : ¬ (r : Int) = 0 := by omega
      have n4 : ¬ (r : Int) = 4 := by omega
      have b0 : ((r : Int) == 0) = false := by simp; omega
      have b4 : ((r : Int) == 4) = false := by simp; omega
      clear h0 h4 ht h8 hx hr
      go_wp2
      go_ret
      exact ⟨ret_u32 (by rw [hch.out]), Draws.refl w⟩
end Go.Proofs.YtagacpjeooaapaaGreatDoor

/-
  The words of all round keys, as the call expanded tells them of a key of 32 bytes; new memory alone is written.
-/
namespace Go.Proofs.YtagacpjeooaapaaGreatDoor
open Go.RowKit

/-- The cells of n words. -/
def rowU (n : Nat) (f : Nat → Nat) : List Value := (List.range n).map fun i => .int .u32 (f i : Int)
theorem rowU_len (n : Nat) (f : Nat → Nat) : (rowU n f).length = n := by simp [rowU]
theorem rowU_at (n : Nat) (f : Nat → Nat) (i : Nat) (hi : i < n) : (rowU n f)[i]? = some (.int .u32 (f i : Int)) := by simp [rowU, hi]
theorem rowU_set (n : Nat) (f : Nat → Nat) (i v : Nat) (hi : i < n) : (rowU n f).set i (.int .u32 (v : Int)) = rowU n (upd f i v) := by
  apply List.ext_getElem?
  intro j
  rw [List.getElem?_set]
  by_cases hj : j < n
  · rw [rowU_at n _ _ hj, rowU_at n _ _ hj]
    by_cases e : i = j
    · subst e; simp [upd, rowU_len, hi]
    · have e' : ¬ j = i := fun h => e h.symm
      simp [e, e', upd]
  · rw [List.getElem?_eq_none (by rw [rowU_len]; omega), List.getElem?_eq_none (by rw [rowU_len]; omega)]
    split
    · omega
    · rfl
theorem rowU_one (n : Nat) (f : Nat → Nat) : ∀ v ∈ rowU n f, v.oneCell' = true := by
  intro v hv
  obtain ⟨i, _, rfl⟩ := List.mem_map.1 hv
  rfl
theorem size60 : (Tryz.prog.info? 140).map (·.size) = some 60 := by kernel_rfl
theorem row60' : IsRow Tryz.prog 140 60 := IsRow.array Tryz.underlying140 size60
theorem row60 (f : Nat → Nat) : IsRow Tryz.prog 140 (rowU 60 f).length := by rw [rowU_len]; exact row60'
theorem zero60 : Zero Tryz.prog 140 (rowU 60 zf) := by unfold Zero; kernel_rfl
theorem over60 (a b : Nat → Nat) : overV (rowU 60 a) 0 (rowU 60 b) = rowU 60 b := overV_all _ _ (by rw [rowU_len, rowU_len])
theorem fit60 (a b : Nat → Nat) : 0 + (rowU 60 b).length ≤ (rowU 60 a).length := by rw [rowU_len, rowU_len]; omega
theorem sizeU32' : (Tryz.prog.info? 111).map (·.size) = some 1 := by kernel_rfl
/-- The key's own words. -/
def own (bs : List Int) (t : Nat) : Nat := ((wordsOf bs).getD t 0).toNat
theorem wordsOf_lt : ∀ (bs : List Int), (∀ x ∈ bs, 0 ≤ x ∧ x < 256) → ∀ x ∈ wordsOf bs, 0 ≤ x ∧ x < 4294967296
  | [], _ => by simp [wordsOf]
  | [_], _ => by simp [wordsOf]
  | [_, _], _ => by simp [wordsOf]
  | [_, _, _], _ => by simp [wordsOf]
  | a :: b :: c :: d :: bs, h => by
    intro x hx
    have ha := h a (by simp)
    have hb := h b (by simp)
    have hc := h c (by simp)
    have hd := h d (by simp)
    rcases List.mem_cons.1 hx with rfl | hx
    · unfold word4; omega
    · exact wordsOf_lt bs (fun y hy => h y (by simp [hy])) x hx
theorem own_cast (bs : List Int) (h : ∀ x ∈ bs, 0 ≤ x ∧ x < 256) (t : Nat) : ((own bs t : Nat) : Int) = (wordsOf bs).getD t 0 := by
  unfold own
  by_cases ht : t < (wordsOf bs).length
  · have := getD_range (p := fun x => 0 ≤ x ∧ x < 4294967296) (wordsOf_lt bs h) t ht
    omega
  · rw [List.getD_eq_getElem?_getD, List.getElem?_eq_none (by omega)]; rfl
theorem own_wd (bs : List Int) (h : ∀ x ∈ bs, 0 ≤ x ∧ x < 256) : Wd (own bs) := by
  intro t
  unfold own
  by_cases ht : t < (wordsOf bs).length
  · have := getD_range (p := fun x => 0 ≤ x ∧ x < 4294967296) (wordsOf_lt bs h) t ht
    omega
  · rw [List.getD_eq_getElem?_getD, List.getElem?_eq_none (by omega)]; decide
theorem over_own (bs : List Int) (h : ∀ x ∈ bs, 0 ≤ x ∧ x < 256) (hl : (wordsOf bs).length = 8) : overV (rowU 60 zf) 0 (((wordsOf bs).take 8).map (Value.int .u32)) = rowU 60 (own bs) := by
  have hl8 : ((wordsOf bs).take 8) = wordsOf bs := List.take_of_length_le (by omega)
  rw [hl8]
  apply List.ext_getElem?
  intro j
  unfold overV
  rw [List.take_zero, List.nil_append, List.length_map, hl, Nat.zero_add]
  by_cases h60 : j < 60
  · rw [rowU_at 60 _ j h60, own_cast bs h]
    by_cases h8 : j < 8
    · rw [List.getElem?_append_left (by rw [List.length_map]; omega), getElem?_mapInt _ _ _ (by omega)]
    · rw [List.getElem?_append_right (by rw [List.length_map]; omega), List.length_map, hl, List.getElem?_drop, show 8 + (j - 8) = j by omega, rowU_at 60 _ j h60,
        List.getD_eq_getElem?_getD, List.getElem?_eq_none (by omega)]
      rfl
  · rw [List.getElem?_eq_none (l := rowU 60 (own bs)) (by rw [rowU_len]; omega), List.getElem?_eq_none]
    rw [List.length_append, List.length_map, List.length_drop, rowU_len]
    omega

set_option maxRecDepth 100000 in
set_option maxHeartbeats 1000000 in
theorem cExp_any (q : Nat) (F : Nat → Nat) (bm m : Bool) (a : Option Addr) (cap : Nat) (bs : List Int) (w : World) (hC : CiAt w q F sb bk bm m) (hI : Ints .u8 w a 32 cap bs) (hr : ∀ x ∈ bs, 0 ≤ x ∧ x < 256) :
    Calls Tryz.prog 69 #[.pointer (some ⟨q, 0, none⟩), .slice a 32 cap] w fun e w' => e = .returned (.agg (rowU 60 (kws (own bs) 52)).toArray) ∧ Below w.heap.size w w' := by
  go_enter Tryz.func69, Tryz.ntmps69
  go_wp2_with (with_reducible refine wpList_alloc_blk rfl 140 rfl zero60 ?_)
  obtain ⟨W0, hW0⟩ : ∃ W0, (w.alloc (.cells (rowU 60 zf).toArray 140)).alloc (.cells (rowU 60 zf).toArray 140) = W0 := ⟨_, rfl⟩
  obtain ⟨g, hg⟩ : ∃ g, w.heap.size = g := ⟨_, rfl⟩
  have hr0 : Blk W0 g 140 (rowU 60 zf) := by rw [← hW0, ← hg]; exact (Blk.new w _ _).alloc _
  have hx0 : Blk W0 (g + 1) 140 (rowU 60 zf) := by rw [← hW0, ← hg]; exact Blk.new1 w _ _ _
  have hB0 : Below g w W0 := by rw [← hW0, ← hg]; exact below2 w _ _
  have hql : q < g := by rw [← hg]; exact Blk.lt hC
  have hC0 : CiAt W0 q F sb bk bm m := by rw [← hW0]; exact (Blk.alloc hC _).alloc _
  have hI0 : Ints .u8 W0 a 32 cap bs := hI.keep (by rw [hg]; exact hB0)
  rw [hW0, hg]
  clear hW0 hC hI
  have hg := Lib.hid hg
  have hql := Lib.hid hql
  refine (words_yes a 32 cap bs _ hI0 hr (by decide) (by decide)).mono ?_
  rintro e w1 ⟨b, n, c, rfl, hW, h1⟩
  have hlen : (wordsOf bs).length = 8 := by rw [wordsOf_length, hI0.len]
  obtain rfl : n = 8 := by rw [← hW.len, hlen]
  have hr1 := hr0.keep h1 hr0.lt
  have hx1 := hx0.keep h1 hx0.lt
  have hC1 : CiAt w1 q F sb bk bm m := Blk.keep hC0 h1 (Blk.lt hC0)
  have hB1 := hB0.trans (h1.mono (Nat.le_of_lt hr0.lt))
  clear h1 hr0 hx0 hC0 hB0 hI0
  have CF := hW.copyFits (dp := some ⟨g + 1, 0, none⟩) (dLen := 60) (g := g + 1) (off := 0) (room := (rowU 60 zf).length) (m := 8) rfl (fun _ => rfl) (by rw [rowU_len]; decide)
  have HL : (((wordsOf bs).take 8).map (Value.int .u32)).length = 8 := by rw [List.length_map, List.length_take, hlen]; rfl
  have ov := Lib.hid (over_own bs hr hlen)
  have hown := Lib.hid (own_wd bs hr)
  clear hW
  go_wp2_with (refine wpList_copy_num rfl (.tmp 14) (.tmp 15) 67 67 rfl 111 Tryz.underlying67 sizeU32' rfl rfl hx1 CF 8 HL ?_; intro w2 hx2 hg2; refine RowKit.Hid.out ?_)
  refine Lib.hid ?_
  rw [ov.out] at hx2
  have hr2 := hr1.grown hg2 (by intro e; injection e; omega)
  have hC2 : CiAt w2 q F sb bk bm m := Blk.grown hC1 hg2 (by intro e; injection e; have := hql.out; omega)
  have hB2 := hB1.trans (below_of_grown hg2 (Nat.le_succ g) hx1.lt)
  clear hg2 hr1 hx1 hC1 hB1 CF HL ov hlen hr
  go_wp2
  go_loopw [8] (fun i wr => ∃ t : Nat, 8 ≤ t ∧ t ≤ 60 ∧ i = .int .i64 t ∧ Blk wr (g + 1) 140 (rowU 60 (kws (own bs) (t - 8))) ∧ Blk wr g 140 (rowU 60 zf) ∧ CiAt wr q F sb bk bm m ∧ Below g w wr) (fun i _ => 60 - (intOf i).toNat)
  case atStart => exact ⟨8, by omega, by omega, rfl, hx2, hr2, hC2, hB2⟩
  case round =>
    clear hx2 hr2 hC2 hB2
    obtain ⟨t, h8, hk, rfl, hx, hr, hC, hB⟩ := hrel
    by_cases hlt : t < 60
    · obtain ⟨n, hn⟩ : ∃ n, t = n + 8 := ⟨t - 8, by omega⟩
      obtain ⟨p, hp⟩ : ∃ p, t = p + 1 := ⟨t - 1, by omega⟩
      have hpn : p = 7 + n := by omega
      have hnx : kws (own bs) (t + 1 - 8) = upd (kws (own bs) n) t (kws (own bs) n n ^^^ chg t (kws (own bs) n p)) := by
        rw [show t + 1 - 8 = n + 1 by omega, hpn, show t = 8 + n by omega]; rfl
      rw [show t - 8 = n by omega] at hx
      have hwd := kws_wd hown.out n
      have cn := hx.cell n
      have cp := hx.cell p
      rw [rowU_at 60 _ n (by omega)] at cn
      rw [rowU_at 60 _ p (by omega)] at cp
      obtain ⟨v, hv, hD⟩ := Draws.one wr
      have hx := hD.blk hx
      have hr := hD.blk hr
      have hB := hB.trans (hD.below g)
      have hC : CiAt v q F sb bk bm m := hD.blk hC
      have cn := hD.cellW cn
      have cp := hD.cellW cp
      obtain ⟨x, hxe⟩ : ∃ x, kws (own bs) n n = x := ⟨_, rfl⟩
      obtain ⟨y, hye⟩ : ∃ y, kws (own bs) n p = y := ⟨_, rfl⟩
      have hxl : x < 4294967296 := by rw [← hxe]; exact hwd n
      have hyl : y < 4294967296 := by rw [← hye]; exact hwd p
      have hset := hx.set t (.int .u32 (x ^^^ chg t y : Nat))
      rw [rowU_set 60 _ _ _ hlt, ← hxe, ← hye, ← hnx, hxe, hye] at hset
      have hset := Lib.hid hset
      rw [hxe] at cn
      rw [hye] at cp
      have hchg := fun v' (h : CiAt v' q F sb bk bm m) => cChg_any q F bm m t y v' h hlt h8 hyl
      have hxor := Lib.hid (bits_xor32 x (chg t y) hxl (chg_lt t y hyl))
      have n1 : IntKind.i64.wrap ((t : Int) - 8) = (n : Int) := by rw [IntKind.wrap_i64]; omega
      have p1 : IntKind.i64.wrap ((t : Int) - 1) = (p : Int) := by rw [IntKind.wrap_i64]; omega
      have t6 : (t : Int) < 60 := by omega
      have n6 : (n : Int) < 60 := by omega
      have p6 : (p : Int) < 60 := by omega
      have hlt' := Lib.hid hlt
      have h8' := Lib.hid h8
      have hnt : n < t := by omega
      have hpt : p < t := by omega
      have hnt := Lib.hid hnt
      have hpt := Lib.hid hpt
      clear hxe hye hxl hyl hwd hnx hn hp hpn hlt h8 hk
      go_wp2_with fail
      refine region_seqS (fun w' => w'.cell? ⟨g + 1, n, none⟩ = some (.int .u32 (x : Int)) ∧ w'.cell? ⟨g + 1, p, none⟩ = some (.int .u32 (y : Int))) (by kernel_rfl) (by rw [hv]; exact ⟨cn, cp⟩) ?_
      simp only [pairs, Nat.reduceAdd]
      change SeqS _ _ _ _ _ _ _ _ wr.drew
      rw [hv]
      clear hv hD
      have hS0 := And.intro cn cp
      repeat (first
        | (refine SeqS.take (v := ?_) (by first | assumption | trivial) (by kernel_rfl) (by decide +kernel) (by decide +kernel) (Or.inl ⟨by rfl, ?_⟩) ?_
           rotate_left
           focus
             intro w' hb'
             obtain ⟨hb1, hb2⟩ := hb'
             go_simp
             with_reducible rfl
           simp only [Act.put, List.setIfInBounds_toArray, List.set_cons_zero, List.set_cons_succ])
        | (refine SeqS.take1 (v := ?_) (by first | assumption | trivial) (by kernel_rfl) (by decide +kernel) (by decide +kernel) (Or.inl ⟨by rfl, ?_⟩) ?_
           rotate_left
           focus
             intro w' hb'
             obtain ⟨hb1, hb2⟩ := hb'
             go_simp
             with_reducible rfl
           simp only [Act.put, List.setIfInBounds_toArray, List.set_cons_zero, List.set_cons_succ]))
      refine SeqS.alone (by decide +kernel) (by rfl) (fun K hK => ?_)
      go_simp
      refine (hchg v hC).mono ?_
      rintro e v2 ⟨rfl, hD2⟩
      have hS2 := And.intro (hD2.cellW cn) (hD2.cellW cp)
      have hx2 := hD2.blk hx
      have hr2 := hD2.blk hr
      have hB2 := hB.trans (hD2.below g)
      have hC2 : CiAt v2 q F sb bk bm m := hD2.blk hC
      have hset2 : Hid (Blk (v2.setCell ⟨g + 1, t, none⟩ (.int .u32 (x ^^^ chg t y : Nat))) (g + 1) 140 (rowU 60 (kws (own bs) (t + 1 - 8)))) := Lib.hid (by obtain ⟨nn, rfl⟩ := hD2; exact hset.out)
      go_simp
      refine hK _ _ hS2 ?_
      clear hK K cn cp hx hr hB hC hset hS0 hchg hD2
      repeat (first
        | (refine SeqS.take (v := ?_) (by first | assumption | trivial) (by kernel_rfl) (by decide +kernel) (by decide +kernel) (Or.inl ⟨by rfl, ?_⟩) ?_
           rotate_left
           focus
             intro w' hb'
             obtain ⟨hb1, hb2⟩ := hb'
             go_simp
             with_reducible rfl
           simp only [Act.put, List.setIfInBounds_toArray, List.set_cons_zero, List.set_cons_succ])
        | (refine SeqS.take1 (v := ?_) (by first | assumption | trivial) (by kernel_rfl) (by decide +kernel) (by decide +kernel) (Or.inl ⟨by rfl, ?_⟩) ?_
           rotate_left
           focus
             intro w' hb'
             obtain ⟨hb1, hb2⟩ := hb'
             go_simp
             with_reducible rfl
           simp only [Act.put, List.setIfInBounds_toArray, List.set_cons_zero, List.set_cons_succ]))
      have ct := hx2.cell t
      rw [rowU_at 60 _ t hlt'.out] at ct
      have ft : v2.frozen? ⟨g + 1, t, none⟩ = false := Blk.frozen hx2 t
      refine SeqS.alone (by decide +kernel) (by rfl) (fun K hK => ?_)
      go_simp
      rw [hxor.out]
      refine hK _ _ ?_ ?_
      · have e1 : (⟨g + 1, n, none⟩ : Addr) ≠ ⟨g + 1, t, none⟩ := by intro e; injection e with _ e _; have := hnt.out; have := hpt.out; omega
        have e2 : (⟨g + 1, p, none⟩ : Addr) ≠ ⟨g + 1, t, none⟩ := by intro e; injection e with _ e _; have := hnt.out; have := hpt.out; omega
        have hb := (hx2.set t (.int .u32 (x ^^^ chg t y : Nat)))
        have h1 := hb.cell n
        have h2 := hb.cell p
        rw [List.getElem?_set_ne (by intro e; exact e1 (by rw [e])), ← hx2.cell n] at h1
        rw [List.getElem?_set_ne (by intro e; exact e2 (by rw [e])), ← hx2.cell p] at h2
        exact ⟨h1.trans hS2.1, h2.trans hS2.2⟩
      clear hK K
      refine SeqS.done (by decide +kernel) ?_
      have hr3 := hr2.far (p := ⟨g + 1, t, none⟩) (by simp) (.int .u32 (x ^^^ chg t y : Nat))
      have hC3 : CiAt (v2.setCell ⟨g + 1, t, none⟩ (.int .u32 (x ^^^ chg t y : Nat))) q F sb bk bm m := Blk.far hC2 (p := ⟨g + 1, t, none⟩) (by have := hql.out; simp; omega) _
      have hB3 := hB2.setCell (p := ⟨g + 1, t, none⟩) (Nat.le_succ g) (.int .u32 (x ^^^ chg t y : Nat))
      obtain ⟨v3, hv3⟩ : ∃ v3, v2.setCell ⟨g + 1, t, none⟩ (.int .u32 (x ^^^ chg t y : Nat)) = v3 := ⟨_, rfl⟩
      have hset3 := hset2.out
      rw [hv3] at hr3 hC3 hB3 hset3 ⊢
      clear hv3 hset2 hx2 hr2 hC2 hB2 ct ft hS2
      go_wp2
      go_roundw
      case rel => exact ⟨t + 1, by have := h8'.out; omega, by have := hlt'.out; omega, by go_num, hset3, hr3, hC3, hB3⟩
      case measure => have := hlt'.out; simp [intOf]; omega
    · obtain rfl : t = 60 := by omega
      have hx : Blk wr (g + 1) 140 (rowU 60 (kws (own bs) 52)) := hx
      have HI := row60 (kws (own bs) 52)
      have HF := Lib.hid (fit60 zf (kws (own bs) 52))
      have H1 := Lib.hid (rowU_one 60 (kws (own bs) 52))
      go_wp2_with (first
        | ((with_reducible refine wpList_load_blk rfl 140 (.tmp 5) rfl ?_ hx row60' (rowU_len 60 _) ?_); rfl)
        | ((with_reducible refine wpList_store_part rfl 140 (.tmp 4) (.tmp 35) rfl ?_ ?_ hr HI HF.out H1.out ?_); rfl; rfl; intro w9 hR9 hg9))
      rw [over60] at hR9
      (try simp only [Exit.inBlock, Exit.then])
      refine bodyPost_ret (results_blk rfl rfl hR9 HI) rfl ?_
      refine ⟨rfl, ?_⟩
      rw [hg.out]
      exact hB.trans (below_of_grown hg9 (Nat.le_refl _) hr.lt)
end Go.Proofs.YtagacpjeooaapaaGreatDoor

/-
  The document's own answer for a column mixed: four bytes handed in, four told; new memory alone is written.
-/
namespace Go.Proofs.YtagacpjeooaapaaGreatDoor
open Go.RowKit

/-- n bytes as a list of numbers. -/
def bytesL (n : Nat) (f : Nat → Nat) : List Int := (List.range n).map fun i => (f i : Int)
theorem bytesL_len (n : Nat) (f : Nat → Nat) : (bytesL n f).length = n := by simp [bytesL]
theorem bytesL_row (n : Nat) (f : Nat → Nat) : (bytesL n f).map (Value.int .u8) = rowN n f := by simp [bytesL, rowN]
theorem bytesL_at (n : Nat) (f : Nat → Nat) (i : Nat) (hi : i < n) : (bytesL n f).getD i 0 = (f i : Int) := by simp [bytesL, List.getD_eq_getElem?_getD, hi]
theorem bytesL_range {f : Nat → Nat} (h : By f) (n : Nat) : ∀ x ∈ bytesL n f, 0 ≤ x ∧ x < 256 := by
  intro x hx
  obtain ⟨i, _, rfl⟩ := List.mem_map.1 hx
  have := h i
  omega
theorem bytesL_congr {n : Nat} {f h : Nat → Nat} (e : Ag n f h) : bytesL n f = bytesL n h := by
  refine List.map_congr_left fun i hi => ?_
  rw [e i (List.mem_range.1 hi)]
theorem rowN_snoc (n : Nat) (f : Nat → Nat) : rowN (n + 1) f = rowN n f ++ [.int .u8 (f n : Int)] := by
  unfold rowN; rw [List.range_succ, List.map_append]; rfl
theorem Ints.cell_at {k : IntKind} {w : World} {b off n cap : Nat} {xs : List Int} (h : Ints k w (some ⟨b, off, none⟩) n cap xs) (i : Nat) (hi : i < n) : w.cell? ⟨b, off + i, none⟩ = some (.int k (xs.getD i 0)) := by
  obtain ⟨b', off', ha, hc⟩ := h.at (by omega)
  injection ha with ha
  injection ha with h1 h2 _
  subst h1; subst h2
  exact hc i hi

theorem SeqS.take4 {P : Program} {ops : Array Oper} {Q : Exit → Act → World → Prop} {md : Region.Mode} {S : World → Prop} {p p' p'' p3 : Nat × Oper} {k : Nat} {o : Oper} {rest : List (Nat × Oper)} {listed : Array Bool} {a : Act} {w : World} {v : Value} (hS : S w) (hs : Region.noSelect ops = true)
    (hf : Region.free md ops listed k = true) (hr : (Region.ready md ops listed).contains k = true)
    (hy : YieldsIf P ops S o v a)
    (h : SeqS P md ops Q S (p :: p' :: p'' :: p3 :: rest) (listed.setIfInBounds k true) (a.put o.dst v) w) : SeqS P md ops Q S (p :: p' :: p'' :: p3 :: (k, o) :: rest) listed a w := SeqS.take_any (pre := [p, p', p'', p3]) hS hs hf hr hy h

set_option maxRecDepth 100000 in
set_option maxHeartbeats 1600000 in
theorem rMix_any (a : Option Addr) (cap : Nat) (c : Nat → Nat) (w : World) (hI : Ints .u8 w a 4 cap (bytesL 4 c)) (hc : By c) :
    Calls Tryz.prog 81 #[.slice a 4 cap] w fun e w' => ∃ b c', e = .returned (.slice b 4 c') ∧ Ints .u8 w' b 4 c' (bytesL 4 (mixc c)) ∧ Below w.heap.size w w' := by
  obtain ⟨i0, hi, hz0, hz1, hz2⟩ := info_parts infoU8
  obtain ⟨b, off, rfl, _⟩ := hI.at (by decide)
  have c0 := hI.cell_at 0 (by decide)
  have c1 := hI.cell_at 1 (by decide)
  have c2 := hI.cell_at 2 (by decide)
  have c3 := hI.cell_at 3 (by decide)
  rw [bytesL_at 4 c 0 (by decide), Nat.add_zero] at c0
  rw [bytesL_at 4 c 1 (by decide)] at c1
  rw [bytesL_at 4 c 2 (by decide)] at c2
  rw [bytesL_at 4 c 3 (by decide)] at c3
  have hbl : b < w.heap.size := World.block_lt_of_cell? w _ c0
  obtain ⟨g, hg⟩ : ∃ g, w.heap.size = g := ⟨_, rfl⟩
  rw [hg] at hbl
  have hg := Lib.hid hg
  have c0 := Lib.hid c0
  have c1 := Lib.hid c1
  have c2 := Lib.hid c2
  have c3 := Lib.hid c3
  have hc := Lib.hid hc
  have hbl := Lib.hid hbl
  clear hI
  go_enter Tryz.func81, Tryz.ntmps81
  go_wp2
  go_loopw [3, 4] (fun o i wr => ∃ k : Nat, k ≤ 4 ∧ i = .int .i64 k ∧ wr.ownsRow g 5 1 o k (rowN k (mixc c)) ∧ Below g w wr) (fun _ i _ => 4 - (intOf i).toNat)
  case atStart => exact ⟨0, by omega, rfl, World.ownsRow_nil _ _ _ _, Below.refl _ _⟩
  case round =>
    obtain ⟨k, hk, rfl, hown, hB⟩ := hrel
    by_cases hlt : k < 4
    · have hb0 := hB
      obtain ⟨bo, co, rfl⟩ : ∃ bo co, u3 = .slice bo k co := by
        obtain ⟨x, y, e, _⟩ := Ints.of_owns (xs := bytesL k (mixc c)) (by rw [bytesL_row]; exact hown)
        exact ⟨x, y, e⟩
      obtain rfl | rfl | rfl | rfl : k = 0 ∨ k = 1 ∨ k = 2 ∨ k = 3 := by omega
      · have d1 : IntKind.i64.wrap 1 = 1 := by decide
        have d2 : IntKind.i64.wrap 2 = 2 := by decide
        have d3 : IntKind.i64.wrap 3 = 3 := by decide
        have m1 : (1 : Int).tmod 4 = 1 := by decide
        have m2 : (2 : Int).tmod 4 = 2 := by decide
        have m3 : (3 : Int).tmod 4 = 3 := by decide
        have t1 := fun v => rTimes_is (2 : Int) (c 0 : Int) (tm 2 (c 0) : Nat) 2 (c 0) _ v rfl rfl (by decide) (hc.out _) rfl rfl
        have t2 := fun v => rTimes_is (3 : Int) (c 1 : Int) (tm 3 (c 1) : Nat) 3 (c 1) _ v rfl rfl (by decide) (hc.out _) rfl rfl
        have x1 := bits_xor8 (tm 2 (c 0)) (tm 3 (c 1)) (tm_256 _ (by decide)) (tm_256 _ (by decide))
        have x2 := bits_xor8 (tm 2 (c 0) ^^^ tm 3 (c 1)) (c 2) (xor_256 (tm_256 _ (by decide)) (tm_256 _ (by decide))) (hc.out _)
        have x3 := bits_xor8 ((tm 2 (c 0) ^^^ tm 3 (c 1)) ^^^ c 2) (c 3) (xor_256 (xor_256 (tm_256 _ (by decide)) (tm_256 _ (by decide))) (hc.out _)) (hc.out _)
        have xm := mix_ref c hc.out 0
        simp only [Nat.reduceAdd, Nat.reduceMod] at xm
        rw [xm] at x3
        obtain ⟨v, hv, hD⟩ := Draws.one wr
        have hB := hb0.trans (hD.below g)
        have hown : v.ownsRow g 5 1 (.slice bo 0 co) 0 (rowN 0 (mixc c)) := by rw [← hv]; exact hown
        go_wp2_with fail
        refine region_seqS (fun w' => Below g w w') (by kernel_rfl) (by rw [hv]; exact hB) ?_
        simp only [pairs, Nat.reduceAdd]
        change SeqS _ _ _ _ _ _ _ _ wr.drew
        rw [hv]
        clear hv hD hb0
        repeat (first
          | (refine SeqS.take (v := ?_) (by first | assumption | trivial) (by kernel_rfl) (by decide +kernel) (by decide +kernel) (Or.inl ⟨by rfl, ?_⟩) ?_
             rotate_left
             focus
               intro w' hb'
               have d0 := (hb'.cell (p := ⟨b, off, none⟩) hbl.out).trans c0.out
               have d1 := (hb'.cell (p := ⟨b, off + 1, none⟩) hbl.out).trans c1.out
               have d2 := (hb'.cell (p := ⟨b, off + 2, none⟩) hbl.out).trans c2.out
               have d3 := (hb'.cell (p := ⟨b, off + 3, none⟩) hbl.out).trans c3.out
               go_simp
               with_reducible rfl
             simp only [Act.put, List.setIfInBounds_toArray, List.set_cons_zero, List.set_cons_succ])
          | (refine SeqS.take1 (v := ?_) (by first | assumption | trivial) (by kernel_rfl) (by decide +kernel) (by decide +kernel) (Or.inl ⟨by rfl, ?_⟩) ?_
             rotate_left
             focus
               intro w' hb'
               have d0 := (hb'.cell (p := ⟨b, off, none⟩) hbl.out).trans c0.out
               have d1 := (hb'.cell (p := ⟨b, off + 1, none⟩) hbl.out).trans c1.out
               have d2 := (hb'.cell (p := ⟨b, off + 2, none⟩) hbl.out).trans c2.out
               have d3 := (hb'.cell (p := ⟨b, off + 3, none⟩) hbl.out).trans c3.out
               go_simp
               with_reducible rfl
             simp only [Act.put, List.setIfInBounds_toArray, List.set_cons_zero, List.set_cons_succ])
          | (refine SeqS.take2 (v := ?_) (by first | assumption | trivial) (by kernel_rfl) (by decide +kernel) (by decide +kernel) (Or.inl ⟨by rfl, ?_⟩) ?_
             rotate_left
             focus
               intro w' hb'
               have d0 := (hb'.cell (p := ⟨b, off, none⟩) hbl.out).trans c0.out
               have d1 := (hb'.cell (p := ⟨b, off + 1, none⟩) hbl.out).trans c1.out
               have d2 := (hb'.cell (p := ⟨b, off + 2, none⟩) hbl.out).trans c2.out
               have d3 := (hb'.cell (p := ⟨b, off + 3, none⟩) hbl.out).trans c3.out
               go_simp
               with_reducible rfl
             simp only [Act.put, List.setIfInBounds_toArray, List.set_cons_zero, List.set_cons_succ])
          | (refine SeqS.take3 (v := ?_) (by first | assumption | trivial) (by kernel_rfl) (by decide +kernel) (by decide +kernel) (Or.inl ⟨by rfl, ?_⟩) ?_
             rotate_left
             focus
               intro w' hb'
               have d0 := (hb'.cell (p := ⟨b, off, none⟩) hbl.out).trans c0.out
               have d1 := (hb'.cell (p := ⟨b, off + 1, none⟩) hbl.out).trans c1.out
               have d2 := (hb'.cell (p := ⟨b, off + 2, none⟩) hbl.out).trans c2.out
               have d3 := (hb'.cell (p := ⟨b, off + 3, none⟩) hbl.out).trans c3.out
               go_simp
               with_reducible rfl
             simp only [Act.put, List.setIfInBounds_toArray, List.set_cons_zero, List.set_cons_succ])
          | (refine SeqS.take4 (v := ?_) (by first | assumption | trivial) (by kernel_rfl) (by decide +kernel) (by decide +kernel) (Or.inl ⟨by rfl, ?_⟩) ?_
             rotate_left
             focus
               intro w' hb'
               have d0 := (hb'.cell (p := ⟨b, off, none⟩) hbl.out).trans c0.out
               have d1 := (hb'.cell (p := ⟨b, off + 1, none⟩) hbl.out).trans c1.out
               have d2 := (hb'.cell (p := ⟨b, off + 2, none⟩) hbl.out).trans c2.out
               have d3 := (hb'.cell (p := ⟨b, off + 3, none⟩) hbl.out).trans c3.out
               go_simp
               with_reducible rfl
             simp only [Act.put, List.setIfInBounds_toArray, List.set_cons_zero, List.set_cons_succ]))
        refine SeqS.alone (by decide +kernel) (by rfl) (fun K hK => ?_)
        go_simp
        refine (t1 _).mono ?_
        rintro e w' ⟨rfl, rfl⟩
        go_simp
        refine hK _ _ hB ?_
        clear hK K
        refine SeqS.alone (by decide +kernel) (by rfl) (fun K hK => ?_)
        go_simp
        refine (t2 _).mono ?_
        rintro e w' ⟨rfl, rfl⟩
        go_simp
        refine hK _ _ hB ?_
        clear hK K
        repeat (first
          | (refine SeqS.take (v := ?_) (by first | assumption | trivial) (by kernel_rfl) (by decide +kernel) (by decide +kernel) (Or.inl ⟨by rfl, ?_⟩) ?_
             rotate_left
             focus
               intro w' hb'
               go_simp
               with_reducible rfl
             simp only [Act.put, List.setIfInBounds_toArray, List.set_cons_zero, List.set_cons_succ]))
        refine SeqS.alone (by decide +kernel) (by rfl) (fun K hK => ?_)
        go_simp
        have hBs : g ≤ v.heap.size := Nat.le_trans (by have := hg.out; omega) hB.size
        have hone := one_at v .u8 5 (mixc c 0 : Int)
        have hB2 := hB.alloc hBs (.cells #[.int .u8 (mixc c 0 : Int)] 5)
        have hown2 := hown.alloc (.cells #[.int .u8 (mixc c 0 : Int)] 5)
        obtain ⟨v2, hv2⟩ : ∃ v2, v.alloc (.cells #[.int .u8 (mixc c 0 : Int)] 5) = v2 := ⟨_, rfl⟩
        rw [hv2] at hone hB2 hown2 ⊢
        have hBs2 : g ≤ v2.heap.size := by rw [← hv2]; simp; omega
        clear hv2
        refine hK _ _ hB2 ?_
        clear hK K
        refine SeqS.alone (by decide +kernel) (by rfl) (fun K hK => ?_)
        refine wp_append_ints (.tmp 9) (.tmp 37) 24 rfl g 5 i0 (.int .u8 0) 1 Tryz.underlying24 hi hz0 hz1 hz2 rfl rfl hown2 rfl hone ?_ ?_ hBs2 ?_
        · unfold maxLen; omega
        · omega
        intro v3 w3 hown3 hg3
        have hB3 := hB2.grown hg3 hBs2 (fun j hj => (hown2.lt j hj).1)
        have hown3 : w3.ownsRow g 5 1 v3 1 (rowN 1 (mixc c)) := by rw [rowN_snoc]; exact hown3
        refine hK _ _ hB3 ?_
        clear hK K hown hown2 hone hB hB2 hg3
        (refine SeqS.take (v := ?_) (by first | assumption | trivial) (by kernel_rfl) (by decide +kernel) (by decide +kernel) (Or.inl ⟨by rfl, ?_⟩) ?_
         rotate_left
         focus
           intro w' hb'
           go_simp
           with_reducible rfl
         simp only [Act.put, List.setIfInBounds_toArray, List.set_cons_zero, List.set_cons_succ])
        refine SeqS.done (by decide +kernel) ?_
        go_wp2
        go_roundw
        case rel => exact ⟨1, by omega, by go_num, hown3, hB3⟩
        case measure => simp [intOf]
      · have d1 : IntKind.i64.wrap 2 = 2 := by decide
        have d2 : IntKind.i64.wrap 3 = 3 := by decide
        have d3 : IntKind.i64.wrap 4 = 4 := by decide
        have m1 : (2 : Int).tmod 4 = 2 := by decide
        have m2 : (3 : Int).tmod 4 = 3 := by decide
        have m3 : (4 : Int).tmod 4 = 0 := by decide
        have t1 := fun v => rTimes_is (2 : Int) (c 1 : Int) (tm 2 (c 1) : Nat) 2 (c 1) _ v rfl rfl (by decide) (hc.out _) rfl rfl
        have t2 := fun v => rTimes_is (3 : Int) (c 2 : Int) (tm 3 (c 2) : Nat) 3 (c 2) _ v rfl rfl (by decide) (hc.out _) rfl rfl
        have x1 := bits_xor8 (tm 2 (c 1)) (tm 3 (c 2)) (tm_256 _ (by decide)) (tm_256 _ (by decide))
        have x2 := bits_xor8 (tm 2 (c 1) ^^^ tm 3 (c 2)) (c 3) (xor_256 (tm_256 _ (by decide)) (tm_256 _ (by decide))) (hc.out _)
        have x3 := bits_xor8 ((tm 2 (c 1) ^^^ tm 3 (c 2)) ^^^ c 3) (c 0) (xor_256 (xor_256 (tm_256 _ (by decide)) (tm_256 _ (by decide))) (hc.out _)) (hc.out _)
        have xm := mix_ref c hc.out 1
        simp only [Nat.reduceAdd, Nat.reduceMod] at xm
        rw [xm] at x3
        obtain ⟨v, hv, hD⟩ := Draws.one wr
        have hB := hb0.trans (hD.below g)
        have hown : v.ownsRow g 5 1 (.slice bo 1 co) 1 (rowN 1 (mixc c)) := by rw [← hv]; exact hown
        go_wp2_with fail
        refine region_seqS (fun w' => Below g w w') (by kernel_rfl) (by rw [hv]; exact hB) ?_
        simp only [pairs, Nat.reduceAdd]
        change SeqS _ _ _ _ _ _ _ _ wr.drew
        rw [hv]
        clear hv hD hb0
        repeat (first
          | (refine SeqS.take (v := ?_) (by first | assumption | trivial) (by kernel_rfl) (by decide +kernel) (by decide +kernel) (Or.inl ⟨by rfl, ?_⟩) ?_
             rotate_left
             focus
               intro w' hb'
               have d0 := (hb'.cell (p := ⟨b, off, none⟩) hbl.out).trans c0.out
               have d1 := (hb'.cell (p := ⟨b, off + 1, none⟩) hbl.out).trans c1.out
               have d2 := (hb'.cell (p := ⟨b, off + 2, none⟩) hbl.out).trans c2.out
               have d3 := (hb'.cell (p := ⟨b, off + 3, none⟩) hbl.out).trans c3.out
               go_simp
               with_reducible rfl
             simp only [Act.put, List.setIfInBounds_toArray, List.set_cons_zero, List.set_cons_succ])
          | (refine SeqS.take1 (v := ?_) (by first | assumption | trivial) (by kernel_rfl) (by decide +kernel) (by decide +kernel) (Or.inl ⟨by rfl, ?_⟩) ?_
             rotate_left
             focus
               intro w' hb'
               have d0 := (hb'.cell (p := ⟨b, off, none⟩) hbl.out).trans c0.out
               have d1 := (hb'.cell (p := ⟨b, off + 1, none⟩) hbl.out).trans c1.out
               have d2 := (hb'.cell (p := ⟨b, off + 2, none⟩) hbl.out).trans c2.out
               have d3 := (hb'.cell (p := ⟨b, off + 3, none⟩) hbl.out).trans c3.out
               go_simp
               with_reducible rfl
             simp only [Act.put, List.setIfInBounds_toArray, List.set_cons_zero, List.set_cons_succ])
          | (refine SeqS.take2 (v := ?_) (by first | assumption | trivial) (by kernel_rfl) (by decide +kernel) (by decide +kernel) (Or.inl ⟨by rfl, ?_⟩) ?_
             rotate_left
             focus
               intro w' hb'
               have d0 := (hb'.cell (p := ⟨b, off, none⟩) hbl.out).trans c0.out
               have d1 := (hb'.cell (p := ⟨b, off + 1, none⟩) hbl.out).trans c1.out
               have d2 := (hb'.cell (p := ⟨b, off + 2, none⟩) hbl.out).trans c2.out
               have d3 := (hb'.cell (p := ⟨b, off + 3, none⟩) hbl.out).trans c3.out
               go_simp
               with_reducible rfl
             simp only [Act.put, List.setIfInBounds_toArray, List.set_cons_zero, List.set_cons_succ])
          | (refine SeqS.take3 (v := ?_) (by first | assumption | trivial) (by kernel_rfl) (by decide +kernel) (by decide +kernel) (Or.inl ⟨by rfl, ?_⟩) ?_
             rotate_left
             focus
               intro w' hb'
               have d0 := (hb'.cell (p := ⟨b, off, none⟩) hbl.out).trans c0.out
               have d1 := (hb'.cell (p := ⟨b, off + 1, none⟩) hbl.out).trans c1.out
               have d2 := (hb'.cell (p := ⟨b, off + 2, none⟩) hbl.out).trans c2.out
               have d3 := (hb'.cell (p := ⟨b, off + 3, none⟩) hbl.out).trans c3.out
               go_simp
               with_reducible rfl
             simp only [Act.put, List.setIfInBounds_toArray, List.set_cons_zero, List.set_cons_succ])
          | (refine SeqS.take4 (v := ?_) (by first | assumption | trivial) (by kernel_rfl) (by decide +kernel) (by decide +kernel) (Or.inl ⟨by rfl, ?_⟩) ?_
             rotate_left
             focus
               intro w' hb'
               have d0 := (hb'.cell (p := ⟨b, off, none⟩) hbl.out).trans c0.out
               have d1 := (hb'.cell (p := ⟨b, off + 1, none⟩) hbl.out).trans c1.out
               have d2 := (hb'.cell (p := ⟨b, off + 2, none⟩) hbl.out).trans c2.out
               have d3 := (hb'.cell (p := ⟨b, off + 3, none⟩) hbl.out).trans c3.out
               go_simp
               with_reducible rfl
             simp only [Act.put, List.setIfInBounds_toArray, List.set_cons_zero, List.set_cons_succ]))
        refine SeqS.alone (by decide +kernel) (by rfl) (fun K hK => ?_)
        go_simp
        refine (t1 _).mono ?_
        rintro e w' ⟨rfl, rfl⟩
        go_simp
        refine hK _ _ hB ?_
        clear hK K
        refine SeqS.alone (by decide +kernel) (by rfl) (fun K hK => ?_)
        go_simp
        refine (t2 _).mono ?_
        rintro e w' ⟨rfl, rfl⟩
        go_simp
        refine hK _ _ hB ?_
        clear hK K
        repeat (first
          | (refine SeqS.take (v := ?_) (by first | assumption | trivial) (by kernel_rfl) (by decide +kernel) (by decide +kernel) (Or.inl ⟨by rfl, ?_⟩) ?_
             rotate_left
             focus
               intro w' hb'
               go_simp
               with_reducible rfl
             simp only [Act.put, List.setIfInBounds_toArray, List.set_cons_zero, List.set_cons_succ]))
        refine SeqS.alone (by decide +kernel) (by rfl) (fun K hK => ?_)
        go_simp
        have hBs : g ≤ v.heap.size := Nat.le_trans (by have := hg.out; omega) hB.size
        have hone := one_at v .u8 5 (mixc c 1 : Int)
        have hB2 := hB.alloc hBs (.cells #[.int .u8 (mixc c 1 : Int)] 5)
        have hown2 := hown.alloc (.cells #[.int .u8 (mixc c 1 : Int)] 5)
        obtain ⟨v2, hv2⟩ : ∃ v2, v.alloc (.cells #[.int .u8 (mixc c 1 : Int)] 5) = v2 := ⟨_, rfl⟩
        rw [hv2] at hone hB2 hown2 ⊢
        have hBs2 : g ≤ v2.heap.size := by rw [← hv2]; simp; omega
        clear hv2
        refine hK _ _ hB2 ?_
        clear hK K
        refine SeqS.alone (by decide +kernel) (by rfl) (fun K hK => ?_)
        refine wp_append_ints (.tmp 9) (.tmp 37) 24 rfl g 5 i0 (.int .u8 0) 1 Tryz.underlying24 hi hz0 hz1 hz2 rfl rfl hown2 rfl hone ?_ ?_ hBs2 ?_
        · unfold maxLen; omega
        · omega
        intro v3 w3 hown3 hg3
        have hB3 := hB2.grown hg3 hBs2 (fun j hj => (hown2.lt j hj).1)
        have hown3 : w3.ownsRow g 5 1 v3 2 (rowN 2 (mixc c)) := by rw [rowN_snoc]; exact hown3
        refine hK _ _ hB3 ?_
        clear hK K hown hown2 hone hB hB2 hg3
        (refine SeqS.take (v := ?_) (by first | assumption | trivial) (by kernel_rfl) (by decide +kernel) (by decide +kernel) (Or.inl ⟨by rfl, ?_⟩) ?_
         rotate_left
         focus
           intro w' hb'
           go_simp
           with_reducible rfl
         simp only [Act.put, List.setIfInBounds_toArray, List.set_cons_zero, List.set_cons_succ])
        refine SeqS.done (by decide +kernel) ?_
        go_wp2
        go_roundw
        case rel => exact ⟨2, by omega, by go_num, hown3, hB3⟩
        case measure => simp [intOf]
      · have d1 : IntKind.i64.wrap 3 = 3 := by decide
        have d2 : IntKind.i64.wrap 4 = 4 := by decide
        have d3 : IntKind.i64.wrap 5 = 5 := by decide
        have m1 : (3 : Int).tmod 4 = 3 := by decide
        have m2 : (4 : Int).tmod 4 = 0 := by decide
        have m3 : (5 : Int).tmod 4 = 1 := by decide
        have t1 := fun v => rTimes_is (2 : Int) (c 2 : Int) (tm 2 (c 2) : Nat) 2 (c 2) _ v rfl rfl (by decide) (hc.out _) rfl rfl
        have t2 := fun v => rTimes_is (3 : Int) (c 3 : Int) (tm 3 (c 3) : Nat) 3 (c 3) _ v rfl rfl (by decide) (hc.out _) rfl rfl
        have x1 := bits_xor8 (tm 2 (c 2)) (tm 3 (c 3)) (tm_256 _ (by decide)) (tm_256 _ (by decide))
        have x2 := bits_xor8 (tm 2 (c 2) ^^^ tm 3 (c 3)) (c 0) (xor_256 (tm_256 _ (by decide)) (tm_256 _ (by decide))) (hc.out _)
        have x3 := bits_xor8 ((tm 2 (c 2) ^^^ tm 3 (c 3)) ^^^ c 0) (c 1) (xor_256 (xor_256 (tm_256 _ (by decide)) (tm_256 _ (by decide))) (hc.out _)) (hc.out _)
        have xm := mix_ref c hc.out 2
        simp only [Nat.reduceAdd, Nat.reduceMod] at xm
        rw [xm] at x3
        obtain ⟨v, hv, hD⟩ := Draws.one wr
        have hB := hb0.trans (hD.below g)
        have hown : v.ownsRow g 5 1 (.slice bo 2 co) 2 (rowN 2 (mixc c)) := by rw [← hv]; exact hown
        go_wp2_with fail
        refine region_seqS (fun w' => Below g w w') (by kernel_rfl) (by rw [hv]; exact hB) ?_
        simp only [pairs, Nat.reduceAdd]
        change SeqS _ _ _ _ _ _ _ _ wr.drew
        rw [hv]
        clear hv hD hb0
        repeat (first
          | (refine SeqS.take (v := ?_) (by first | assumption | trivial) (by kernel_rfl) (by decide +kernel) (by decide +kernel) (Or.inl ⟨by rfl, ?_⟩) ?_
             rotate_left
             focus
               intro w' hb'
               have d0 := (hb'.cell (p := ⟨b, off, none⟩) hbl.out).trans c0.out
               have d1 := (hb'.cell (p := ⟨b, off + 1, none⟩) hbl.out).trans c1.out
               have d2 := (hb'.cell (p := ⟨b, off + 2, none⟩) hbl.out).trans c2.out
               have d3 := (hb'.cell (p := ⟨b, off + 3, none⟩) hbl.out).trans c3.out
               go_simp
               with_reducible rfl
             simp only [Act.put, List.setIfInBounds_toArray, List.set_cons_zero, List.set_cons_succ])
          | (refine SeqS.take1 (v := ?_) (by first | assumption | trivial) (by kernel_rfl) (by decide +kernel) (by decide +kernel) (Or.inl ⟨by rfl, ?_⟩) ?_
             rotate_left
             focus
               intro w' hb'
               have d0 := (hb'.cell (p := ⟨b, off, none⟩) hbl.out).trans c0.out
               have d1 := (hb'.cell (p := ⟨b, off + 1, none⟩) hbl.out).trans c1.out
               have d2 := (hb'.cell (p := ⟨b, off + 2, none⟩) hbl.out).trans c2.out
               have d3 := (hb'.cell (p := ⟨b, off + 3, none⟩) hbl.out).trans c3.out
               go_simp
               with_reducible rfl
             simp only [Act.put, List.setIfInBounds_toArray, List.set_cons_zero, List.set_cons_succ])
          | (refine SeqS.take2 (v := ?_) (by first | assumption | trivial) (by kernel_rfl) (by decide +kernel) (by decide +kernel) (Or.inl ⟨by rfl, ?_⟩) ?_
             rotate_left
             focus
               intro w' hb'
               have d0 := (hb'.cell (p := ⟨b, off, none⟩) hbl.out).trans c0.out
               have d1 := (hb'.cell (p := ⟨b, off + 1, none⟩) hbl.out).trans c1.out
               have d2 := (hb'.cell (p := ⟨b, off + 2, none⟩) hbl.out).trans c2.out
               have d3 := (hb'.cell (p := ⟨b, off + 3, none⟩) hbl.out).trans c3.out
               go_simp
               with_reducible rfl
             simp only [Act.put, List.setIfInBounds_toArray, List.set_cons_zero, List.set_cons_succ])
          | (refine SeqS.take3 (v := ?_) (by first | assumption | trivial) (by kernel_rfl) (by decide +kernel) (by decide +kernel) (Or.inl ⟨by rfl, ?_⟩) ?_
             rotate_left
             focus
               intro w' hb'
               have d0 := (hb'.cell (p := ⟨b, off, none⟩) hbl.out).trans c0.out
               have d1 := (hb'.cell (p := ⟨b, off + 1, none⟩) hbl.out).trans c1.out
               have d2 := (hb'.cell (p := ⟨b, off + 2, none⟩) hbl.out).trans c2.out
               have d3 := (hb'.cell (p := ⟨b, off + 3, none⟩) hbl.out).trans c3.out
               go_simp
               with_reducible rfl
             simp only [Act.put, List.setIfInBounds_toArray, List.set_cons_zero, List.set_cons_succ])
          | (refine SeqS.take4 (v := ?_) (by first | assumption | trivial) (by kernel_rfl) (by decide +kernel) (by decide +kernel) (Or.inl ⟨by rfl, ?_⟩) ?_
             rotate_left
             focus
               intro w' hb'
               have d0 := (hb'.cell (p := ⟨b, off, none⟩) hbl.out).trans c0.out
               have d1 := (hb'.cell (p := ⟨b, off + 1, none⟩) hbl.out).trans c1.out
               have d2 := (hb'.cell (p := ⟨b, off + 2, none⟩) hbl.out).trans c2.out
               have d3 := (hb'.cell (p := ⟨b, off + 3, none⟩) hbl.out).trans c3.out
               go_simp
               with_reducible rfl
             simp only [Act.put, List.setIfInBounds_toArray, List.set_cons_zero, List.set_cons_succ]))
        refine SeqS.alone (by decide +kernel) (by rfl) (fun K hK => ?_)
        go_simp
        refine (t1 _).mono ?_
        rintro e w' ⟨rfl, rfl⟩
        go_simp
        refine hK _ _ hB ?_
        clear hK K
        refine SeqS.alone (by decide +kernel) (by rfl) (fun K hK => ?_)
        go_simp
        refine (t2 _).mono ?_
        rintro e w' ⟨rfl, rfl⟩
        go_simp
        refine hK _ _ hB ?_
        clear hK K
        repeat (first
          | (refine SeqS.take (v := ?_) (by first | assumption | trivial) (by kernel_rfl) (by decide +kernel) (by decide +kernel) (Or.inl ⟨by rfl, ?_⟩) ?_
             rotate_left
             focus
               intro w' hb'
               go_simp
               with_reducible rfl
             simp only [Act.put, List.setIfInBounds_toArray, List.set_cons_zero, List.set_cons_succ]))
        refine SeqS.alone (by decide +kernel) (by rfl) (fun K hK => ?_)
        go_simp
        have hBs : g ≤ v.heap.size := Nat.le_trans (by have := hg.out; omega) hB.size
        have hone := one_at v .u8 5 (mixc c 2 : Int)
        have hB2 := hB.alloc hBs (.cells #[.int .u8 (mixc c 2 : Int)] 5)
        have hown2 := hown.alloc (.cells #[.int .u8 (mixc c 2 : Int)] 5)
        obtain ⟨v2, hv2⟩ : ∃ v2, v.alloc (.cells #[.int .u8 (mixc c 2 : Int)] 5) = v2 := ⟨_, rfl⟩
        rw [hv2] at hone hB2 hown2 ⊢
        have hBs2 : g ≤ v2.heap.size := by rw [← hv2]; simp; omega
        clear hv2
        refine hK _ _ hB2 ?_
        clear hK K
        refine SeqS.alone (by decide +kernel) (by rfl) (fun K hK => ?_)
        refine wp_append_ints (.tmp 9) (.tmp 37) 24 rfl g 5 i0 (.int .u8 0) 1 Tryz.underlying24 hi hz0 hz1 hz2 rfl rfl hown2 rfl hone ?_ ?_ hBs2 ?_
        · unfold maxLen; omega
        · omega
        intro v3 w3 hown3 hg3
        have hB3 := hB2.grown hg3 hBs2 (fun j hj => (hown2.lt j hj).1)
        have hown3 : w3.ownsRow g 5 1 v3 3 (rowN 3 (mixc c)) := by rw [rowN_snoc]; exact hown3
        refine hK _ _ hB3 ?_
        clear hK K hown hown2 hone hB hB2 hg3
        (refine SeqS.take (v := ?_) (by first | assumption | trivial) (by kernel_rfl) (by decide +kernel) (by decide +kernel) (Or.inl ⟨by rfl, ?_⟩) ?_
         rotate_left
         focus
           intro w' hb'
           go_simp
           with_reducible rfl
         simp only [Act.put, List.setIfInBounds_toArray, List.set_cons_zero, List.set_cons_succ])
        refine SeqS.done (by decide +kernel) ?_
        go_wp2
        go_roundw
        case rel => exact ⟨3, by omega, by go_num, hown3, hB3⟩
        case measure => simp [intOf]
      · have d1 : IntKind.i64.wrap 4 = 4 := by decide
        have d2 : IntKind.i64.wrap 5 = 5 := by decide
        have d3 : IntKind.i64.wrap 6 = 6 := by decide
        have m1 : (4 : Int).tmod 4 = 0 := by decide
        have m2 : (5 : Int).tmod 4 = 1 := by decide
        have m3 : (6 : Int).tmod 4 = 2 := by decide
        have t1 := fun v => rTimes_is (2 : Int) (c 3 : Int) (tm 2 (c 3) : Nat) 2 (c 3) _ v rfl rfl (by decide) (hc.out _) rfl rfl
        have t2 := fun v => rTimes_is (3 : Int) (c 0 : Int) (tm 3 (c 0) : Nat) 3 (c 0) _ v rfl rfl (by decide) (hc.out _) rfl rfl
        have x1 := bits_xor8 (tm 2 (c 3)) (tm 3 (c 0)) (tm_256 _ (by decide)) (tm_256 _ (by decide))
        have x2 := bits_xor8 (tm 2 (c 3) ^^^ tm 3 (c 0)) (c 1) (xor_256 (tm_256 _ (by decide)) (tm_256 _ (by decide))) (hc.out _)
        have x3 := bits_xor8 ((tm 2 (c 3) ^^^ tm 3 (c 0)) ^^^ c 1) (c 2) (xor_256 (xor_256 (tm_256 _ (by decide)) (tm_256 _ (by decide))) (hc.out _)) (hc.out _)
        have xm := mix_ref c hc.out 3
        simp only [Nat.reduceAdd, Nat.reduceMod] at xm
        rw [xm] at x3
        obtain ⟨v, hv, hD⟩ := Draws.one wr
        have hB := hb0.trans (hD.below g)
        have hown : v.ownsRow g 5 1 (.slice bo 3 co) 3 (rowN 3 (mixc c)) := by rw [← hv]; exact hown
        go_wp2_with fail
        refine region_seqS (fun w' => Below g w w') (by kernel_rfl) (by rw [hv]; exact hB) ?_
        simp only [pairs, Nat.reduceAdd]
        change SeqS _ _ _ _ _ _ _ _ wr.drew
        rw [hv]
        clear hv hD hb0
        repeat (first
          | (refine SeqS.take (v := ?_) (by first | assumption | trivial) (by kernel_rfl) (by decide +kernel) (by decide +kernel) (Or.inl ⟨by rfl, ?_⟩) ?_
             rotate_left
             focus
               intro w' hb'
               have d0 := (hb'.cell (p := ⟨b, off, none⟩) hbl.out).trans c0.out
               have d1 := (hb'.cell (p := ⟨b, off + 1, none⟩) hbl.out).trans c1.out
               have d2 := (hb'.cell (p := ⟨b, off + 2, none⟩) hbl.out).trans c2.out
               have d3 := (hb'.cell (p := ⟨b, off + 3, none⟩) hbl.out).trans c3.out
               go_simp
               with_reducible rfl
             simp only [Act.put, List.setIfInBounds_toArray, List.set_cons_zero, List.set_cons_succ])
          | (refine SeqS.take1 (v := ?_) (by first | assumption | trivial) (by kernel_rfl) (by decide +kernel) (by decide +kernel) (Or.inl ⟨by rfl, ?_⟩) ?_
             rotate_left
             focus
               intro w' hb'
               have d0 := (hb'.cell (p := ⟨b, off, none⟩) hbl.out).trans c0.out
               have d1 := (hb'.cell (p := ⟨b, off + 1, none⟩) hbl.out).trans c1.out
               have d2 := (hb'.cell (p := ⟨b, off + 2, none⟩) hbl.out).trans c2.out
               have d3 := (hb'.cell (p := ⟨b, off + 3, none⟩) hbl.out).trans c3.out
               go_simp
               with_reducible rfl
             simp only [Act.put, List.setIfInBounds_toArray, List.set_cons_zero, List.set_cons_succ])
          | (refine SeqS.take2 (v := ?_) (by first | assumption | trivial) (by kernel_rfl) (by decide +kernel) (by decide +kernel) (Or.inl ⟨by rfl, ?_⟩) ?_
             rotate_left
             focus
               intro w' hb'
               have d0 := (hb'.cell (p := ⟨b, off, none⟩) hbl.out).trans c0.out
               have d1 := (hb'.cell (p := ⟨b, off + 1, none⟩) hbl.out).trans c1.out
               have d2 := (hb'.cell (p := ⟨b, off + 2, none⟩) hbl.out).trans c2.out
               have d3 := (hb'.cell (p := ⟨b, off + 3, none⟩) hbl.out).trans c3.out
               go_simp
               with_reducible rfl
             simp only [Act.put, List.setIfInBounds_toArray, List.set_cons_zero, List.set_cons_succ])
          | (refine SeqS.take3 (v := ?_) (by first | assumption | trivial) (by kernel_rfl) (by decide +kernel) (by decide +kernel) (Or.inl ⟨by rfl, ?_⟩) ?_
             rotate_left
             focus
               intro w' hb'
               have d0 := (hb'.cell (p := ⟨b, off, none⟩) hbl.out).trans c0.out
               have d1 := (hb'.cell (p := ⟨b, off + 1, none⟩) hbl.out).trans c1.out
               have d2 := (hb'.cell (p := ⟨b, off + 2, none⟩) hbl.out).trans c2.out
               have d3 := (hb'.cell (p := ⟨b, off + 3, none⟩) hbl.out).trans c3.out
               go_simp
               with_reducible rfl
             simp only [Act.put, List.setIfInBounds_toArray, List.set_cons_zero, List.set_cons_succ])
          | (refine SeqS.take4 (v := ?_) (by first | assumption | trivial) (by kernel_rfl) (by decide +kernel) (by decide +kernel) (Or.inl ⟨by rfl, ?_⟩) ?_
             rotate_left
             focus
               intro w' hb'
               have d0 := (hb'.cell (p := ⟨b, off, none⟩) hbl.out).trans c0.out
               have d1 := (hb'.cell (p := ⟨b, off + 1, none⟩) hbl.out).trans c1.out
               have d2 := (hb'.cell (p := ⟨b, off + 2, none⟩) hbl.out).trans c2.out
               have d3 := (hb'.cell (p := ⟨b, off + 3, none⟩) hbl.out).trans c3.out
               go_simp
               with_reducible rfl
             simp only [Act.put, List.setIfInBounds_toArray, List.set_cons_zero, List.set_cons_succ]))
        refine SeqS.alone (by decide +kernel) (by rfl) (fun K hK => ?_)
        go_simp
        refine (t1 _).mono ?_
        rintro e w' ⟨rfl, rfl⟩
        go_simp
        refine hK _ _ hB ?_
        clear hK K
        refine SeqS.alone (by decide +kernel) (by rfl) (fun K hK => ?_)
        go_simp
        refine (t2 _).mono ?_
        rintro e w' ⟨rfl, rfl⟩
        go_simp
        refine hK _ _ hB ?_
        clear hK K
        repeat (first
          | (refine SeqS.take (v := ?_) (by first | assumption | trivial) (by kernel_rfl) (by decide +kernel) (by decide +kernel) (Or.inl ⟨by rfl, ?_⟩) ?_
             rotate_left
             focus
               intro w' hb'
               go_simp
               with_reducible rfl
             simp only [Act.put, List.setIfInBounds_toArray, List.set_cons_zero, List.set_cons_succ]))
        refine SeqS.alone (by decide +kernel) (by rfl) (fun K hK => ?_)
        go_simp
        have hBs : g ≤ v.heap.size := Nat.le_trans (by have := hg.out; omega) hB.size
        have hone := one_at v .u8 5 (mixc c 3 : Int)
        have hB2 := hB.alloc hBs (.cells #[.int .u8 (mixc c 3 : Int)] 5)
        have hown2 := hown.alloc (.cells #[.int .u8 (mixc c 3 : Int)] 5)
        obtain ⟨v2, hv2⟩ : ∃ v2, v.alloc (.cells #[.int .u8 (mixc c 3 : Int)] 5) = v2 := ⟨_, rfl⟩
        rw [hv2] at hone hB2 hown2 ⊢
        have hBs2 : g ≤ v2.heap.size := by rw [← hv2]; simp; omega
        clear hv2
        refine hK _ _ hB2 ?_
        clear hK K
        refine SeqS.alone (by decide +kernel) (by rfl) (fun K hK => ?_)
        refine wp_append_ints (.tmp 9) (.tmp 37) 24 rfl g 5 i0 (.int .u8 0) 1 Tryz.underlying24 hi hz0 hz1 hz2 rfl rfl hown2 rfl hone ?_ ?_ hBs2 ?_
        · unfold maxLen; omega
        · omega
        intro v3 w3 hown3 hg3
        have hB3 := hB2.grown hg3 hBs2 (fun j hj => (hown2.lt j hj).1)
        have hown3 : w3.ownsRow g 5 1 v3 4 (rowN 4 (mixc c)) := by rw [rowN_snoc]; exact hown3
        refine hK _ _ hB3 ?_
        clear hK K hown hown2 hone hB hB2 hg3
        (refine SeqS.take (v := ?_) (by first | assumption | trivial) (by kernel_rfl) (by decide +kernel) (by decide +kernel) (Or.inl ⟨by rfl, ?_⟩) ?_
         rotate_left
         focus
           intro w' hb'
           go_simp
           with_reducible rfl
         simp only [Act.put, List.setIfInBounds_toArray, List.set_cons_zero, List.set_cons_succ])
        refine SeqS.done (by decide +kernel) ?_
        go_wp2
        go_roundw
        case rel => exact ⟨4, by omega, by go_num, hown3, hB3⟩
        case measure => simp [intOf]
    · obtain rfl : k = 4 := by omega
      go_wp2
      go_ret
      obtain ⟨b', c', rfl, hr⟩ := Ints.of_owns (xs := bytesL 4 (mixc c)) (by rw [bytesL_row]; exact hown)
      refine ⟨b', c', rfl, hr, ?_⟩
      rw [hg.out]
      exact hB
end Go.Proofs.YtagacpjeooaapaaGreatDoor

/-
  The document's example, reckoned: the key 0, 1, .. , 31, its words, the block 00, 11, .. , ff round by round, and what it is encrypted as.
-/
namespace Go.Proofs.YtagacpjeooaapaaGreatDoor

def exT : List Nat := [99, 124, 119, 123, 242, 107, 111, 197, 48, 1, 103, 43, 254, 215, 171, 118, 202, 130, 201, 125, 250, 89, 71, 240, 173, 212, 162, 175, 156, 164, 114, 192, 183, 253, 147, 38, 54, 63, 247, 204, 52, 165, 229, 241, 113, 216, 49, 21, 4, 199, 35, 195, 24, 150, 5, 154, 7, 18, 128, 226, 235, 39, 178, 117, 9, 131, 44, 26, 27, 110, 90, 160, 82, 59, 214, 179, 41, 227, 47, 132, 83, 209, 0, 237, 32, 252, 177, 91, 106, 203, 190, 57, 74, 76, 88, 207, 208, 239, 170, 251, 67, 77, 51, 133, 69, 249, 2, 127, 80, 60, 159, 168, 81, 163, 64, 143, 146, 157, 56, 245, 188, 182, 218, 33, 16, 255, 243, 210, 205, 12, 19, 236, 95, 151, 68, 23, 196, 167, 126, 61, 100, 93, 25, 115, 96, 129, 79, 220, 34, 42, 144, 136, 70, 238, 184, 20, 222, 94, 11, 219, 224, 50, 58, 10, 73, 6, 36, 92, 194, 211, 172, 98, 145, 149, 228, 121, 231, 200, 55, 109, 141, 213, 78, 169, 108, 86, 244, 234, 101, 122, 174, 8, 186, 120, 37, 46, 28, 166, 180, 198, 232, 221, 116, 31, 75, 189, 139, 138, 112, 62, 181, 102, 72, 3, 246, 14, 97, 53, 87, 185, 134, 193, 29, 158, 225, 248, 152, 17, 105, 217, 142, 148, 155, 30, 135, 233, 206, 85, 40, 223, 140, 161, 137, 13, 191, 230, 66, 104, 65, 153, 45, 15, 176, 84, 187, 22]
def exW : List Nat := [66051, 67438087, 134810123, 202182159, 269554195, 336926231, 404298267, 471670303, 2775827103, 2708915352, 2843725459, 2775761052, 374450381, 38059738, 442344641, 104905438, 2928140272, 267459432, 2794378747, 66852199, 1843523912, 1873104786, 1979247443, 1941459341, 3327558271, 3383204119, 1864977644, 1825921419, 1038236277, 1380414951, 666869428, 1409797945, 199004255, 3262843208, 2907850148, 3246857263, 1173726816, 397595527, 806178099, 1678410250, 2094003996, 3199532628, 333888496, 3529615327, 4028300030, 3886557561, 3617940554, 3014649408, 625081969, 2616524837, 2282994645, 1517427722, 1314547353, 2851229664, 2119642026, 3455634922, 620526028, 3205069289, 924500540, 1835589174]
def exS : List Nat := [0, 16, 32, 48, 64, 80, 96, 112, 128, 144, 160, 176, 192, 208, 224, 240, 79, 99, 118, 6, 67, 224, 170, 133, 239, 167, 33, 50, 1, 164, 231, 5, 24, 89, 251, 194, 138, 28, 0, 160, 120, 237, 138, 173, 196, 47, 97, 9, 151, 92, 102, 193, 203, 159, 63, 168, 169, 58, 40, 223, 142, 225, 15, 99, 28, 5, 242, 113, 164, 23, 224, 79, 249, 33, 197, 193, 4, 112, 21, 84, 195, 87, 170, 225, 27, 69, 183, 176, 162, 199, 189, 40, 168, 220, 153, 250, 127, 7, 65, 67, 203, 78, 36, 62, 193, 12, 129, 93, 131, 117, 213, 76, 214, 83, 164, 105, 108, 160, 188, 15, 90, 202, 171, 93, 185, 108, 94, 125, 90, 168, 88, 57, 95, 210, 141, 125, 5, 225, 163, 136, 104, 243, 185, 197, 74, 130, 72, 81, 197, 126, 126, 71, 100, 61, 229, 12, 42, 243, 232, 201, 193, 73, 7, 246, 202, 59, 58, 160, 112, 233, 170, 49, 59, 82, 181, 236, 95, 156, 106, 191, 186, 198, 52, 170, 80, 64, 159, 167, 102, 103, 118, 83, 81, 102, 4, 149, 67, 83, 149, 3, 20, 251, 134, 228, 1, 146, 37, 33, 98, 123, 206, 185, 153, 157, 90, 170, 201, 69, 236, 244, 35, 245, 109, 165, 142, 162, 183, 202, 81, 103, 69, 191, 234, 252, 73, 144, 75, 73, 96, 137]
def exKey (i : Nat) : Nat := i % 256
def exBlk (i : Nat) : Nat := 17 * i % 256
theorem exT_inv : ∀ x < 256, x ≠ 0 → ist (exT.getD x 0) < 256 ∧ tm x (ist (exT.getD x 0)) = 1 ∧ exT.getD x 0 < 256 := by decide +kernel
theorem sb_exT (x : Nat) (hx : x < 256) : sb x = exT.getD x 0 := by
  by_cases h : x = 0
  · subst h; rw [sb_zero]; rfl
  · obtain ⟨h1, h2, h3⟩ := exT_inv x hx h
    unfold sb
    rw [← inv_uniq x _ hx h1 h2, st_ist _ h3]
theorem wd_exT (x k : Nat) : bwd sb x k = bwd (fun i => exT.getD i 0) x k := by
  induction k with
  | zero => rfl
  | succ k ih => simp only [bwd, ih]; rw [sb_exT _ (Nat.mod_lt _ (by decide))]
def chgT (t x : Nat) : Nat := if t % 8 = 0 then bwd (fun i => exT.getD i 0) (rl8 x) 4 ^^^ (pw 2 (t / 8 - 1) * 16777216) else if t % 8 = 4 then bwd (fun i => exT.getD i 0) x 4 else x
theorem chg_exT (t x : Nat) : chg t x = chgT t x := by unfold chg chgT; rw [wd_exT, wd_exT]
theorem exW_own : ∀ i < 8, own (bytesL 32 exKey) i = exW.getD i 0 := by decide +kernel
theorem exW_next : ∀ n < 52, exW.getD (8 + n) 0 = exW.getD n 0 ^^^ chgT (8 + n) (exW.getD (7 + n) 0) := by decide +kernel
theorem exW_all : ∀ n, n ≤ 52 → ∀ i, i < 8 + n → kws (own (bytesL 32 exKey)) n i = exW.getD i 0 := by
  intro n
  induction n with
  | zero => intro _ i hi; exact exW_own i (by omega)
  | succ n ih =>
    intro hn i hi
    show upd _ (8 + n) _ i = _
    unfold upd
    by_cases e : i = 8 + n
    · rw [if_pos e, ih (by omega) n (by omega), ih (by omega) (7 + n) (by omega), chg_exT, e, exW_next n (by omega)]
    · rw [if_neg e, ih (by omega) i (by omega)]
def exF : Nat → Nat := kb (kws (own (bytesL 32 exKey)) 52)
theorem exF_at (r i : Nat) (hr : r < 15) (hi : i < 16) : keyAt exF r i = kb (fun j => exW.getD j 0) (16 * r + i) := by
  show kb _ (16 * r + i) = _
  unfold kb
  rw [exW_all 52 (Nat.le_refl _) _ (by omega)]
theorem exS_zero : ∀ i < 16, exBlk i ^^^ kb (fun j => exW.getD j 0) (16 * 0 + i) = exS.getD i 0 := by decide +kernel
theorem exS_byte : ∀ i < 240, exS.getD i 0 < 256 := by decide +kernel
theorem exS_next : ∀ r < 14, ∀ i < 16, mid (r + 1) (bTurn 1 (bSb (fun x => exT.getD x 0) (fun j => exS.getD (16 * r + j) 0))) i ^^^ kb (fun j => exW.getD j 0) (16 * (r + 1) + i) = exS.getD (16 * (r + 1) + i) 0 := by decide +kernel
theorem exS_all : ∀ r, r ≤ 14 → Ag 16 (encs (keyAt exF) exBlk r) (fun i => exS.getD (16 * r + i) 0) := by
  intro r
  induction r with
  | zero =>
    intro _ i hi
    show exBlk i ^^^ keyAt exF 0 i = _
    rw [exF_at 0 i (by decide) hi, exS_zero i hi]
    show exS.getD i 0 = exS.getD (16 * 0 + i) 0
    rw [Nat.mul_zero, Nat.zero_add]
  | succ r ih =>
    intro hr i hi
    have h1 : Ag 16 (bSb sb (encs (keyAt exF) exBlk r)) (bSb (fun x => exT.getD x 0) (fun j => exS.getD (16 * r + j) 0)) := by
      intro j hj
      show sb (encs (keyAt exF) exBlk r j) = exT.getD (exS.getD (16 * r + j) 0) 0
      rw [ih (by omega) j hj]
      exact sb_exT _ (exS_byte _ (by omega))
    have h2 := mid_ag (r := r + 1) (bTurn_ag (t := 1) h1) i hi
    show mid (r + 1) (bTurn 1 (bSb sb (encs (keyAt exF) exBlk r))) i ^^^ keyAt exF (r + 1) i = _
    rw [h2, exF_at (r + 1) i (by omega) hi, exS_next r (by omega) i hi]
theorem ex_first : enc (keyAt exF) exBlk 0 = 142 := exS_all 14 (Nat.le_refl _) 0 (by decide)
theorem ex_second : enc (keyAt exF) exBlk 1 = 162 := exS_all 14 (Nat.le_refl _) 1 (by decide)
theorem ex_last : enc (keyAt exF) exBlk 15 = 137 := exS_all 14 (Nat.le_refl _) 15 (by decide)
end Go.Proofs.YtagacpjeooaapaaGreatDoor

/-
  Layer 7's example, reckoned: the key of 32 bytes 0, its words, the block of 16 bytes 0 round by round, and what it is encrypted as: dc, 95, ..
-/
namespace Go.Proofs.YtagacpjeooaapaaGreatDoor

def zxW : List Nat := [0, 0, 0, 0, 0, 0, 0, 0, 1650680675, 1650680675, 1650680675, 1650680675, 2868640763, 2868640763, 2868640763, 2868640763, 1869376719, 219090860, 1869376719, 219090860, 2106428778, 3614865041, 2106428778, 3614865041, 1398074817, 1583080045, 825724578, 1010336014, 2525659585, 1107097424, 1014069818, 3943107755, 2661977896, 3237047621, 4056343527, 3456000745, 724642783, 1791876239, 1455204021, 3183192606, 1678179666, 2767687703, 1429304304, 2563707161, 1841015051, 125203844, 1372246833, 3966859567, 3887130780, 1128757387, 376834939, 2394495586, 1961692065, 1939570213, 575778068, 3458257979, 284690967, 1405055644, 1170831847, 3413140357]
def zxS : List Nat := [0, 0, 0, 0, 0, 0, 0, 0, 0, 0, 0, 0, 0, 0, 0, 0, 99, 99, 99, 99, 99, 99, 99, 99, 99, 99, 99, 99, 99, 99, 99, 99, 153, 152, 152, 152, 153, 152, 152, 152, 153, 152, 152, 152, 153, 152, 152, 152, 167, 21, 21, 94, 167, 21, 21, 94, 167, 21, 21, 94, 167, 21, 21, 94, 61, 49, 51, 155, 95, 82, 80, 248, 61, 49, 51, 155, 95, 82, 80, 248, 177, 181, 244, 66, 71, 205, 228, 103, 177, 181, 244, 66, 71, 205, 228, 103, 62, 162, 105, 145, 36, 221, 49, 114, 92, 193, 10, 242, 70, 190, 82, 17, 84, 138, 161, 181, 36, 187, 33, 107, 248, 44, 183, 51, 95, 242, 121, 177, 154, 109, 79, 128, 92, 49, 57, 105, 190, 167, 206, 97, 244, 18, 108, 189, 227, 224, 215, 180, 135, 2, 38, 220, 44, 245, 194, 248, 97, 165, 39, 47, 239, 131, 238, 25, 250, 245, 110, 5, 53, 216, 137, 124, 211, 186, 41, 167, 2, 29, 33, 136, 143, 185, 15, 132, 34, 188, 92, 154, 128, 126, 230, 214, 79, 67, 92, 238, 64, 179, 62, 102, 135, 91, 107, 101, 54, 5, 76, 151, 39, 186, 159, 47, 43, 179, 100, 126, 200, 125, 16, 106, 21, 145, 99, 6, 220, 149, 192, 120, 162, 64, 137, 137, 173, 72, 162, 20, 146, 132, 32, 135]
theorem zxW_own : ∀ i < 8, own (bytesL 32 zf) i = zxW.getD i 0 := by decide +kernel
theorem zxW_next : ∀ n < 52, zxW.getD (8 + n) 0 = zxW.getD n 0 ^^^ chgT (8 + n) (zxW.getD (7 + n) 0) := by decide +kernel
theorem zxW_all : ∀ n, n ≤ 52 → ∀ i, i < 8 + n → kws (own (bytesL 32 zf)) n i = zxW.getD i 0 := by
  intro n
  induction n with
  | zero => intro _ i hi; exact zxW_own i (by omega)
  | succ n ih =>
    intro hn i hi
    show upd _ (8 + n) _ i = _
    unfold upd
    by_cases e : i = 8 + n
    · rw [if_pos e, ih (by omega) n (by omega), ih (by omega) (7 + n) (by omega), chg_exT, e, zxW_next n (by omega)]
    · rw [if_neg e, ih (by omega) i (by omega)]
def zxF : Nat → Nat := kb (kws (own (bytesL 32 zf)) 52)
theorem zxF_at (r i : Nat) (hr : r < 15) (hi : i < 16) : keyAt zxF r i = kb (fun j => zxW.getD j 0) (16 * r + i) := by
  show kb _ (16 * r + i) = _
  unfold kb
  rw [zxW_all 52 (Nat.le_refl _) _ (by omega)]
theorem zxS_zero : ∀ i < 16, zf i ^^^ kb (fun j => zxW.getD j 0) (16 * 0 + i) = zxS.getD i 0 := by decide +kernel
theorem zxS_byte : ∀ i < 240, zxS.getD i 0 < 256 := by decide +kernel
theorem zxS_next : ∀ r < 14, ∀ i < 16, mid (r + 1) (bTurn 1 (bSb (fun x => exT.getD x 0) (fun j => zxS.getD (16 * r + j) 0))) i ^^^ kb (fun j => zxW.getD j 0) (16 * (r + 1) + i) = zxS.getD (16 * (r + 1) + i) 0 := by decide +kernel
theorem zxS_all : ∀ r, r ≤ 14 → Ag 16 (encs (keyAt zxF) zf r) (fun i => zxS.getD (16 * r + i) 0) := by
  intro r
  induction r with
  | zero =>
    intro _ i hi
    show zf i ^^^ keyAt zxF 0 i = _
    rw [zxF_at 0 i (by decide) hi, zxS_zero i hi]
    show zxS.getD i 0 = zxS.getD (16 * 0 + i) 0
    rw [Nat.mul_zero, Nat.zero_add]
  | succ r ih =>
    intro hr i hi
    have h1 : Ag 16 (bSb sb (encs (keyAt zxF) zf r)) (bSb (fun x => exT.getD x 0) (fun j => zxS.getD (16 * r + j) 0)) := by
      intro j hj
      show sb (encs (keyAt zxF) zf r j) = exT.getD (zxS.getD (16 * r + j) 0) 0
      rw [ih (by omega) j hj]
      exact sb_exT _ (zxS_byte _ (by omega))
    have h2 := mid_ag (r := r + 1) (bTurn_ag (t := 1) h1) i hi
    show mid (r + 1) (bTurn 1 (bSb sb (encs (keyAt zxF) zf r))) i ^^^ keyAt zxF (r + 1) i = _
    rw [h2, zxF_at (r + 1) i (by omega) hi, zxS_next r (by omega) i hi]
theorem zx_first : enc (keyAt zxF) zf 0 = 220 := zxS_all 14 (Nat.le_refl _) 0 (by decide)
theorem zx_second : enc (keyAt zxF) zf 1 = 149 := zxS_all 14 (Nat.le_refl _) 1 (by decide)

/-! A key's stream: the block of eight bytes 0 and a number in eight bytes, the highest first; its encryption's bytes, one block behind the other. -/
/-- The block that is encrypted at the number n. -/
def ctr (n : Nat) : Nat → Nat := fun i => if i < 8 then 0 else n / 2 ^ (8 * (15 - i)) % 256
theorem ctr_by (n : Nat) : By (ctr n) := fun i => by
  unfold ctr
  split
  · decide
  · exact Nat.mod_lt _ (by decide)
theorem ctr_zero : Ag 16 (ctr 0) zf := fun i _ => by
  unfold ctr
  split
  · rfl
  · rw [Nat.zero_div]; rfl
/-- The stream's byte at a place, of round keys K. -/
def sby (K : Nat → Nat → Nat) (n : Nat) : Nat := enc K (ctr (n / 16)) (n % 16)
theorem sby_256 (K : Nat → Nat → Nat) (hK : ∀ r, By (K r)) (n : Nat) : sby K n < 256 := enc_by hK (ctr_by _) _
theorem sby_first : sby (keyAt zxF) 0 = 220 ∧ sby (keyAt zxF) 1 = 149 := by
  have h0 := encs_ag (K := keyAt zxF) ctr_zero 14 0 (by decide)
  have h1 := encs_ag (K := keyAt zxF) ctr_zero 14 1 (by decide)
  exact ⟨h0.trans zx_first, h1.trans zx_second⟩
end Go.Proofs.YtagacpjeooaapaaGreatDoor

/-
  A stream in memory ('StAt'): its cipher, the block that was encrypted last, its place and its mark; Place and Seek, and what they come to of a stream that is nil or that no call made. Conditions: numbers below 2^64.
-/
namespace Go.Proofs.YtagacpjeooaapaaGreatDoor
open Go.RowKit

/-- The cells of a stream of round keys F: the block of number n was encrypted last, it stands at p. -/
def stCells (F : Nat → Nat) (n p : Nat) : List Value := ciCells F sb bk true true ++ (.int .u64 (n : Int) :: (rowN 16 (enc (keyAt F) (ctr n)) ++ [.int .u64 (p : Int), .bool true]))
/-- Block g holds a stream of round keys F that stands at p. -/
def StAt (w : World) (g : Nat) (F : Nat → Nat) (p : Nat) : Prop := ∃ n, n < 18446744073709551616 ∧ Blk w g 102 (stCells F n p)
theorem stCells_len (F : Nat → Nat) (n p : Nat) : (stCells F n p).length = 773 := by simp [stCells, ciCells_len, rowN_len]
theorem stCells_ci (F : Nat → Nat) (n p i : Nat) (hi : i < 754) : (stCells F n p)[i]? = (ciCells F sb bk true true)[i]? := by
  unfold stCells
  rw [List.getElem?_append_left (by rw [ciCells_len]; exact hi)]
theorem stCells_num (F : Nat → Nat) (n p : Nat) : (stCells F n p)[754]? = some (.int .u64 (n : Int)) := by
  unfold stCells
  rw [List.getElem?_append_right (by rw [ciCells_len]; omega), ciCells_len]
  rfl
theorem stCells_blk (F : Nat → Nat) (n p i : Nat) (hi : i < 16) : (stCells F n p)[755 + i]? = some (.int .u8 (enc (keyAt F) (ctr n) i : Nat)) := by
  unfold stCells
  rw [List.getElem?_append_right (by rw [ciCells_len]; omega), ciCells_len, show 755 + i - 754 = i + 1 by omega, List.getElem?_cons_succ, List.getElem?_append_left (by rw [rowN_len]; exact hi), rowN_at 16 _ i hi]
theorem stCells_place (F : Nat → Nat) (n p : Nat) : (stCells F n p)[771]? = some (.int .u64 (p : Int)) := by
  unfold stCells
  rw [List.getElem?_append_right (by rw [ciCells_len]; omega), ciCells_len, show 771 - 754 = 16 + 1 from rfl, List.getElem?_cons_succ, List.getElem?_append_right (by rw [rowN_len]; omega), rowN_len]
  rfl
theorem stCells_made (F : Nat → Nat) (n p : Nat) : (stCells F n p)[772]? = some (.bool true) := by
  unfold stCells
  rw [List.getElem?_append_right (by rw [ciCells_len]; omega), ciCells_len, show 772 - 754 = 17 + 1 from rfl, List.getElem?_cons_succ, List.getElem?_append_right (by rw [rowN_len]; omega), rowN_len]
  rfl
theorem stCells_seek (F : Nat → Nat) (n p q : Nat) : (stCells F n p).set 771 (.int .u64 (q : Int)) = stCells F n q := by
  unfold stCells
  rw [List.set_append_right _ _ (by rw [ciCells_len]; omega), ciCells_len, show 771 - 754 = 16 + 1 from rfl, List.set_cons_succ, List.set_append_right _ _ (by rw [rowN_len]; omega), rowN_len]
  rfl
theorem StAt.lt {w : World} {g : Nat} {F : Nat → Nat} {p : Nat} (h : StAt w g F p) : g < w.heap.size := by
  obtain ⟨n, _, hb⟩ := h
  exact hb.lt
theorem StAt.keep {w w' : World} {g B : Nat} {F : Nat → Nat} {p : Nat} (h : StAt w g F p) (hb : Below B w w') (hg : g < B) : StAt w' g F p := by
  obtain ⟨n, hn, h⟩ := h
  exact ⟨n, hn, h.keep hb hg⟩
theorem StAt.grown {w w' : World} {g : Nat} {F : Nat → Nat} {p : Nat} {row : Option Nat} (h : StAt w g F p) (hb : w.grownBy w' row) (hg : some g ≠ row) : StAt w' g F p := by
  obtain ⟨n, hn, h⟩ := h
  exact ⟨n, hn, h.grown hb hg⟩
theorem StAt.drew {w : World} {g : Nat} {F : Nat → Nat} {p : Nat} (h : StAt w g F p) : StAt w.drew g F p := h
theorem StAt.made {w : World} {g : Nat} {F : Nat → Nat} {p : Nat} (h : StAt w g F p) : w.cell? ⟨g, 772, none⟩ = some (.bool true) := by
  obtain ⟨n, hn, h⟩ := h
  rw [h.cell, stCells_made]
theorem StAt.place {w : World} {g : Nat} {F : Nat → Nat} {p : Nat} (h : StAt w g F p) : w.cell? ⟨g, 771, none⟩ = some (.int .u64 (p : Int)) := by
  obtain ⟨n, hn, h⟩ := h
  rw [h.cell, stCells_place]
theorem StAt.frozen {w : World} {g : Nat} {F : Nat → Nat} {p : Nat} (h : StAt w g F p) (i : Nat) : w.frozen? ⟨g, i, none⟩ = false := by
  obtain ⟨n, hn, h⟩ := h
  exact Blk.frozen h i
theorem StAt.seek {w : World} {g : Nat} {F : Nat → Nat} {p : Nat} (h : StAt w g F p) (q : Nat) : StAt (w.setCell ⟨g, 771, none⟩ (.int .u64 (q : Int))) g F q := by
  obtain ⟨n, hn, h⟩ := h
  exact ⟨n, hn, (h.set 771 _).cast (stCells_seek F n p q)⟩

set_option maxRecDepth 100000 in
set_option maxHeartbeats 400000 in
theorem unm_nil (w : World) : Calls Tryz.prog 51 #[.pointer none] w fun e w' => e = .returned (.bool true) ∧ w = w' := by
  go_enter Tryz.func51, Tryz.ntmps51
  go_wp2
  go_ret
  exact ⟨rfl, rfl⟩

set_option maxRecDepth 100000 in
set_option maxHeartbeats 400000 in
theorem unm_at (g : Nat) (m : Bool) (w : World) (hm : w.cell? ⟨g, 772, none⟩ = some (.bool m)) : Calls Tryz.prog 51 #[.pointer (some ⟨g, 0, none⟩)] w fun e w' => e = .returned (.bool (!m)) ∧ w = w' := by
  go_enter Tryz.func51, Tryz.ntmps51
  go_wp2
  go_ret
  exact ⟨rfl, rfl⟩
end Go.Proofs.YtagacpjeooaapaaGreatDoor

/-
  The block of a number (eight bytes 0, and the number in eight bytes): what the call comes to. New memory alone is written. Conditions: the number is below 2^64.
-/
namespace Go.Proofs.YtagacpjeooaapaaGreatDoor
open Go.RowKit

/-- The last k bytes of a number's block, ahead of them 0. -/
def dn (k n : Nat) : Nat → Nat := fun i => if i < 16 - k then 0 else ctr n i
theorem dn_zero (n : Nat) : Ag 16 (dn 0 n) zf := fun i hi => by unfold dn; rw [if_pos (by omega)]; rfl
theorem dn_all (n : Nat) : Ag 16 (dn 8 n) (ctr n) := fun i hi => by
  unfold dn ctr
  by_cases h : i < 8
  · rw [if_pos (by omega), if_pos h]
  · rw [if_neg (by omega)]
theorem dn_step (k n : Nat) (hk : k < 8) : upd (dn k n) (15 - k) (n / 2 ^ (8 * k) % 256) = dn (k + 1) n := by
  funext i
  unfold upd dn ctr
  by_cases e : i = 15 - k
  · rw [if_pos e, if_neg (by omega), if_neg (by omega), show 15 - i = k by omega]
  · rw [if_neg e]
    by_cases h : i < 16 - k
    · rw [if_pos h, if_pos (by omega)]
    · rw [if_neg h, if_neg (show ¬ i < 16 - (k + 1) by omega)]

set_option maxRecDepth 100000 in
set_option maxHeartbeats 1000000 in
theorem plain_any (n : Nat) (w : World) (hn : n < 18446744073709551616) :
    Calls Tryz.prog 49 #[.int .u64 (n : Int)] w fun e w' => e = .returned (.agg (rowN 16 (ctr n)).toArray) ∧ Below w.heap.size w w' := by
  go_enter Tryz.func49, Tryz.ntmps49
  go_wp2_with (with_reducible refine wpList_alloc_blk rfl 90 rfl zero16 ?_)
  obtain ⟨W0, hW0⟩ : ∃ W0, (w.alloc (.cells (rowN 16 zf).toArray 90)).alloc (.cells (rowN 16 zf).toArray 90) = W0 := ⟨_, rfl⟩
  obtain ⟨g, hg⟩ : ∃ g, w.heap.size = g := ⟨_, rfl⟩
  have hr0 : Blk W0 g 90 (rowN 16 zf) := by rw [← hW0, ← hg]; exact (Blk.new w _ _).alloc _
  have hx0 : Blk W0 (g + 1) 90 (rowN 16 (dn 0 n)) := by rw [rowN_congr (dn_zero n), ← hW0, ← hg]; exact Blk.new1 w _ _ _
  have hB0 : Below g w W0 := by rw [← hW0, ← hg]; exact below2 w _ _
  rw [hW0, hg]
  clear hW0
  have hg := Lib.hid hg
  have hn := Lib.hid hn
  go_loopw [5] (fun i wr => ∃ k : Nat, k ≤ 8 ∧ i = .int .i64 k ∧ Blk wr (g + 1) 90 (rowN 16 (dn k n)) ∧ Blk wr g 90 (rowN 16 zf) ∧ Below g w wr) (fun i _ => 8 - (intOf i).toNat)
  case atStart => exact ⟨0, by omega, rfl, hx0, hr0, hB0⟩
  case round =>
    clear hx0 hr0 hB0
    obtain ⟨k, hk, rfl, hx, hr, hB⟩ := hrel
    by_cases hlt : k < 8
    · obtain ⟨m, hm⟩ : ∃ m, 15 - k = m := ⟨_, rfl⟩
      obtain ⟨j, hj⟩ : ∃ j, 8 * k = j := ⟨_, rfl⟩
      have m1 : (15 : Int) - (k : Int) = (m : Int) := by omega
      have m2 : (8 : Int) * (k : Int) = (j : Int) := by omega
      have hml : m < 16 := by omega
      have cx := hx.cell m
      rw [rowN_at 16 _ m hml] at cx
      have fx : wr.frozen? ⟨g + 1, m, none⟩ = false := Blk.frozen hx m
      have hset := hx.set m (.int .u8 (n / 2 ^ (8 * k) % 256 : Nat))
      rw [rowN_set 16 _ _ _ hml, ← hm, dn_step k n hlt, hm, hj] at hset
      have hki : (k : Int) < 8 := by omega
      have hset := Lib.hid hset
      have hlt := Lib.hid hlt
      have hmi : (m : Int) < 16 := by omega
      have hji : (j : Int) < 64 := by omega
      clear hm hj hml hk
      go_wp2
      go_roundw
      case rel => exact ⟨k + 1, by have := hlt.out; omega, by go_num, hset.out, hr.far (p := ⟨g + 1, m, none⟩) (by simp) _, hB.setCell (p := ⟨g + 1, m, none⟩) (Nat.le_succ g) _⟩
      case measure => have := hlt.out; simp [intOf]; omega
    · obtain rfl : k = 8 := by omega
      have hx : Blk wr _ 90 (rowN 16 (ctr n)) := hx.cast (rowN_congr (dn_all n))
      go_wp2_with (first
        | ((refine wpList_load16 rfl (.tmp 3) rfl ?_ hx ?_); rfl)
        | ((refine wpList_store16 (new := ctr n) rfl (.tmp 2) (.tmp 17) rfl ?_ ?_ hr ?_); rfl; rfl; intro w9 hR9 hg9))
      (try simp only [Exit.inBlock, Exit.then])
      refine bodyPost_ret (results_blk rfl rfl hR9 (row16 _)) rfl ?_
      refine ⟨rfl, ?_⟩
      rw [hg.out]
      exact hB.trans (below_of_grown hg9 (Nat.le_refl g) hr.lt)
end Go.Proofs.YtagacpjeooaapaaGreatDoor

/-
  The stream's block of a number, and its byte at a place: what the calls come to; the stream's own block and new memory are written. Conditions: numbers below 2^64, round keys' bytes below 256.
-/
namespace Go.Proofs.YtagacpjeooaapaaGreatDoor
open Go.RowKit

theorem st_ci {w : World} {g : Nat} {F : Nat → Nat} {n p : Nat} (h : Blk w g 102 (stCells F n p)) : CiR w g 102 F (.int .u64 (n : Int) :: (rowN 16 (enc (keyAt F) (ctr n)) ++ [.int .u64 (p : Int), .bool true])) := h
theorem st_blk {w : World} {g : Nat} {F : Nat → Nat} {n p : Nat} (h : Blk w g 102 (stCells F n p)) : w.rangeAt g 755 (rowN 16 (enc (keyAt F) (ctr n))) := by
  refine Blk.range h 755 _ fun j v hj => ?_
  by_cases h16 : j < 16
  · rw [rowN_at 16 _ j h16] at hj
    rw [stCells_blk _ _ _ _ h16]
    exact hj
  · rw [List.getElem?_eq_none (by rw [rowN_len]; omega)] at hj
    cases hj
theorem st_next (F : Nat → Nat) (n m p : Nat) : overV ((stCells F n p).set 754 (.int .u64 (m : Int))) 755 (rowN 16 (enc (keyAt F) (ctr m))) = stCells F m p := by
  have h1 : (stCells F n p).set 754 (.int .u64 (m : Int)) = (ciCells F sb bk true true ++ [.int .u64 (m : Int)]) ++ (rowN 16 (enc (keyAt F) (ctr n)) ++ [.int .u64 (p : Int), .bool true]) := by
    unfold stCells
    rw [List.set_append_right _ _ (by rw [ciCells_len]; exact Nat.le_refl _), ciCells_len]
    simp
  rw [h1]
  have hl : (ciCells F sb bk true true ++ [Value.int .u64 (m : Int)]).length = 755 := by rw [List.length_append, ciCells_len]; rfl
  unfold overV
  rw [rowN_len, List.take_append_of_le_length (by rw [hl]; exact Nat.le_refl _), List.take_of_length_le (by rw [hl]; exact Nat.le_refl _), List.drop_append, hl, List.drop_of_length_le (by rw [hl]; decide), List.nil_append,
    show 755 + 16 - 755 = 16 from rfl, List.drop_append, rowN_len, List.drop_of_length_le (by rw [rowN_len]; exact Nat.le_refl _), List.nil_append]
  simp [stCells]

set_option maxRecDepth 100000 in
set_option maxHeartbeats 1000000 in
theorem num_any (g : Nat) (F : Nat → Nat) (p m : Nat) (w : World) (hF : By F) (h : StAt w g F p) (hm : m < 18446744073709551616) :
    Calls Tryz.prog 76 #[.pointer (some ⟨g, 0, none⟩), .int .u64 (m : Int)] w fun e w' => e = .returned (.agg (rowN 16 (enc (keyAt F) (ctr m))).toArray) ∧ StAt w' g F p ∧ w.grownBy w' (some g) := by
  obtain ⟨n, hn, hS⟩ := h
  have hn := Lib.hid hn
  have hm := Lib.hid hm
  have hnum : ∀ o, (w.alloc o).cell? ⟨g, 754, none⟩ = some (.int .u64 (n : Int)) := fun o => by rw [(hS.alloc o).cell, stCells_num]
  go_enter Tryz.func76, Tryz.ntmps76
  have hgl := hS.lt
  have hr := Blk.new w 90 (rowN 16 zf)
  have hS1 := hS.alloc (.cells (rowN 16 zf).toArray 90)
  have hB1 := below1 w (.cells (rowN 16 zf).toArray 90)
  by_cases e : m = n
  · subst e
    have hrg := st_blk hS1
    go_wp2_with (first
      | (with_reducible refine wpList_alloc_blk rfl 90 rfl zero16 ?_)
      | ((refine wpList_load_part rfl 90 (.tmp 26) rfl ?_ _ hrg (row16 _) ?_); rfl)
      | ((refine wpList_store16 (new := enc (keyAt F) (ctr m)) rfl (.tmp 4) (.tmp 27) rfl ?_ ?_ hr ?_); rfl; rfl; intro w9 hR9 hg9))
    (try simp only [Exit.inBlock, Exit.then])
    refine bodyPost_ret (results_blk rfl rfl hR9 (row16 _)) rfl ?_
    have hB9 : Below w.heap.size w w9 := hB1.trans (below_of_grown hg9 (Nat.le_refl _) hr.lt)
    exact ⟨rfl, ⟨m, hn.out, hS.keep hB9 hgl⟩, grown_of_below hB9 _⟩
  · have hb : ((m : Int) != (n : Int)) = true := by simp; omega
    have hb' : ¬ (m : Int) = (n : Int) := by omega
    go_wp2_with (with_reducible refine wpList_alloc_blk rfl 90 rfl zero16 ?_)
    obtain ⟨W1, hW1⟩ : ∃ W1, w.alloc (.cells (rowN 16 zf).toArray 90) = W1 := ⟨_, rfl⟩
    obtain ⟨r, hrs⟩ : ∃ r, w.heap.size = r := ⟨_, rfl⟩
    change Blk (w.alloc (.cells (rowN 16 zf).toArray 90)) _ _ _ at hr
    rw [hW1, hrs] at hr
    rw [hW1] at hS1
    rw [hrs, hW1] at hB1
    rw [hrs] at hgl
    rw [hW1, hrs]
    clear hnum hW1 e
    obtain ⟨v, hv, hD⟩ := Draws.one W1
    have hr := hD.blk hr
    have hS1 := hD.blk hS1
    have hB1 := hB1.trans (hD.below r)
    have hrs := Lib.hid hrs
    have hgl := Lib.hid hgl
    have hF := Lib.hid hF
    refine region_seqS (fun _ => True) (by kernel_rfl) trivial ?_
    simp only [pairs, Nat.reduceAdd]
    change SeqS _ _ _ _ _ _ _ _ W1.drew
    rw [hv]
    clear hv hD
    repeat (first
      | (refine SeqS.take (v := ?_) (by first | assumption | trivial) (by kernel_rfl) (by decide +kernel) (by decide +kernel) (Or.inl ⟨by rfl, ?_⟩) ?_
         rotate_left
         focus
           intro w' hb'
           go_simp
           with_reducible rfl
         simp only [Act.put, List.setIfInBounds_toArray, List.set_cons_zero, List.set_cons_succ])
      | (refine SeqS.take (v := undef) (by first | assumption | trivial) (by kernel_rfl) (by decide +kernel) (by decide +kernel) (Or.inr ⟨by rfl, rfl⟩) ?_
         simp only [Act.put, List.setIfInBounds_toArray, List.set_cons_zero, List.set_cons_succ])
      | (refine SeqS.take1 (v := ?_) (by first | assumption | trivial) (by kernel_rfl) (by decide +kernel) (by decide +kernel) (Or.inl ⟨by rfl, ?_⟩) ?_
         rotate_left
         focus
           intro w' hb'
           go_simp
           with_reducible rfl
         simp only [Act.put, List.setIfInBounds_toArray, List.set_cons_zero, List.set_cons_succ])
      | (refine SeqS.take1 (v := undef) (by first | assumption | trivial) (by kernel_rfl) (by decide +kernel) (by decide +kernel) (Or.inr ⟨by rfl, rfl⟩) ?_
         simp only [Act.put, List.setIfInBounds_toArray, List.set_cons_zero, List.set_cons_succ])
      | (refine SeqS.take2 (v := ?_) (by first | assumption | trivial) (by kernel_rfl) (by decide +kernel) (by decide +kernel) (Or.inl ⟨by rfl, ?_⟩) ?_
         rotate_left
         focus
           intro w' hb'
           go_simp
           with_reducible rfl
         simp only [Act.put, List.setIfInBounds_toArray, List.set_cons_zero, List.set_cons_succ])
      | (refine SeqS.take2 (v := undef) (by first | assumption | trivial) (by kernel_rfl) (by decide +kernel) (by decide +kernel) (Or.inr ⟨by rfl, rfl⟩) ?_
         simp only [Act.put, List.setIfInBounds_toArray, List.set_cons_zero, List.set_cons_succ])
      | (refine SeqS.take3 (v := ?_) (by first | assumption | trivial) (by kernel_rfl) (by decide +kernel) (by decide +kernel) (Or.inl ⟨by rfl, ?_⟩) ?_
         rotate_left
         focus
           intro w' hb'
           go_simp
           with_reducible rfl
         simp only [Act.put, List.setIfInBounds_toArray, List.set_cons_zero, List.set_cons_succ])
      | (refine SeqS.take3 (v := undef) (by first | assumption | trivial) (by kernel_rfl) (by decide +kernel) (by decide +kernel) (Or.inr ⟨by rfl, rfl⟩) ?_
         simp only [Act.put, List.setIfInBounds_toArray, List.set_cons_zero, List.set_cons_succ]))
    refine SeqS.alone (by decide +kernel) (by rfl) (fun K hK => ?_)
    go_simp
    refine (plain_any m v hm.out).mono ?_
    rintro e v2 ⟨rfl, b2⟩
    have hS2 := hS1.keep b2 hS1.lt
    have hB2 := hB1.trans (b2.mono (Nat.le_of_lt hr.lt))
    have hr2 := hr.keep b2 hr.lt
    clear b2 hS1 hB1 hr
    go_simp
    refine hK _ _ trivial ?_
    clear hK K
    repeat (first
      | (refine SeqS.take (v := ?_) (by first | assumption | trivial) (by kernel_rfl) (by decide +kernel) (by decide +kernel) (Or.inl ⟨by rfl, ?_⟩) ?_
         rotate_left
         focus
           intro w' hb'
           go_simp
           with_reducible rfl
         simp only [Act.put, List.setIfInBounds_toArray, List.set_cons_zero, List.set_cons_succ])
      | (refine SeqS.take (v := undef) (by first | assumption | trivial) (by kernel_rfl) (by decide +kernel) (by decide +kernel) (Or.inr ⟨by rfl, rfl⟩) ?_
         simp only [Act.put, List.setIfInBounds_toArray, List.set_cons_zero, List.set_cons_succ])
      | (refine SeqS.take1 (v := ?_) (by first | assumption | trivial) (by kernel_rfl) (by decide +kernel) (by decide +kernel) (Or.inl ⟨by rfl, ?_⟩) ?_
         rotate_left
         focus
           intro w' hb'
           go_simp
           with_reducible rfl
         simp only [Act.put, List.setIfInBounds_toArray, List.set_cons_zero, List.set_cons_succ])
      | (refine SeqS.take1 (v := undef) (by first | assumption | trivial) (by kernel_rfl) (by decide +kernel) (by decide +kernel) (Or.inr ⟨by rfl, rfl⟩) ?_
         simp only [Act.put, List.setIfInBounds_toArray, List.set_cons_zero, List.set_cons_succ])
      | (refine SeqS.take2 (v := ?_) (by first | assumption | trivial) (by kernel_rfl) (by decide +kernel) (by decide +kernel) (Or.inl ⟨by rfl, ?_⟩) ?_
         rotate_left
         focus
           intro w' hb'
           go_simp
           with_reducible rfl
         simp only [Act.put, List.setIfInBounds_toArray, List.set_cons_zero, List.set_cons_succ])
      | (refine SeqS.take2 (v := undef) (by first | assumption | trivial) (by kernel_rfl) (by decide +kernel) (by decide +kernel) (Or.inr ⟨by rfl, rfl⟩) ?_
         simp only [Act.put, List.setIfInBounds_toArray, List.set_cons_zero, List.set_cons_succ])
      | (refine SeqS.take3 (v := ?_) (by first | assumption | trivial) (by kernel_rfl) (by decide +kernel) (by decide +kernel) (Or.inl ⟨by rfl, ?_⟩) ?_
         rotate_left
         focus
           intro w' hb'
           go_simp
           with_reducible rfl
         simp only [Act.put, List.setIfInBounds_toArray, List.set_cons_zero, List.set_cons_succ])
      | (refine SeqS.take3 (v := undef) (by first | assumption | trivial) (by kernel_rfl) (by decide +kernel) (by decide +kernel) (Or.inr ⟨by rfl, rfl⟩) ?_
         simp only [Act.put, List.setIfInBounds_toArray, List.set_cons_zero, List.set_cons_succ]))
    refine SeqS.alone (by decide +kernel) (by rfl) (fun K hK => ?_)
    go_simp
    refine (tEnc_any g 102 F _ (ctr m) v2 hF.out (ctr_by m) (st_ci hS2)).mono ?_
    rintro e v3 ⟨rfl, b3⟩
    have hS3 := hS2.keep b3 hS2.lt
    have hB3 := hB2.trans (b3.mono (Nat.le_of_lt hr2.lt))
    have hr3 := hr2.keep b3 hr2.lt
    clear b3 hS2 hB2 hr2
    go_simp
    refine hK _ _ trivial ?_
    clear hK K
    repeat (first
      | (refine SeqS.take (v := ?_) (by first | assumption | trivial) (by kernel_rfl) (by decide +kernel) (by decide +kernel) (Or.inl ⟨by rfl, ?_⟩) ?_
         rotate_left
         focus
           intro w' hb'
           go_simp
           with_reducible rfl
         simp only [Act.put, List.setIfInBounds_toArray, List.set_cons_zero, List.set_cons_succ])
      | (refine SeqS.take (v := undef) (by first | assumption | trivial) (by kernel_rfl) (by decide +kernel) (by decide +kernel) (Or.inr ⟨by rfl, rfl⟩) ?_
         simp only [Act.put, List.setIfInBounds_toArray, List.set_cons_zero, List.set_cons_succ])
      | (refine SeqS.take1 (v := ?_) (by first | assumption | trivial) (by kernel_rfl) (by decide +kernel) (by decide +kernel) (Or.inl ⟨by rfl, ?_⟩) ?_
         rotate_left
         focus
           intro w' hb'
           go_simp
           with_reducible rfl
         simp only [Act.put, List.setIfInBounds_toArray, List.set_cons_zero, List.set_cons_succ])
      | (refine SeqS.take1 (v := undef) (by first | assumption | trivial) (by kernel_rfl) (by decide +kernel) (by decide +kernel) (Or.inr ⟨by rfl, rfl⟩) ?_
         simp only [Act.put, List.setIfInBounds_toArray, List.set_cons_zero, List.set_cons_succ])
      | (refine SeqS.take2 (v := ?_) (by first | assumption | trivial) (by kernel_rfl) (by decide +kernel) (by decide +kernel) (Or.inl ⟨by rfl, ?_⟩) ?_
         rotate_left
         focus
           intro w' hb'
           go_simp
           with_reducible rfl
         simp only [Act.put, List.setIfInBounds_toArray, List.set_cons_zero, List.set_cons_succ])
      | (refine SeqS.take2 (v := undef) (by first | assumption | trivial) (by kernel_rfl) (by decide +kernel) (by decide +kernel) (Or.inr ⟨by rfl, rfl⟩) ?_
         simp only [Act.put, List.setIfInBounds_toArray, List.set_cons_zero, List.set_cons_succ])
      | (refine SeqS.take3 (v := ?_) (by first | assumption | trivial) (by kernel_rfl) (by decide +kernel) (by decide +kernel) (Or.inl ⟨by rfl, ?_⟩) ?_
         rotate_left
         focus
           intro w' hb'
           go_simp
           with_reducible rfl
         simp only [Act.put, List.setIfInBounds_toArray, List.set_cons_zero, List.set_cons_succ])
      | (refine SeqS.take3 (v := undef) (by first | assumption | trivial) (by kernel_rfl) (by decide +kernel) (by decide +kernel) (Or.inr ⟨by rfl, rfl⟩) ?_
         simp only [Act.put, List.setIfInBounds_toArray, List.set_cons_zero, List.set_cons_succ]))
    have c3 := hS3.cell 754
    rw [stCells_num] at c3
    have f3 : v3.frozen? ⟨g, 754, none⟩ = false := Blk.frozen hS3 754
    have hS4 := hS3.set 754 (.int .u64 (m : Int))
    have hr4 := hr3.far (p := ⟨g, 754, none⟩) (by have := hgl.out; simp; omega) (.int .u64 (m : Int))
    have hg4 : v3.grownBy (v3.setCell ⟨g, 754, none⟩ (.int .u64 (m : Int))) (some g) := grown_setCell _ _ _ _
    refine SeqS.alone (by decide +kernel) (by rfl) (fun K hK => ?_)
    go_simp
    obtain ⟨v4, hv4⟩ : ∃ v4, v3.setCell ⟨g, 754, none⟩ (.int .u64 (m : Int)) = v4 := ⟨_, rfl⟩
    rw [hv4] at hS4 hr4 hg4 ⊢
    clear hv4 c3 f3 hS3 hr3
    refine hK _ _ trivial ?_
    clear hK K
    repeat (first
      | (refine SeqS.take (v := ?_) (by first | assumption | trivial) (by kernel_rfl) (by decide +kernel) (by decide +kernel) (Or.inl ⟨by rfl, ?_⟩) ?_
         rotate_left
         focus
           intro w' hb'
           go_simp
           with_reducible rfl
         simp only [Act.put, List.setIfInBounds_toArray, List.set_cons_zero, List.set_cons_succ])
      | (refine SeqS.take (v := undef) (by first | assumption | trivial) (by kernel_rfl) (by decide +kernel) (by decide +kernel) (Or.inr ⟨by rfl, rfl⟩) ?_
         simp only [Act.put, List.setIfInBounds_toArray, List.set_cons_zero, List.set_cons_succ])
      | (refine SeqS.take1 (v := ?_) (by first | assumption | trivial) (by kernel_rfl) (by decide +kernel) (by decide +kernel) (Or.inl ⟨by rfl, ?_⟩) ?_
         rotate_left
         focus
           intro w' hb'
           go_simp
           with_reducible rfl
         simp only [Act.put, List.setIfInBounds_toArray, List.set_cons_zero, List.set_cons_succ])
      | (refine SeqS.take1 (v := undef) (by first | assumption | trivial) (by kernel_rfl) (by decide +kernel) (by decide +kernel) (Or.inr ⟨by rfl, rfl⟩) ?_
         simp only [Act.put, List.setIfInBounds_toArray, List.set_cons_zero, List.set_cons_succ])
      | (refine SeqS.take2 (v := ?_) (by first | assumption | trivial) (by kernel_rfl) (by decide +kernel) (by decide +kernel) (Or.inl ⟨by rfl, ?_⟩) ?_
         rotate_left
         focus
           intro w' hb'
           go_simp
           with_reducible rfl
         simp only [Act.put, List.setIfInBounds_toArray, List.set_cons_zero, List.set_cons_succ])
      | (refine SeqS.take2 (v := undef) (by first | assumption | trivial) (by kernel_rfl) (by decide +kernel) (by decide +kernel) (Or.inr ⟨by rfl, rfl⟩) ?_
         simp only [Act.put, List.setIfInBounds_toArray, List.set_cons_zero, List.set_cons_succ])
      | (refine SeqS.take3 (v := ?_) (by first | assumption | trivial) (by kernel_rfl) (by decide +kernel) (by decide +kernel) (Or.inl ⟨by rfl, ?_⟩) ?_
         rotate_left
         focus
           intro w' hb'
           go_simp
           with_reducible rfl
         simp only [Act.put, List.setIfInBounds_toArray, List.set_cons_zero, List.set_cons_succ])
      | (refine SeqS.take3 (v := undef) (by first | assumption | trivial) (by kernel_rfl) (by decide +kernel) (by decide +kernel) (Or.inr ⟨by rfl, rfl⟩) ?_
         simp only [Act.put, List.setIfInBounds_toArray, List.set_cons_zero, List.set_cons_succ]))
    refine SeqS.alone (by decide +kernel) (by rfl) (fun K hK => ?_)
    refine wp_store_part 90 (.tmp 23) (.tmp 19) rfl rfl rfl hS4 (row16 _) (by rw [rowN_len, List.length_set, stCells_len]; decide) (rowN_one 16 _) ?_
    intro v5 hS5 hg5
    rw [st_next] at hS5
    have hr5 := hr4.grown hg5 (by intro e; injection e; have := hgl.out; omega)
    have hgv := grown_trans (grown_trans (grown_of_below (hB3.mono (by have := hrs.out; omega)) (some g)) hg4) hg5
    refine hK _ _ trivial ?_
    clear hK K hS4 hr4 hg4 hg5 hB3
    refine SeqS.done (by decide +kernel) ?_
    have hrg := st_blk hS5
    go_wp2_with (first
      | ((refine wpList_load_part rfl 90 (.tmp 26) rfl ?_ _ hrg (row16 _) ?_); rfl)
      | ((refine wpList_store16 (new := enc (keyAt F) (ctr m)) rfl (.tmp 4) (.tmp 27) rfl ?_ ?_ hr5 ?_); rfl; rfl; intro w9 hR9 hg9))
    (try simp only [Exit.inBlock, Exit.then])
    refine bodyPost_ret (results_blk rfl rfl hR9 (row16 _)) rfl ?_
    refine ⟨rfl, ⟨m, hm.out, hS5.grown hg9 (by intro e; injection e; have := hgl.out; omega)⟩, ?_⟩
    exact ⟨hg9.os.trans hgv.os, hg9.tape.trans hgv.tape, hg9.output.trans hgv.output, Nat.le_trans hgv.size hg9.size, fun i hi hne => (hg9.block i (Nat.lt_of_lt_of_le hi hgv.size) (by intro e; injection e with e; have := hrs.out; omega)).trans (hgv.block i hi hne)⟩
end Go.Proofs.YtagacpjeooaapaaGreatDoor

/-
  What a cipher's Decrypt comes to: the block decrypted with the bytes of its round keys; new memory alone is written.
-/
namespace Go.Proofs.YtagacpjeooaapaaGreatDoor
open Go.RowKit
end Go.Proofs.YtagacpjeooaapaaGreatDoor

/-
  New makes a cipher of a key of 32 bytes: its round keys hold the bytes of the key's words, its box is one that was made; a key of another length makes none. New memory alone is written. Conditions: each byte of the key is a number from 0 to 255.
-/
namespace Go.Proofs.YtagacpjeooaapaaGreatDoor
open Go.RowKit

theorem size513 : (Tryz.prog.info? 94).map (·.size) = some 513 := by kernel_rfl
theorem rowBox' : IsRow Tryz.prog 94 513 := IsRow.struct Tryz.underlying94 size513

theorem over_row (n s m : Nat) (hs : s + m ≤ n) (F b c : Nat → Nat) (h : ∀ j, j < m → c j = F (s + j)) : overV (rowN n (upto s F b)) s (rowN m c) = rowN n (upto (s + m) F b) := by
  apply List.ext_getElem?
  intro j
  unfold overV
  by_cases hn : j < n
  · rw [rowN_at n _ j hn]
    have hlt : (List.take s (rowN n (upto s F b))).length = s := by rw [List.length_take, rowN_len]; omega
    by_cases h1 : j < s
    · rw [List.getElem?_append_left (by rw [hlt]; exact h1), List.getElem?_take_of_lt h1, rowN_at n _ j hn]
      simp only [upto, if_pos h1, if_pos (show j < s + m by omega)]
    · rw [List.getElem?_append_right (by rw [hlt]; omega), hlt]
      by_cases h2 : j - s < m
      · rw [List.getElem?_append_left (by rw [rowN_len]; exact h2), rowN_at m _ _ h2, h _ h2]
        simp only [upto, if_pos (show j < s + m by omega)]
        rw [show s + (j - s) = j by omega]
      · rw [List.getElem?_append_right (by rw [rowN_len]; omega), rowN_len, List.getElem?_drop, show s + m + (j - s - m) = j by omega, rowN_at n _ j hn]
        simp only [upto, if_neg h1, if_neg (show ¬ j < s + m by omega)]
  · rw [List.getElem?_eq_none (l := rowN n (upto (s + m) F b)) (by rw [rowN_len]; omega), List.getElem?_eq_none]
    simp only [List.length_append, List.length_take, List.length_drop, rowN_len]
    omega
theorem over_ci (k : Nat) (hk : k < 15) (F z f h : Nat → Nat) (bm m : Bool) (c : Nat → Nat) (hc : ∀ j, j < 16 → c j = F (16 * k + j)) :
    overV (ciCells (upto (16 * k) F z) f h bm m) (16 * k) (rowN 16 c) = ciCells (upto (16 * (k + 1)) F z) f h bm m := by
  have h1 := over_row 240 (16 * k) 16 (by omega) F z c hc
  unfold overV at h1 ⊢
  unfold ciCells
  rw [show 16 * (k + 1) = 16 * k + 16 by omega, ← h1, List.take_append_of_le_length (by rw [rowN_len]; omega), List.drop_append_of_le_length (by rw [rowN_len, rowN_len]; omega)]
  simp only [List.append_assoc]

set_option maxRecDepth 100000 in
set_option maxHeartbeats 400000 in
theorem cNew_no (a : Option Addr) (n cap : Nat) (w : World) (hn : n ≠ 32) :
    Calls Tryz.prog 47 #[.slice a n cap] w fun e w' => e = .returned (.tuple #[.pointer none, .int .i64 1]) ∧ w = w' := by
  have h : ((n : Int) != 32) = true := by simp; omega
  clear hn
  go_enter Tryz.func47, Tryz.ntmps47
  go_wp2
  go_ret2
  exact ⟨rfl, rfl⟩

set_option maxRecDepth 100000 in
set_option maxHeartbeats 1000000 in
theorem cNew_any (a : Option Addr) (cap : Nat) (bs : List Int) (w : World) (hI : Ints .u8 w a 32 cap bs) (hr : ∀ x ∈ bs, 0 ≤ x ∧ x < 256) :
    Calls Tryz.prog 47 #[.slice a 32 cap] w fun e w' => ∃ q, e = .returned (.tuple #[.pointer (some ⟨q, 0, none⟩), .int .i64 0]) ∧ w.heap.size ≤ q ∧ CiAt w' q (kb (kws (own bs) 52)) sb bk true true ∧ Below w.heap.size w w' := by
  go_enter Tryz.func47, Tryz.ntmps47
  go_wp2_with fail
  refine (bNew_any w).mono ?_
  rintro e w1 ⟨p, rfl, hp, hb, hB1⟩
  have hbx := Lib.hid (built_ci sb bk)
  have hI1 := hI.keep hB1
  have hb : Blk w1 p 94 (boxCells sb bk true) := hb
  clear hI
  go_wp2_with ((refine wpList_load_blk rfl 94 (.tmp 11) rfl ?_ hb rowBox' (boxCells_len _ _ _) ?_); rfl; refine RowKit.Hid.out ?_)
  refine Lib.hid ?_
  with_reducible refine wpList_buildTo rfl 96 _ rfl _ rfl (ciCells zf sb bk true true).toArray ?_ ?_
  · exact Eq.trans (congrArg (Program.built Tryz.prog 96) (by kernel_rfl)) hbx.out
  go_wp2_with ((with_reducible refine wpList_box_blk rfl 96 (.tmp 13) rfl (ciCells zf sb bk true true) ?_ ?_); rfl)
  obtain ⟨W2, hW2⟩ : ∃ W2, w1.alloc (.cells (ciCells zf sb bk true true).toArray 96) = W2 := ⟨_, rfl⟩
  obtain ⟨q, hq⟩ : ∃ q, w1.heap.size = q := ⟨_, rfl⟩
  have hC2 : CiAt W2 q zf sb bk true true := by rw [← hW2, ← hq]; exact Blk.new w1 _ _
  have hb2 : Below w1.heap.size w1 W2 := by rw [← hW2]; exact below1 w1 _
  have hI2 := hI1.keep hb2
  have hB2 := hB1.trans (hb2.mono hB1.size)
  have hqs : w.heap.size ≤ q := by rw [← hq]; exact hB1.size
  rw [hW2, hq]
  clear hW2 hb2 hq hb hbx hI1 hB1 hp
  refine (cExp_any q zf true true a cap bs W2 hC2 hI2 hr).mono ?_
  rintro e w3 ⟨rfl, h3⟩
  have hC3 : CiAt w3 q zf sb bk true true := Blk.keep hC2 h3 (Blk.lt hC2)
  have hB3 := hB2.trans (h3.mono hB2.size)
  have hwd := Lib.hid (kws_wd (own_wd bs hr) 52)
  obtain ⟨W, hW⟩ : ∃ W, kws (own bs) 52 = W := ⟨_, rfl⟩
  rw [hW] at hwd ⊢
  have hW := Lib.hid hW
  have hg5 := Blk.new w3 140 (rowU 60 zf)
  have HI := row60 W
  have HF := Lib.hid (fit60 zf W)
  have H1 := Lib.hid (rowU_one 60 W)
  clear hC2 hI2 hB2 h3 hr
  go_wp2_with (first
    | (with_reducible refine wpList_alloc_blk rfl 140 rfl zero60 ?_)
    | ((with_reducible refine wpList_store_part (cs := rowU 60 W) rfl 140 (.tmp 5) (.tmp 17) rfl ?_ ?_ hg5 HI HF.out H1.out ?_); rfl; rfl; intro w4 hX4 hg4; refine RowKit.Hid.out ?_))
  refine Lib.hid ?_
  rw [over60] at hX4
  have b4 : Below w3.heap.size w3 w4 := (below1 w3 _).trans (below_of_grown hg4 (Nat.le_refl _) (by rw [size1]; omega))
  have hql : q < w3.heap.size := Blk.lt hC3
  have hC4 : CiAt w4 q (upto (16 * 0) (kb W) zf) sb bk true true := by rw [upto_zero]; exact Blk.keep hC3 b4 hql
  have hB4 := hB3.trans (b4.mono hB3.size)
  obtain ⟨g, hg⟩ : ∃ g, w3.heap.size = g := ⟨_, rfl⟩
  rw [hg] at hX4 hql ⊢
  obtain ⟨z, hz⟩ : ∃ z, w.heap.size = z := ⟨_, rfl⟩
  rw [hz] at hB4 hqs
  have hz := Lib.hid hz
  have hql := Lib.hid hql
  have hqs := Lib.hid hqs
  clear hC3 hB3 hg5 HI HF H1 hg4 b4 hg
  go_wp2
  go_loopw [18] (fun i wr => ∃ k : Nat, k ≤ 15 ∧ i = .int .i64 k ∧ CiAt wr q (upto (16 * k) (kb W) zf) sb bk true true ∧ Blk wr g 140 (rowU 60 W) ∧ Below z w wr) (fun i _ => 15 - (intOf i).toNat)
  case atStart => exact ⟨0, by omega, rfl, hC4, hX4, hB4⟩
  case round =>
    clear hC4 hX4 hB4
    obtain ⟨k, hk, rfl, hC, hx, hB⟩ := hrel
    by_cases hlt : k < 15
    · obtain ⟨v, hv, hD⟩ := Draws.one wr
      have hx := hD.blk hx
      have hB := hB.trans (hD.below z)
      have hC : CiAt v q (upto (16 * k) (kb W) zf) sb bk true true := hD.blk hC
      have hki : (k : Int) < 15 := by omega
      obtain ⟨m, hm⟩ : ∃ m, 4 * k = m := ⟨_, rfl⟩
      have m1 : IntKind.i64.wrap (4 * (k : Int)) = (m : Int) := by rw [IntKind.wrap_i64]; omega
      have m2 : IntKind.i64.wrap ((k : Int) + 1) = (k : Int) + 1 := by rw [IntKind.wrap_i64]; omega
      obtain ⟨h, hh⟩ : ∃ h, m + 4 = h := ⟨_, rfl⟩
      have m3 : IntKind.i64.wrap (4 * ((k : Int) + 1)) = (h : Int) := by rw [IntKind.wrap_i64]; omega
      have m4 : (m : Int) ≤ (h : Int) := by omega
      have m5 : (h : Int) ≤ 60 := by omega
      have hne : ¬ 60 = m := by omega
      have hhm : h - m = 4 := by omega
      have hm4 : m + 4 ≤ 60 := by omega
      have hinv : ∀ i, i < 4 → (rowU 60 W)[m + i]? = some (.int .u32 ((wordsL 4 W (4 * k)).getD i 0)) := fun i hi => by
        rw [rowU_at 60 _ _ (by omega), wordsL_at 4 _ _ _ hi, hm]
      have hinv := Lib.hid hinv
      have hm4 := Lib.hid hm4
      have hlt' := Lib.hid hlt
      clear hm hh hk hlt
      go_wp2_with fail
      refine region_seqS (fun _ => True) (by kernel_rfl) trivial ?_
      simp only [pairs, Nat.reduceAdd]
      change SeqS _ _ _ _ _ _ _ _ wr.drew
      rw [hv]
      clear hv hD
      repeat (first
        | (refine SeqS.take (v := ?_) (by first | assumption | trivial) (by kernel_rfl) (by decide +kernel) (by decide +kernel) (Or.inl ⟨by rfl, ?_⟩) ?_
           rotate_left
           focus
             intro w' hb'
             go_simp
             with_reducible rfl
           simp only [Act.put, List.setIfInBounds_toArray, List.set_cons_zero, List.set_cons_succ]))
      refine SeqS.alone (by decide +kernel) (by rfl) (fun K hK => ?_)
      go_simp
      have hIn : Ints .u32 v (some ⟨g, m, none⟩) 4 (60 - m) (wordsL 4 W (4 * k)) := Ints.of_blk hx (wordsL_len 4 _ _) (by have := hm4.out; omega) hinv.out
      refine (bytes_any _ 4 _ (wordsL 4 W (4 * k)) v hIn (wordsL_range hwd.out 4 _) (by decide)).mono ?_
      rintro e v2 ⟨b, n, c, rfl, hOut, h1⟩
      obtain rfl : n = 16 := by rw [← hOut.len, bytesOf_length, wordsL_len]
      have hx := hx.keep h1 hx.lt
      have hC : CiAt v2 q (upto (16 * k) (kb W) zf) sb bk true true := Blk.keep hC h1 (Blk.lt hC)
      have hB := hB.trans (h1.mono (by have := hB.size; have := hz.out; omega))
      clear h1 hIn
      go_simp
      refine hK _ _ trivial ?_
      clear hK K
      refine SeqS.alone (by decide +kernel) (by rfl) (fun K hK => ?_)
      have CF : CopyFits v2 (some ⟨q, k * 16, none⟩) b 16 16 q (k * 16) (ciCells (upto (16 * k) (kb W) zf) sb bk true true).length (((bytesOf (wordsL 4 W (4 * k))).take 16).map (Value.int .u8)) :=
        hOut.copyFits rfl (fun _ => rfl) (by rw [ciCells_len]; have := hlt'.out; omega)
      refine wp_copy_blk (.tmp 26) (.tmp 33) 24 24 rfl 5 Tryz.underlying24 sizeU8' _ _ _ _ _ _ rfl rfl q (k * 16) _ _ hC _ CF.n CF.pos CF.fit CF.one ?_
      intro v3 hC3 hg3
      have hC3 : CiAt v3 q (upto (16 * (k + 1)) (kb W) zf) sb bk true true := by
        rw [List.take_of_length_le (by rw [bytesOf_length, wordsL_len]; exact Nat.le_refl 16), bytes_key W hwd.out k, Nat.mul_comm k 16] at hC3
        exact hC3.cast (over_ci k hlt'.out (kb W) zf sb bk true true _ (fun j _ => rfl))
      have hx3 := hx.grown hg3 (by intro e; injection e with e; have := hql.out; omega)
      have hB3 := hB.trans (below_of_grown hg3 hqs.out (Blk.lt hC))
      clear hx hB hC hg3 CF hOut
      refine hK _ _ trivial ?_
      clear hK K
      refine SeqS.done (by decide +kernel) ?_
      go_wp2
      go_roundw
      case rel => exact ⟨k + 1, by have := hlt'.out; omega, by go_num, hC3, hx3, hB3⟩
      case measure => have := hlt'.out; simp [intOf]; omega
    · obtain rfl : k = 15 := by omega
      have hC : CiAt wr q (kb W) sb bk true true := Blk.cast hC (by unfold ciCells; rw [rowN_congr (upto_all 240 (kb W) zf)])
      go_wp2
      go_ret2
      refine ⟨q, rfl, ?_, ?_, ?_⟩
      · rw [hz.out]; exact hqs.out
      · rw [hW.out]; exact hC
      · rw [hz.out]; exact hB
end Go.Proofs.YtagacpjeooaapaaGreatDoor

/-
  The document's example comes to true, in whatever world; nothing that lay is written.
-/
namespace Go.Proofs.YtagacpjeooaapaaGreatDoor
open Go.RowKit

theorem bytesL_inj {n : Nat} {f h : Nat → Nat} (e : bytesL n f = bytesL n h) : Ag n f h := rowN_inj (by rw [← bytesL_row, ← bytesL_row, e])
theorem noGuard16 : Tryz.prog.eqGuardType Tryz.prog.depth 90 = false := by kernel_rfl
theorem eq16 (f h : Nat → Nat) (w : World) : (Op.equalIn 10000 90 (.agg (rowN 16 f).toArray) (.agg (rowN 16 h).toArray)).run Tryz.prog w = .ok (bytesL 16 f == bytesL 16 h) w := by
  rw [← bytesL_row, ← bytesL_row]
  exact run_equalIn_ints w 9998 90 5 16 .u8 Tryz.underlying90 Tryz.underlying5 sizeU8' (bytesL 16 f) (bytesL 16 h) (bytesL_len 16 f) (bytesL_len 16 h)
theorem same16 (f : Nat → Nat) (w : World) : (Op.equalIn 10000 90 (.agg (rowN 16 f).toArray) (.agg (rowN 16 f).toArray)).run Tryz.prog w = .ok true w := by
  rw [eq16]; simp
theorem rep_zero (n : Nat) : List.replicate n (Value.int .u8 0) = rowN n zf := by
  show _ = (List.range n).map (fun _ => Value.int .u8 0)
  rw [List.map_const', List.length_range]
/-- A row of bytes in a block is a slice of them. -/
theorem Ints.row {w : World} {g n cap o : Nat} {t : TypeId} {f : Nat → Nat} (h : Blk w g t (rowN n f)) (m : Nat) (hm : o + m ≤ n) (hc : m ≤ cap) : Ints .u8 w (some ⟨g, o, none⟩) m cap (bytesL m (fun i => f (o + i))) :=
  Ints.of_blk h (bytesL_len m _) hc (fun i hi => by rw [rowN_at n _ _ (by omega), bytesL_at m _ i hi])
end Go.Proofs.YtagacpjeooaapaaGreatDoor

/-
  The document's own table of substitutes, and a word substituted by it. New memory alone is written.
-/
namespace Go.Proofs.YtagacpjeooaapaaGreatDoor
open Go.RowKit

theorem pw_back (k : Nat) (hk : k < 255) : pw 3 ((255 - k) % 255) = pw 246 k := by
  rw [inv_pw]
  refine inv_uniq _ _ (pw_256 k) (pw_256 _) ?_
  rw [← pw_add 3 k _ (by decide)]
  by_cases h0 : k = 0
  · subst h0; rfl
  · rw [show k + (255 - k) % 255 = 255 by rw [Nat.mod_eq_of_lt (by omega)]; omega]
    exact pw_255 3 (by decide) (by decide)
theorem ivs_next (k : Nat) : tf (ivs (k + 1)).reverse = upd (tf (ivs k).reverse) (pw 3 k) (st (pw 246 k)) := by
  unfold ivs
  rw [List.range_succ, List.map_append, List.reverse_append]
  rfl

theorem fTimes3 (a : Nat) (v : World) (ha : a < 256) : Calls Tryz.prog 95 #[.int .u8 (a : Int), .int .u8 3] v fun e w' => e = .returned (.int .u8 (tm a 3 : Nat)) ∧ v = w' :=
  rTimes_is (a : Int) 3 (tm a 3 : Nat) a 3 _ v rfl rfl ha (by decide) rfl rfl

set_option maxRecDepth 100000 in
set_option maxHeartbeats 1000000 in
theorem rTable_any (w : World) : Calls Tryz.prog 77 #[] w fun e w' => ∃ b c, e = .returned (.slice b 256 c) ∧ Ints .u8 w' b 256 c (bytesL 256 sb) ∧ Below w.heap.size w w' := by
  obtain ⟨i0, hi, hz0, hz1, hz2⟩ := info_parts infoU8
  obtain ⟨g, hg⟩ : ∃ g, w.heap.size = g := ⟨_, rfl⟩
  have hg := Lib.hid hg
  go_enter Tryz.func77, Tryz.ntmps77
  go_wp2
  go_loopw [1, 2, 3] (fun l p i wr => ∃ k : Nat, k ≤ 255 ∧ i = .int .i64 k ∧ p = .int .u8 (pw 3 k : Nat) ∧ wr.ownsRow g 5 1 l k (rowN k (pw 3)) ∧ Below g w wr) (fun _ _ i _ => 255 - (intOf i).toNat)
  case atStart => exact ⟨0, by omega, rfl, rfl, World.ownsRow_nil _ _ _ _, Below.refl _ _⟩
  case round =>
    obtain ⟨k, hk, rfl, rfl, hown, hB⟩ := hrel
    by_cases hlt : k < 255
    · have hki : (k : Int) < 255 := by omega
      have hBs : g ≤ wr.heap.size := Nat.le_trans (by have := hg.out; omega) hB.size
      have hnx := Lib.hid (show tm (pw 3 k) 3 = pw 3 (k + 1) from rfl)
      have ht := fun v => fTimes3 (pw 3 k) v (pw_256 k)
      have hle := Lib.hid hlt
      have hBs := Lib.hid hBs
      clear hlt hk
      go_wp2_with (at_builtin; refine wpList_append_ints rfl (.tmp 10) (.tmp 12) 24 rfl g 5 i0 (.int .u8 0) 1 Tryz.underlying24 hi hz0 hz1 hz2 rfl rfl (hown.alloc _) rfl (one_at _ _ _ _) ?_ ?_ (by have := hBs.out; simp; omega) ?_; (have := hle.out; unfold maxLen; omega); (have := hle.out; omega); intro v3 w3 hown3 hg3; refine RowKit.Hid.out ?_)
      refine Lib.hid ?_
      have hB3 : Below g w w3 := (hB.alloc hBs.out _).grown hg3 (by have := hBs.out; simp; omega) (fun j hj => (hown.lt j hj).1)
      have hown3 : w3.ownsRow g 5 1 v3 (k + 1) (rowN (k + 1) (pw 3)) := by rw [rowN_snoc]; exact hown3
      clear hown hB hg3
      go_wp2_with fail
      refine (ht _).mono ?_
      rintro e w' ⟨rfl, rfl⟩
      go_wp2
      go_roundw
      case rel => exact ⟨k + 1, by have := hle.out; omega, by go_num, by rw [hnx.out], hown3, hB3⟩
      case measure => have := hle.out; simp [intOf]; omega
    · obtain rfl : k = 255 := by omega
      obtain ⟨lb, lc, rfl, hL⟩ := Ints.of_owns (xs := bytesL 255 (pw 3)) (by rw [bytesL_row]; exact hown)
      obtain ⟨bk2, off, rfl, _⟩ := hL.at (by decide)
      have hBs : g ≤ wr.heap.size := Nat.le_trans (by have := hg.out; omega) hB.size
      clear hown
      go_wp2_with (at_make; refine wpList_make_two rfl _ _ 24 rfl wr.heap.size 5 i0 (.int .u8 0) Tryz.underlying24 hi hz0 hz1 rfl (n := 256) (C := 256) rfl rfl rfl rfl (Nat.le_refl _) ?_ ?_ (Nat.le_refl _) ?_; (rw [hz2]; decide); (unfold maxLen; decide); intro w1 hown1 hk1 hg1; refine RowKit.Hid.out ?_)
      refine Lib.hid ?_
      rw [rep_zero] at hk1
      have b1 : Below wr.heap.size wr w1 := (Below.refl _ wr).grown hg1 (Nat.le_refl _) (fun j hj => by cases hj)
      have hB1 := hB.trans (b1.mono hBs)
      have hL1 := hL.keep b1
      obtain ⟨T, hT⟩ : ∃ T, wr.heap.size = T := ⟨_, rfl⟩
      have hlT : bk2 < T := by rw [← hT]; exact World.block_lt_of_cell? wr _ (hL.cell_at 0 (by decide))
      rw [hT] at hk1 hBs ⊢
      have hlT := Lib.hid hlT
      have hgT := Lib.hid hBs
      clear hown1 hg1 b1 hL hB hT hBs
      go_wp2_with fail
      refine (shifted_of 0 0 (st 0) w1 rfl (by decide) rfl).mono ?_
      rintro e w' ⟨rfl, n1, rfl⟩
      have hk2 : Blk (w1.drewN n1) T 5 (rowN 256 zf) := hk1
      have hL2 : Ints .u8 (w1.drewN n1) (some ⟨bk2, off, none⟩) 255 lc (bytesL 255 (pw 3)) := hL1
      have hB2 : Below g w (w1.drewN n1) := below_drewN hB1 n1
      obtain ⟨w2, hw2⟩ : ∃ w2, w1.drewN n1 = w2 := ⟨_, rfl⟩
      rw [hw2] at hk2 hL2 hB2 ⊢
      clear hw2 hk1 hL1 hB1
      have c0 := hk2.cell 0
      rw [rowN_at 256 zf 0 (by decide)] at c0
      have f0 : w2.frozen? ⟨T, 0, none⟩ = false := Blk.frozen hk2 0
      have hk3 : Blk (w2.setCell ⟨T, 0, none⟩ (.int .u8 (st 0 : Nat))) T 5 (rowN 256 (tf (ivs 0).reverse)) := by
        have := hk2.set 0 (.int .u8 (st 0 : Nat))
        rw [rowN_set 256 zf 0 _ (by decide)] at this
        exact this
      have hL3 : Ints .u8 (w2.setCell ⟨T, 0, none⟩ (.int .u8 (st 0 : Nat))) (some ⟨bk2, off, none⟩) 255 lc (bytesL 255 (pw 3)) :=
        hL2.grown (grown_setCell w2 T 0 _) (fun x hx _ => by injection hx with hx; subst hx; have := hlT.out; show bk2 ≠ T; omega)
      have hB3 := hB2.setCell (p := ⟨T, 0, none⟩) hgT.out (.int .u8 (st 0 : Nat))
      have hk3 := Lib.hid hk3
      have hL3 := Lib.hid hL3
      have hB3 := Lib.hid hB3
      clear hk2 hL2 hB2
      go_wp2
      go_loopw [5] (fun i wr => ∃ k : Nat, k ≤ 255 ∧ i = .int .i64 k ∧ Blk wr T 5 (rowN 256 (tf (ivs k).reverse)) ∧ Ints .u8 wr (some ⟨bk2, off, none⟩) 255 lc (bytesL 255 (pw 3)) ∧ Below g w wr) (fun i _ => 255 - (intOf i).toNat)
      case atStart => exact ⟨0, by omega, rfl, hk3.out, hL3.out, hB3.out⟩
      case round =>
        clear hk3 hL3 hB3 c0 f0
        obtain ⟨k, hk, rfl, hx, hL, hB⟩ := hrel
        by_cases hlt : k < 255
        · obtain ⟨v, hv, hD⟩ := Draws.one wr
          have hx := hD.blk hx
          have hL : Ints .u8 v (some ⟨bk2, off, none⟩) 255 lc (bytesL 255 (pw 3)) := by rw [← hv]; exact hL
          have hB := hB.trans (hD.below g)
          obtain ⟨j, hj⟩ : ∃ j, (255 - k) % 255 = j := ⟨_, rfl⟩
          have hjl : j < 255 := by rw [← hj]; exact Nat.mod_lt _ (by decide)
          have hpb := pw_back k hlt
          rw [hj] at hpb
          have ck := hL.cell_at k hlt
          have cj := hL.cell_at j hjl
          rw [bytesL_at 255 _ k hlt] at ck
          rw [bytesL_at 255 _ j hjl, hpb] at cj
          obtain ⟨x, hxe⟩ : ∃ x, pw 3 k = x := ⟨_, rfl⟩
          obtain ⟨y, hye⟩ : ∃ y, pw 246 k = y := ⟨_, rfl⟩
          have hxl : x < 256 := by rw [← hxe]; exact pw_256 k
          have hyl : y < 256 := by rw [← hye]; exact pw_256 k
          have hnx := ivs_next k
          rw [hxe, hye] at hnx
          rw [hxe] at ck
          rw [hye] at cj
          have j1 : IntKind.i64.wrap (255 - (k : Int)) = 255 - (k : Int) := by rw [IntKind.wrap_i64]; omega
          have j2 : (255 - (k : Int)).tmod 255 = (j : Int) := by rw [Int.tmod_eq_emod_of_nonneg (by omega)]; omega
          have hki : (k : Int) < 255 := by omega
          have hji : (j : Int) < 255 := by omega
          have hxi : (x : Int) < 256 := by omega
          have hyw : IntKind.i64.wrap (y : Int) = (y : Int) := by rw [IntKind.wrap_i64]; omega
          have hyl := Lib.hid hyl
          have hxl := Lib.hid hxl
          have hnx := Lib.hid hnx
          have hle := Lib.hid hlt
          have hSS := And.intro ck cj
          clear hj hjl hpb hxe hye hlt hk
          go_wp2_with fail
          refine region_seqS (fun w' => w'.cell? ⟨bk2, off + k, none⟩ = some (.int .u8 (x : Int)) ∧ w'.cell? ⟨bk2, off + j, none⟩ = some (.int .u8 (y : Int))) (by kernel_rfl) (by rw [hv]; exact hSS) ?_
          simp only [pairs, Nat.reduceAdd]
          change SeqS _ _ _ _ _ _ _ _ wr.drew
          rw [hv]
          clear hv hD
          repeat (first
            | (refine SeqS.take (v := ?_) (by first | assumption | trivial) (by kernel_rfl) (by decide +kernel) (by decide +kernel) (Or.inl ⟨by rfl, ?_⟩) ?_
               rotate_left
               focus
                 intro w' hb'
                 obtain ⟨g1, g2⟩ := hb'
                 go_simp
                 with_reducible rfl
               simp only [Act.put, List.setIfInBounds_toArray, List.set_cons_zero, List.set_cons_succ])
            | (refine SeqS.take1 (v := ?_) (by first | assumption | trivial) (by kernel_rfl) (by decide +kernel) (by decide +kernel) (Or.inl ⟨by rfl, ?_⟩) ?_
               rotate_left
               focus
                 intro w' hb'
                 obtain ⟨g1, g2⟩ := hb'
                 go_simp
                 with_reducible rfl
               simp only [Act.put, List.setIfInBounds_toArray, List.set_cons_zero, List.set_cons_succ])
            | (refine SeqS.take2 (v := ?_) (by first | assumption | trivial) (by kernel_rfl) (by decide +kernel) (by decide +kernel) (Or.inl ⟨by rfl, ?_⟩) ?_
               rotate_left
               focus
                 intro w' hb'
                 obtain ⟨g1, g2⟩ := hb'
                 go_simp
                 with_reducible rfl
               simp only [Act.put, List.setIfInBounds_toArray, List.set_cons_zero, List.set_cons_succ]))
          refine SeqS.alone (by decide +kernel) (by rfl) (fun K hK => ?_)
          go_simp
          refine (shifted_of (y : Int) y (st y) v rfl hyl.out rfl).mono ?_
          rintro e w' ⟨rfl, n2, rfl⟩
          have hS2 : (v.drewN n2).cell? ⟨bk2, off + k, none⟩ = some (.int .u8 (x : Int)) ∧ (v.drewN n2).cell? ⟨bk2, off + j, none⟩ = some (.int .u8 (y : Int)) := hSS
          have hx : Blk (v.drewN n2) T 5 (rowN 256 (tf (ivs k).reverse)) := hx
          have hL : Ints .u8 (v.drewN n2) (some ⟨bk2, off, none⟩) 255 lc (bytesL 255 (pw 3)) := hL
          have hB : Below g w (v.drewN n2) := below_drewN hB n2
          go_simp
          refine hK _ _ hS2 ?_
          clear hK K
          obtain ⟨v2, hv2⟩ : ∃ v2, v.drewN n2 = v2 := ⟨_, rfl⟩
          rw [hv2] at hS2 hx hL hB ⊢
          clear hv2 hSS ck cj
          repeat (first
            | (refine SeqS.take (v := ?_) (by first | assumption | trivial) (by kernel_rfl) (by decide +kernel) (by decide +kernel) (Or.inl ⟨by rfl, ?_⟩) ?_
               rotate_left
               focus
                 intro w' hb'
                 obtain ⟨g1, g2⟩ := hb'
                 go_simp
                 with_reducible rfl
               simp only [Act.put, List.setIfInBounds_toArray, List.set_cons_zero, List.set_cons_succ])
            | (refine SeqS.take1 (v := ?_) (by first | assumption | trivial) (by kernel_rfl) (by decide +kernel) (by decide +kernel) (Or.inl ⟨by rfl, ?_⟩) ?_
               rotate_left
               focus
                 intro w' hb'
                 obtain ⟨g1, g2⟩ := hb'
                 go_simp
                 with_reducible rfl
               simp only [Act.put, List.setIfInBounds_toArray, List.set_cons_zero, List.set_cons_succ])
            | (refine SeqS.take2 (v := ?_) (by first | assumption | trivial) (by kernel_rfl) (by decide +kernel) (by decide +kernel) (Or.inl ⟨by rfl, ?_⟩) ?_
               rotate_left
               focus
                 intro w' hb'
                 obtain ⟨g1, g2⟩ := hb'
                 go_simp
                 with_reducible rfl
               simp only [Act.put, List.setIfInBounds_toArray, List.set_cons_zero, List.set_cons_succ]))
          have ct := hx.cell x
          rw [rowN_at 256 _ x hxl.out] at ct
          have ft : v2.frozen? ⟨T, x, none⟩ = false := Blk.frozen hx x
          have hset := hx.set x (.int .u8 (st y : Nat))
          rw [rowN_set 256 _ _ _ hxl.out, ← hnx.out] at hset
          have hset := Lib.hid hset
          have hgr := grown_setCell v2 T x (.int .u8 (st y : Nat))
          have hS3 : (v2.setCell ⟨T, x, none⟩ (.int .u8 (st y : Nat))).cell? ⟨bk2, off + k, none⟩ = some (.int .u8 (x : Int)) ∧ (v2.setCell ⟨T, x, none⟩ (.int .u8 (st y : Nat))).cell? ⟨bk2, off + j, none⟩ = some (.int .u8 (y : Int)) :=
            ⟨hgr.cell hS2.1 (by have := hlT.out; simp; omega), hgr.cell hS2.2 (by have := hlT.out; simp; omega)⟩
          have hL3 : Ints .u8 (v2.setCell ⟨T, x, none⟩ (.int .u8 (st y : Nat))) (some ⟨bk2, off, none⟩) 255 lc (bytesL 255 (pw 3)) :=
            hL.grown hgr (fun z hz _ => by injection hz with hz; subst hz; have := hlT.out; show bk2 ≠ T; omega)
          have hB3 := hB.setCell (p := ⟨T, x, none⟩) hgT.out (.int .u8 (st y : Nat))
          have hS3 := Lib.hid hS3
          have hL3 := Lib.hid hL3
          refine SeqS.alone (by decide +kernel) (by rfl) (fun K hK => ?_)
          go_simp
          refine hK _ _ hS3.out ?_
          clear hK K
          refine SeqS.done (by decide +kernel) ?_
          clear hx hL hgr hS2 hB
          go_wp2
          go_roundw
          case rel => exact ⟨k + 1, by have := hle.out; omega, by go_num, hset.out, hL3.out, hB3⟩
          case measure => have := hle.out; simp [intOf]; omega
        · obtain rfl : k = 255 := by omega
          have hx : Blk wr T 5 (rowN 256 sb) := hx.cast (rowN_congr (fun i hi => tf_ivs i hi))
          go_wp2
          go_ret
          refine ⟨some ⟨T, 0, none⟩, 256, rfl, ?_, ?_⟩
          · have := Ints.row (o := 0) (cap := 256) hx 256 (by decide) (by decide)
            rw [show (fun i => sb (0 + i)) = sb by funext i; rw [Nat.zero_add]] at this
            exact this
          · rw [hg.out]; exact hB

set_option maxRecDepth 100000 in
set_option maxHeartbeats 1000000 in
theorem rWord2_any (b off cap : Nat) (x : Nat) (w : World) (hT : Ints .u8 w (some ⟨b, off, none⟩) 256 cap (bytesL 256 sb)) (hx : x < 4294967296) :
    Calls Tryz.prog 78 #[.slice (some ⟨b, off, none⟩) 256 cap, .int .u32 (x : Int)] w fun e w' => e = .returned (.int .u32 (bwd sb x 4 : Nat)) ∧ w = w' := by
  have hxi : (x : Int) < 4294967296 := by omega
  have hxn := Lib.hid hx
  have hT := Lib.hid hT
  clear hx
  go_enter Tryz.func78, Tryz.ntmps78
  go_wp2
  go_loop [5, 6] (fun out i => ∃ k : Nat, k ≤ 4 ∧ i = .int .i64 (3 - (k : Int)) ∧ out = .int .u32 (wr sb x k : Int)) (fun _ i => (intOf i + 1).toNat)
  case atStart => exact ⟨0, by omega, rfl, rfl⟩
  case round =>
    obtain ⟨k, hk, rfl, rfl⟩ := hrel
    by_cases hlt : k < 4
    · have hl := Lib.hid (wr_lt sb sb_256 x k)
      have hs := Lib.hid (show wr sb x (k + 1) = 256 * wr sb x k + sb (x / 2 ^ (8 * (3 - k)) % 256) from rfl)
      obtain ⟨q, hq⟩ : ∃ q, wr sb x k = q := ⟨_, rfl⟩
      rw [hq] at hs hl ⊢
      clear hq
      obtain rfl | rfl | rfl | rfl : k = 0 ∨ k = 1 ∨ k = 2 ∨ k = 3 := by omega
      · obtain ⟨y, hy⟩ : ∃ y, x / 16777216 % 256 = y := ⟨_, rfl⟩
        have hyl : y < 256 := by rw [← hy]; exact Nat.mod_lt _ (by decide)
        have hyi : (x : Int) / 16777216 % 256 = (y : Int) := by rw [← hy]; have := hxn.out; omega
        have hye : IntKind.u32.wrap (y : Int) = (y : Int) := by rw [IntKind.wrap_u32]; omega
        have hyl2 : (y : Int) < 256 := by omega
        have hcy := (hT.out.cell_at y hyl)
        rw [bytesL_at 256 sb y hyl] at hcy
        obtain ⟨t, ht⟩ : ∃ t, sb y = t := ⟨_, rfl⟩
        rw [ht] at hcy
        have htl : (t : Int) < 256 := by have := sb_256 y; omega
        have hs2 := Lib.hid (show wr sb x (0 + 1) = 256 * q + t from by rw [hs.out, ← ht, ← hy])
        have hy := Lib.hid hy
        have ht := Lib.hid ht
        have hyl := Lib.hid hyl
        clear hy ht hyl
        go_wp2
        go_round
        case rel =>
          refine ⟨1, by omega, by go_num, ?_⟩
          rw [hs2.out]
          have := hl.out
          refine congrArg (Value.int .u32) ?_
          omega
        case measure => simp [intOf]
      · obtain ⟨y, hy⟩ : ∃ y, x / 65536 % 256 = y := ⟨_, rfl⟩
        have hyl : y < 256 := by rw [← hy]; exact Nat.mod_lt _ (by decide)
        have hyi : (x : Int) / 65536 % 256 = (y : Int) := by rw [← hy]; have := hxn.out; omega
        have hye : IntKind.u32.wrap (y : Int) = (y : Int) := by rw [IntKind.wrap_u32]; omega
        have hyl2 : (y : Int) < 256 := by omega
        have hcy := (hT.out.cell_at y hyl)
        rw [bytesL_at 256 sb y hyl] at hcy
        obtain ⟨t, ht⟩ : ∃ t, sb y = t := ⟨_, rfl⟩
        rw [ht] at hcy
        have htl : (t : Int) < 256 := by have := sb_256 y; omega
        have hs2 := Lib.hid (show wr sb x (1 + 1) = 256 * q + t from by rw [hs.out, ← ht, ← hy])
        have hy := Lib.hid hy
        have ht := Lib.hid ht
        have hyl := Lib.hid hyl
        clear hy ht hyl
        go_wp2
        go_round
        case rel =>
          refine ⟨2, by omega, by go_num, ?_⟩
          rw [hs2.out]
          have := hl.out
          refine congrArg (Value.int .u32) ?_
          omega
        case measure => simp [intOf]
      · obtain ⟨y, hy⟩ : ∃ y, x / 256 % 256 = y := ⟨_, rfl⟩
        have hyl : y < 256 := by rw [← hy]; exact Nat.mod_lt _ (by decide)
        have hyi : (x : Int) / 256 % 256 = (y : Int) := by rw [← hy]; have := hxn.out; omega
        have hye : IntKind.u32.wrap (y : Int) = (y : Int) := by rw [IntKind.wrap_u32]; omega
        have hyl2 : (y : Int) < 256 := by omega
        have hcy := (hT.out.cell_at y hyl)
        rw [bytesL_at 256 sb y hyl] at hcy
        obtain ⟨t, ht⟩ : ∃ t, sb y = t := ⟨_, rfl⟩
        rw [ht] at hcy
        have htl : (t : Int) < 256 := by have := sb_256 y; omega
        have hs2 := Lib.hid (show wr sb x (2 + 1) = 256 * q + t from by rw [hs.out, ← ht, ← hy])
        have hy := Lib.hid hy
        have ht := Lib.hid ht
        have hyl := Lib.hid hyl
        clear hy ht hyl
        go_wp2
        go_round
        case rel =>
          refine ⟨3, by omega, by go_num, ?_⟩
          rw [hs2.out]
          have := hl.out
          refine congrArg (Value.int .u32) ?_
          omega
        case measure => simp [intOf]
      · obtain ⟨y, hy⟩ : ∃ y, x % 256 = y := ⟨_, rfl⟩
        have hyl : y < 256 := by rw [← hy]; exact Nat.mod_lt _ (by decide)
        have hyi : (x : Int) % 256 = (y : Int) := by rw [← hy]; have := hxn.out; omega
        have hye : IntKind.u32.wrap (y : Int) = (y : Int) := by rw [IntKind.wrap_u32]; omega
        have hyl2 : (y : Int) < 256 := by omega
        have hcy := (hT.out.cell_at y hyl)
        rw [bytesL_at 256 sb y hyl] at hcy
        obtain ⟨t, ht⟩ : ∃ t, sb y = t := ⟨_, rfl⟩
        rw [ht] at hcy
        have htl : (t : Int) < 256 := by have := sb_256 y; omega
        have hs2 := Lib.hid (show wr sb x (3 + 1) = 256 * q + t from by rw [hs.out, ← ht, ← hy, Nat.div_one])
        have hy := Lib.hid hy
        have ht := Lib.hid ht
        have hyl := Lib.hid hyl
        clear hy ht hyl
        go_wp2
        go_round
        case rel =>
          refine ⟨4, by omega, by go_num, ?_⟩
          rw [hs2.out]
          have := hl.out
          refine congrArg (Value.int .u32) ?_
          omega
        case measure => simp [intOf]
    · obtain rfl : k = 4 := by omega
      have hw := Lib.hid (wr_wd sb x)
      go_wp2
      go_ret
      exact ⟨ret_u32 (by rw [hw.out]), rfl⟩
end Go.Proofs.YtagacpjeooaapaaGreatDoor

/-
  The document's own cipher of a key: the key's words and the table of substitutes. New memory alone is written. Conditions: the key has 32 bytes.
-/
namespace Go.Proofs.YtagacpjeooaapaaGreatDoor
open Go.RowKit

theorem rowU_words (n : Nat) (f : Nat → Nat) : (wordsL n f 0).map (Value.int .u32) = rowU n f := by simp [wordsL, rowU]
theorem rowU_snoc (n : Nat) (f : Nat → Nat) (v : Nat) : rowU (n + 1) (upd f n v) = rowU n f ++ [.int .u32 (v : Int)] := by
  unfold rowU
  rw [List.range_succ, List.map_append]
  congr 1
  · refine List.map_congr_left fun i hi => ?_
    have := List.mem_range.1 hi
    unfold upd
    rw [if_neg (by omega)]
  · simp [upd]
theorem own_words (bs : List Int) (h : ∀ x ∈ bs, 0 ≤ x ∧ x < 256) (hl : (wordsOf bs).length = 8) : (wordsOf bs).map (Value.int .u32) = rowU 8 (own bs) := by
  apply List.ext_getElem?
  intro j
  by_cases h8 : j < 8
  · rw [rowU_at 8 _ j h8, own_cast bs h, getElem?_mapInt _ _ _ (by omega)]
  · rw [List.getElem?_eq_none (by rw [List.length_map]; omega), List.getElem?_eq_none (by rw [rowU_len]; omega)]
theorem size34 : (Tryz.prog.info? 108).map (·.size) = some 2 := by kernel_rfl
theorem row34' : IsRow Tryz.prog 108 2 := IsRow.struct Tryz.underlying108 size34

theorem rPower2 (s : Nat) (hs : s < 7) (v : World) : Calls Tryz.prog 79 #[.int .u8 2, .int .i64 (s : Int)] v fun e w' => e = .returned (.int .u8 (pw 2 s : Nat)) ∧ v = w' := by
  rw [← pz_pw 2 s]; exact rPower_any 2 s v (by decide) (by omega) (by omega)
theorem ints_ne {k : IntKind} {w : World} {b off n cap : Nat} {xs : List Int} (h : Ints k w (some ⟨b, off, none⟩) n cap xs) (hn : 0 < n) {g : Nat} {t : TypeId} {a1 a2 : Option Addr} {l1 c1 l2 c2 : Nat} (hb : Blk w g t [.slice a1 l1 c1, .slice a2 l2 c2]) : b ≠ g := by
  intro e
  subst e
  have h1 := h.cell_at 0 hn
  rw [hb.cell, Nat.add_zero] at h1
  match off, h1 with
  | 0, h1 => cases h1
  | 1, h1 => cases h1
  | n + 2, h1 => cases h1
theorem ref_arith (m z : Nat) (h : m < 256) (hz : z < 4294967296) : (m : Int) * 16777216 % 4294967296 = (m : Int) * 16777216 ∧ (m : Int) < 256 ∧ bits .xor .u32 (z : Int) ((m : Int) * 16777216) = ((z ^^^ (m * 16777216) : Nat) : Int) ∧ z ^^^ (m * 16777216) < 4294967296 := by
  have e : (m : Int) * 16777216 = ((m * 16777216 : Nat) : Int) := by omega
  have hl : m * 16777216 < 4294967296 := by omega
  refine ⟨by omega, by omega, ?_, Nat.xor_lt_two_pow (n := 32) hz hl⟩
  rw [e]
  exact bits_xor32 z (m * 16777216) hz hl

set_option maxRecDepth 100000 in
set_option maxHeartbeats 1000000 in
theorem rNew_any (a : Option Addr) (cap : Nat) (bs : List Int) (w : World) (hI : Ints .u8 w a 32 cap bs) (hr : ∀ x ∈ bs, 0 ≤ x ∧ x < 256) :
    Calls Tryz.prog 56 #[.slice a 32 cap] w fun e w' => ∃ wa wc ta tc, e = .returned (.agg #[.slice wa 60 wc, .slice ta 256 tc]) ∧ Ints .u32 w' wa 60 wc (wordsL 60 (kws (own bs) 52) 0) ∧ Ints .u8 w' ta 256 tc (bytesL 256 sb) ∧ Below w.heap.size w w' := by
  obtain ⟨i0, hi, hz0, hz1, hz2⟩ := info_parts infoU32
  obtain ⟨g, hg⟩ : ∃ g, w.heap.size = g := ⟨_, rfl⟩
  go_enter Tryz.func56, Tryz.ntmps56
  go_wp2_with fail
  have hr1 := Blk.new w 108 [Value.slice none 0 0, Value.slice none 0 0]
  have b1 := below1 w (.cells [Value.slice none 0 0, Value.slice none 0 0].toArray 108)
  obtain ⟨w1, hw1⟩ : ∃ w1, w.alloc (.cells [Value.slice none 0 0, Value.slice none 0 0].toArray 108) = w1 := ⟨_, rfl⟩
  change Calls _ _ _ (w.alloc (.cells [Value.slice none 0 0, Value.slice none 0 0].toArray 108)) _
  have hI1 := hI.keep b1
  rw [hw1] at hr1 b1 hI1 ⊢
  rw [hg] at hr1 b1
  clear hw1 hI
  have hgl := hr1.lt
  refine (rTable_any w1).mono ?_
  rintro e w2 ⟨ta, tc, rfl, hT, b2⟩
  have hr2 := hr1.keep b2 hr1.lt
  have hB2 := b1.trans (b2.mono (Nat.le_of_lt hgl))
  have hI2 := hI1.keep b2
  have hgl2 := hr2.lt
  clear b1 b2 hr1 hI1 hgl
  go_wp2_with fail
  refine (refWords_own a 32 cap bs w2 hI2 hr (by decide) (by decide)).mono ?_
  rintro e w3 ⟨wa, n, wc, rfl, hW, hownW, b3⟩
  have hlen : (wordsOf bs).length = 8 := by rw [wordsOf_length, hI2.len]
  obtain rfl : n = 8 := by rw [← hW.len, hlen]
  rw [own_words bs hr hlen] at hownW
  have hown := Lib.hid (own_wd bs hr)
  obtain ⟨B, hB⟩ : ∃ B, w2.heap.size = B := ⟨_, rfl⟩
  obtain ⟨tb, toff, rfl, _⟩ := hT.at (by decide)
  have TT := Lib.hid (fun w' (h : Below B w2 w') => (hT.keep (by rw [hB]; exact h) : Ints .u8 w' (some ⟨tb, toff, none⟩) 256 tc (bytesL 256 sb)))
  have RR := Lib.hid (fun w' (h : Below B w2 w') => (hr2.keep h (by omega) : Blk w' g 108 [Value.slice none 0 0, Value.slice none 0 0]))
  rw [hB] at hownW b3
  have hB := Lib.hid hB
  have hgl2 := Lib.hid hgl2
  have hB2 := Lib.hid hB2
  clear hT hr2 hI2 hW hlen hr
  go_wp2
  go_loopw [4, 6] (fun o i wr => ∃ t : Nat, 8 ≤ t ∧ t ≤ 60 ∧ i = .int .i64 t ∧ wr.ownsRow B 111 1 o t (rowU t (kws (own bs) (t - 8))) ∧ Below B w2 wr) (fun _ i _ => 60 - (intOf i).toNat)
  case atStart => exact ⟨8, by omega, by omega, rfl, hownW, b3⟩
  case round =>
    clear hownW b3
    have hownd := hown
    clear hown
    obtain ⟨t, h8, hk, rfl, hown, hB'⟩ := hrel
    have hBx := hB
    clear hB
    have hB := hB'
    clear hB'
    by_cases hlt : t < 60
    · obtain ⟨n, hn⟩ : ∃ n, t = n + 8 := ⟨t - 8, by omega⟩
      obtain ⟨p, hp⟩ : ∃ p, t = p + 1 := ⟨t - 1, by omega⟩
      have hpn : p = 7 + n := by omega
      have hnx : kws (own bs) (t + 1 - 8) = upd (kws (own bs) n) t (kws (own bs) n n ^^^ chg t (kws (own bs) n p)) := by
        rw [show t + 1 - 8 = n + 1 by omega, hpn, show t = 8 + n by omega]; rfl
      rw [show t - 8 = n by omega] at hown
      have hwd := kws_wd hownd.out n
      obtain ⟨lb, lc, rfl, hL⟩ := Ints.of_owns (xs := wordsL t (kws (own bs) n) 0) (by rw [rowU_words]; exact hown)
      obtain ⟨lbk, loff, rfl, _⟩ := hL.at (by omega)
      have cn := hL.cell_at n (by omega)
      have cp := hL.cell_at p (by omega)
      rw [wordsL_at t _ 0 n (by omega), Nat.zero_add] at cn
      rw [wordsL_at t _ 0 p (by omega), Nat.zero_add] at cp
      obtain ⟨x, hxe⟩ : ∃ x, kws (own bs) n n = x := ⟨_, rfl⟩
      obtain ⟨y, hye⟩ : ∃ y, kws (own bs) n p = y := ⟨_, rfl⟩
      have hxl : x < 4294967296 := by rw [← hxe]; exact hwd n
      have hyl : y < 4294967296 := by rw [← hye]; exact hwd p
      rw [hxe, hye] at hnx
      rw [hxe] at cn
      rw [hye] at cp
      have hnx := Lib.hid hnx
      have hBs := Lib.hid (show B ≤ wr.heap.size from Nat.le_trans (by have := hBx.out; omega) hB.size)
      have hc := hB
      have hTr := Lib.hid (TT.out wr hB)
      have n1 : wrap64 ((t : Int) - 8) = (n : Int) := (w64' _ (by omega) (by omega)).trans (by omega)
      have p1 : wrap64 ((t : Int) - 1) = (p : Int) := (w64' _ (by omega) (by omega)).trans (by omega)
      have n2 : (t : Int) - 8 = (n : Int) := by omega
      have p2 : (t : Int) - 1 = (p : Int) := by omega
      have nt : (n : Int) < (t : Int) := by omega
      have pt : (p : Int) < (t : Int) := by omega
      have t6 : (t : Int) < 60 := by omega
      have hlt' := Lib.hid hlt
      have h8' := Lib.hid h8
      by_cases h0 : t % 8 = 0
      · have e0 : (t : Int) % 8 = 0 := by omega
        obtain ⟨s, hs⟩ : ∃ s, t / 8 = s + 1 := ⟨t / 8 - 1, by omega⟩
        have hch := Lib.hid (show chg t y = bwd sb (rl8 y) 4 ^^^ (pw 2 s * 16777216) by unfold chg; rw [if_pos h0, hs, Nat.add_sub_cancel])
        have hsl : s < 7 := by omega
        have e1 : (t : Int) / 8 = (s : Int) + 1 := by omega
        have et : (t : Int) / 8 - 1 = (s : Int) := by rw [e1]; omega
        clear e1
        have hor : bits .or .u32 ((y : Int) * 256 % 4294967296) ((y : Int) / 16777216) = ((rl8 y : Nat) : Int) := by
          have e1 : (y : Int) * 256 % 4294967296 = ((y * 256 % 4294967296 : Nat) : Int) := by omega
          have e2 : (y : Int) / 16777216 = ((y / 16777216 : Nat) : Int) := by omega
          rw [e1, e2]
          exact bits_or32 _ _ (Nat.mod_lt _ (by decide)) (Nat.lt_of_le_of_lt (Nat.div_le_self _ _) hyl)
        have cw := fun v (h : Ints .u8 v (some ⟨tb, toff, none⟩) 256 tc (bytesL 256 sb)) => rWord2_any tb toff tc (rl8 y) v h (rl8_lt y hyl)
        have cp2 := rPower2 s hsl
        rw [← et] at cp2
        clear et
        have hz := wd4_lt (rl8 y)
        have hpl := pw_256 (a := 2) s
        obtain ⟨z, hze⟩ : ∃ z, bwd sb (rl8 y) 4 = z := ⟨_, rfl⟩
        obtain ⟨m, hme⟩ : ∃ m, pw 2 s = m := ⟨_, rfl⟩
        rw [hze, hme] at hch
        rw [hze] at cw hz
        rw [hme] at cp2 hpl
        obtain ⟨m1, m2, hx1, hcl⟩ := ref_arith m z hpl hz
        obtain ⟨u, hue⟩ : ∃ u, z ^^^ (m * 16777216) = u := ⟨_, rfl⟩
        rw [hue] at hx1 hcl hch
        have hxor := bits_xor32 x u hxl hcl
        have e8 : ¬ (0 : Int) = 4 := by decide
        clear h0 hlt h8 hk hn hp hpn hxe hye hxl hyl hwd hze hz hL hs hpl hme hcl hue hsl
        go_wp2_with fail
        refine (cw _ hTr.out).mono ?_
        rintro e w' ⟨rfl, rfl⟩
        go_wp2_with fail
        refine (cp2 _).mono ?_
        rintro e w' ⟨rfl, rfl⟩
        go_wp2_with (at_builtin; refine wpList_append_ints rfl (.tmp 46) (.tmp 54) 67 rfl B 111 i0 (.int .u32 0) 4 Tryz.underlying67 hi hz0 hz1 hz2 rfl rfl (hown.alloc _) rfl (one_at _ _ _ _) ?_ ?_ (by have := hBs.out; simp; omega) ?_; (have := hlt'.out; unfold maxLen; omega); (have := hlt'.out; omega); intro v3 w3 hown3 hg3; refine RowKit.Hid.out ?_)
        refine Lib.hid ?_
        have hB3 : Below B w2 w3 := (hB.alloc hBs.out _).grown hg3 (by have := hBs.out; simp; omega) (fun j hj => (hown.lt j hj).1)
        have hown3 : w3.ownsRow B 111 1 v3 (t + 1) (rowU (t + 1) (kws (own bs) (t + 1 - 8))) := by
          rw [hnx.out, rowU_snoc, hch.out]; exact hown3
        clear hown hB hg3
        go_wp2
        go_roundw
        case rel => exact ⟨t + 1, by have := h8'.out; omega, by have := hlt'.out; omega, by go_num, hown3, hB3⟩
        case measure => have := hlt'.out; simp [intOf]; omega
      · by_cases h4 : t % 8 = 4
        · have e4 : (t : Int) % 8 = 4 := by omega
          have hch := Lib.hid (show chg t y = bwd sb y 4 by unfold chg; rw [if_neg h0, if_pos h4])
          have cw := fun v (h : Ints .u8 v (some ⟨tb, toff, none⟩) 256 tc (bytesL 256 sb)) => rWord2_any tb toff tc y v h hyl
          have hz := wd4_lt y
          obtain ⟨z, hze⟩ : ∃ z, bwd sb y 4 = z := ⟨_, rfl⟩
          rw [hze] at hch cw hz
          have hxor := bits_xor32 x z hxl hz
          clear h0 h4 hlt h8 hk hn hp hpn hxe hye hxl hyl hwd hze hz hL
          go_wp2_with fail
          refine (cw _ hTr.out).mono ?_
          rintro e w' ⟨rfl, rfl⟩
          go_wp2_with (at_builtin; refine wpList_append_ints rfl (.tmp 46) (.tmp 54) 67 rfl B 111 i0 (.int .u32 0) 4 Tryz.underlying67 hi hz0 hz1 hz2 rfl rfl (hown.alloc _) rfl (one_at _ _ _ _) ?_ ?_ (by have := hBs.out; simp; omega) ?_; (have := hlt'.out; unfold maxLen; omega); (have := hlt'.out; omega); intro v3 w3 hown3 hg3; refine RowKit.Hid.out ?_)
          refine Lib.hid ?_
          have hB3 : Below B w2 w3 := (hB.alloc hBs.out _).grown hg3 (by have := hBs.out; simp; omega) (fun j hj => (hown.lt j hj).1)
          have hown3 : w3.ownsRow B 111 1 v3 (t + 1) (rowU (t + 1) (kws (own bs) (t + 1 - 8))) := by
            rw [hnx.out, rowU_snoc, hch.out]; exact hown3
          clear hown hB hg3
          go_wp2
          go_roundw
          case rel => exact ⟨t + 1, by have := h8'.out; omega, by have := hlt'.out; omega, by go_num, hown3, hB3⟩
          case measure => have := hlt'.out; simp [intOf]; omega
        · obtain ⟨r, hr⟩ : ∃ r, t % 8 = r := ⟨_, rfl⟩
          have hch := Lib.hid (show chg t y = y by unfold chg; rw [if_neg h0, if_neg h4])
          have e : (t : Int) % 8 = (r : Int) := by omega
          have b0 : ((r : Int) == 0) = false := by simp; omega
          have b4 : ((r : Int) == 4) = false := by simp; omega
          have hxor := bits_xor32 x y hxl hyl
          clear h0 h4 hlt h8 hk hn hp hpn hxe hye hxl hyl hwd hL hr
          go_wp2_with (at_builtin; refine wpList_append_ints rfl (.tmp 46) (.tmp 54) 67 rfl B 111 i0 (.int .u32 0) 4 Tryz.underlying67 hi hz0 hz1 hz2 rfl rfl (hown.alloc _) rfl (one_at _ _ _ _) ?_ ?_ (by have := hBs.out; simp; omega) ?_; (have := hlt'.out; unfold maxLen; omega); (have := hlt'.out; omega); intro v3 w3 hown3 hg3; refine RowKit.Hid.out ?_)
          refine Lib.hid ?_
          have hB3 : Below B w2 w3 := (hB.alloc hBs.out _).grown hg3 (by have := hBs.out; simp; omega) (fun j hj => (hown.lt j hj).1)
          have hown3 : w3.ownsRow B 111 1 v3 (t + 1) (rowU (t + 1) (kws (own bs) (t + 1 - 8))) := by
            rw [hnx.out, rowU_snoc, hch.out]; exact hown3
          clear hown hB hg3
          go_wp2
          go_roundw
          case rel => exact ⟨t + 1, by have := h8'.out; omega, by have := hlt'.out; omega, by go_num, hown3, hB3⟩
          case measure => have := hlt'.out; simp [intOf]; omega
    · obtain rfl : t = 60 := by omega
      obtain ⟨lb, lc, rfl, hL⟩ := Ints.of_owns (xs := wordsL 60 (kws (own bs) 52) 0) (by rw [rowU_words]; exact hown)
      have hR := RR.out wr hB
      have hTr := TT.out wr hB
      obtain ⟨lbk, loff, rfl, _⟩ := hL.at (by decide)
      have nT : tb ≠ g := ints_ne hTr (by decide) hR
      have nL : lbk ≠ g := ints_ne hL (by decide) hR
      have HI : IsRow Tryz.prog 108 [Value.slice (some ⟨lbk, loff, none⟩) 60 lc, Value.slice (some ⟨tb, toff, none⟩) 256 tc].length := row34'
      go_wp2_with ((refine wpList_store_part (cs := [Value.slice (some ⟨lbk, loff, none⟩) 60 lc, Value.slice (some ⟨tb, toff, none⟩) 256 tc]) rfl 108 (.tmp 2) (.tmp 58) rfl ?_ ?_ hR HI (Nat.le_refl 2) (by intro v hv; simp at hv; rcases hv with rfl | rfl <;> rfl) ?_); rfl; rfl; intro w9 hR9 hg9)
      (try simp only [Exit.inBlock, Exit.then])
      have hR9 := hR9.cast (overV_all _ _ rfl)
      refine bodyPost_ret (results_blk rfl rfl hR9 HI) rfl ?_
      refine ⟨some ⟨lbk, loff, none⟩, lc, some ⟨tb, toff, none⟩, tc, rfl, hL.grown hg9 (fun x hx _ => by injection hx with hx; subst hx; exact nL), hTr.grown hg9 (fun x hx _ => by injection hx with hx; subst hx; exact nT), ?_⟩
      have hB9 : Below g w wr := hB2.out.trans (hB.mono (by have := hBx.out; have := hgl2.out; omega))
      rw [hg]
      exact hB9.trans (below_of_grown hg9 (Nat.le_refl g) hR.lt)
end Go.Proofs.YtagacpjeooaapaaGreatDoor

/-
  The document's own sum of a block with a round key. New memory alone is written.
-/
namespace Go.Proofs.YtagacpjeooaapaaGreatDoor
open Go.RowKit

theorem bytes_key' (W : Nat → Nat) (h : Wd W) (r : Nat) : bytesOf (wordsL 4 W (4 * r)) = bytesL 16 (keyAt (kb W) r) := by
  have h1 := congrArg (List.map (fun v => match v with | Value.int _ z => z | _ => 0)) (bytes_key W h r)
  rw [List.map_map] at h1
  have h2 : (bytesOf (wordsL 4 W (4 * r))).map ((fun v => match v with | Value.int _ z => z | _ => 0) ∘ Value.int .u8) = bytesOf (wordsL 4 W (4 * r)) := List.map_id _
  rw [h2] at h1
  rw [h1]
  simp [rowN, bytesL, keyAt]
theorem words_cut (n : Nat) (W : Nat → Nat) (s m : Nat) (h : s + m ≤ n) : ((wordsL n W 0).drop s).take m = wordsL m W s := by
  apply List.ext_getElem?
  intro i
  by_cases hi : i < m
  · rw [List.getElem?_take_of_lt hi, List.getElem?_drop]
    simp [wordsL, hi, show s + i < n by omega]
  · rw [List.getElem?_eq_none (by rw [List.length_take, List.length_drop, wordsL_len]; omega), List.getElem?_eq_none (by rw [wordsL_len]; omega)]

set_option maxRecDepth 100000 in
set_option maxHeartbeats 1000000 in
theorem rXor_any (wa : Option Addr) (wc : Nat) (ta : Option Addr) (tc : Nat) (W : Nat → Nat) (r : Nat) (ba : Option Addr) (bc : Nat) (b : Nat → Nat) (w : World)
    (hW : Ints .u32 w wa 60 wc (wordsL 60 W 0)) (hwd : Wd W) (hr : r < 15) (hb : Ints .u8 w ba 16 bc (bytesL 16 b)) (hby : By b) :
    Calls Tryz.prog 80 #[.agg #[.slice wa 60 wc, .slice ta 256 tc], .int .i64 (r : Int), .slice ba 16 bc] w fun e w' => ∃ oa oc, e = .returned (.slice oa 16 oc) ∧ Ints .u8 w' oa 16 oc (bytesL 16 (bAdd b (keyAt (kb W) r))) ∧ (∀ x, oa = some x → w.heap.size ≤ x.block) ∧ Below w.heap.size w w' := by
  obtain ⟨i0, hi, hz0, hz1, hz2⟩ := info_parts infoU8
  obtain ⟨g, hg⟩ : ∃ g, w.heap.size = g := ⟨_, rfl⟩
  obtain ⟨m, hm⟩ : ∃ m, 4 * r = m := ⟨_, rfl⟩
  have m1 : (4 : Int) * (r : Int) = (m : Int) := by omega
  have m2 : wrap64 (m : Int) = (m : Int) := w64' _ (by omega) (by omega)
  have m3 : wrap64 ((m : Int) + 4) = (m : Int) + 4 := w64' _ (by omega) (by omega)
  have hcut := hW.cut2 m (m + 4) (by omega) (by omega)
  rw [Nat.add_sub_cancel_left, words_cut 60 W m 4 (by omega)] at hcut
  have hml := Lib.hid (show m + 4 ≤ wc by have := hW.2.1; omega)
  have hmr := Lib.hid hm
  have hr15 : (r : Int) < 15 := by omega
  clear hr hm hW
  go_enter Tryz.func80, Tryz.ntmps80
  go_wp2_with (first | (refine wpList_cut2 rfl 67 111 (.tmp 11) (.tmp 13) (.tmp 16) rfl Tryz.underlying67 sizeU32' rfl (l := m) (h := m + 4) rfl rfl ?_ ?_ (Nat.le_add_right m 4) hml.out ?_; (first | rfl | omega); (first | rfl | omega); rw [Nat.add_sub_cancel_left]))
  have b1 := below1 w (.cells #[.slice wa 60 wc, .slice ta 256 tc] 108)
  refine (refBytes_any _ 4 _ (wordsL 4 W m) _ (hcut.keep b1) (wordsL_range hwd 4 m) (by decide)).mono ?_
  rintro e w2 ⟨kA, n, kc, rfl, hK2, b2⟩
  obtain rfl : n = 16 := by rw [← hK2.len, bytesOf_length, wordsL_len]
  rw [← hmr.out, bytes_key' W hwd r] at hK2
  have hB2 := b1.trans (b2.mono b1.size)
  have hb2 := hb.keep hB2
  obtain ⟨kb', koff, rfl, _⟩ := hK2.at (by decide)
  obtain ⟨bb, boff, rfl, _⟩ := hb2.at (by decide)
  obtain ⟨B, hB⟩ : ∃ B, w2.heap.size = B := ⟨_, rfl⟩
  have KC := Lib.hid (fun w' (h : Below B w2 w') (i : Nat) (hi : i < 16) => show w'.cell? ⟨kb', koff + i, none⟩ = some (.int .u8 (keyAt (kb W) r i : Nat)) by
    have h1 := (hK2.keep (by rw [hB]; exact h)).cell_at i hi
    rw [bytesL_at 16 _ i hi] at h1
    exact h1)
  have BC := Lib.hid (fun w' (h : Below B w2 w') (i : Nat) (hi : i < 16) => show w'.cell? ⟨bb, boff + i, none⟩ = some (.int .u8 (b i : Nat)) by
    have h1 := (hb2.keep (by rw [hB]; exact h)).cell_at i hi
    rw [bytesL_at 16 _ i hi] at h1
    exact h1)
  have hB := Lib.hid hB
  have hB2 := Lib.hid hB2
  have hby := Lib.hid hby
  clear hK2 hb2 b1 b2 hb hcut m1 m2 m3 hr15 hwd
  go_wp2
  go_loopw [8, 9] (fun o i wr => ∃ k : Nat, k ≤ 16 ∧ i = .int .i64 k ∧ wr.ownsRow B 5 1 o k (rowN k (bAdd b (keyAt (kb W) r))) ∧ Below B w2 wr) (fun _ i _ => 16 - (intOf i).toNat)
  case atStart => exact ⟨0, by omega, rfl, World.ownsRow_nil _ _ _ _, Below.refl _ _⟩
  case round =>
    obtain ⟨k, hk, rfl, hown, hB0⟩ := hrel
    by_cases hlt : k < 16
    · obtain ⟨bo, co, rfl⟩ : ∃ bo co, u8 = .slice bo k co := by
        obtain ⟨x, y, e, _⟩ := Ints.of_owns (xs := bytesL k (bAdd b (keyAt (kb W) r))) (by rw [bytesL_row]; exact hown)
        exact ⟨x, y, e⟩
      have hxor : bits .xor .u8 (b k : Int) (keyAt (kb W) r k : Int) = ((bAdd b (keyAt (kb W) r) k : Nat) : Int) := bits_xor8 _ _ (hby.out k) (kb_by W _)
      have hlt' := Lib.hid hlt
      have hki : (k : Int) < 16 := by omega
      obtain ⟨v, hv, hD⟩ := Draws.one wr
      have hB1 := hB0.trans (hD.below B)
      have hown : v.ownsRow B 5 1 (.slice bo k co) k (rowN k (bAdd b (keyAt (kb W) r))) := by rw [← hv]; exact hown
      clear hlt hk hB0
      go_wp2_with fail
      refine region_seqS (fun w' => Below B w2 w') (by kernel_rfl) (by rw [hv]; exact hB1) ?_
      simp only [pairs, Nat.reduceAdd]
      change SeqS _ _ _ _ _ _ _ _ wr.drew
      rw [hv]
      clear hv hD
      repeat (first
        | (refine SeqS.take (v := ?_) (by first | assumption | trivial) (by kernel_rfl) (by decide +kernel) (by decide +kernel) (Or.inl ⟨by rfl, ?_⟩) ?_
           rotate_left
           focus
             intro w' hb'
             have d0 := BC.out w' hb' k hlt'.out
             have d1 := KC.out w' hb' k hlt'.out
             go_simp
             with_reducible rfl
           simp only [Act.put, List.setIfInBounds_toArray, List.set_cons_zero, List.set_cons_succ])
        | (refine SeqS.take1 (v := ?_) (by first | assumption | trivial) (by kernel_rfl) (by decide +kernel) (by decide +kernel) (Or.inl ⟨by rfl, ?_⟩) ?_
           rotate_left
           focus
             intro w' hb'
             have d0 := BC.out w' hb' k hlt'.out
             have d1 := KC.out w' hb' k hlt'.out
             go_simp
             with_reducible rfl
           simp only [Act.put, List.setIfInBounds_toArray, List.set_cons_zero, List.set_cons_succ]))
      obtain ⟨z, hz⟩ : ∃ z, bAdd b (keyAt (kb W) r) k = z := ⟨_, rfl⟩
      rw [hz]
      refine SeqS.alone (by decide +kernel) (by rfl) (fun K hK => ?_)
      go_simp
      have hBs : B ≤ v.heap.size := Nat.le_trans (by have := hB.out; omega) hB1.size
      have hone := one_at v .u8 5 (z : Int)
      have hB2' := hB1.alloc hBs (.cells #[.int .u8 (z : Int)] 5)
      have hown2 := hown.alloc (.cells #[.int .u8 (z : Int)] 5)
      obtain ⟨v2, hv2⟩ : ∃ v2, v.alloc (.cells #[.int .u8 (z : Int)] 5) = v2 := ⟨_, rfl⟩
      rw [hv2] at hone hB2' hown2 ⊢
      have hBs2 : B ≤ v2.heap.size := by rw [← hv2]; simp; omega
      clear hv2
      refine hK _ _ hB2' ?_
      clear hK K
      refine SeqS.alone (by decide +kernel) (by rfl) (fun K hK => ?_)
      refine wp_append_ints (.tmp 23) (.tmp 33) 24 rfl B 5 i0 (.int .u8 0) 1 Tryz.underlying24 hi hz0 hz1 hz2 rfl rfl hown2 rfl hone ?_ ?_ hBs2 ?_
      · have := hlt'.out; unfold maxLen; omega
      · have := hlt'.out; omega
      intro v3 w3 hown3 hg3
      have hB3 := hB2'.grown hg3 hBs2 (fun j hj => (hown2.lt j hj).1)
      have hown3 : w3.ownsRow B 5 1 v3 (k + 1) (rowN (k + 1) (bAdd b (keyAt (kb W) r))) := by rw [rowN_snoc, hz]; exact hown3
      refine hK _ _ hB3 ?_
      clear hK K hown hown2 hone hB1 hB2' hg3
      (refine SeqS.take (v := ?_) (by first | assumption | trivial) (by kernel_rfl) (by decide +kernel) (by decide +kernel) (Or.inl ⟨by rfl, ?_⟩) ?_
       rotate_left
       focus
         intro w' hb'
         go_simp
         with_reducible rfl
       simp only [Act.put, List.setIfInBounds_toArray, List.set_cons_zero, List.set_cons_succ])
      refine SeqS.done (by decide +kernel) ?_
      clear hxor
      go_wp2
      go_roundw
      case rel => exact ⟨k + 1, by have := hlt'.out; omega, by go_num, hown3, hB3⟩
      case measure => have := hlt'.out; simp [intOf]; omega
    · obtain rfl : k = 16 := by omega
      go_wp2
      go_ret
      obtain ⟨b', c', rfl, hr⟩ := Ints.of_owns (xs := bytesL 16 (bAdd b (keyAt (kb W) r))) (by rw [bytesL_row]; exact hown)
      exact ⟨b', c', rfl, hr, fun x hx => Nat.le_trans (by have := hB.out; have := hB2.out.size; omega) (hown.lt x.block (by rw [hx]; rfl)).1, hB2.out.trans (hB0.mono (by have := hB.out; have := hB2.out.size; omega))⟩
end Go.Proofs.YtagacpjeooaapaaGreatDoor

/-
  A block encrypted by the document's own words. New memory alone is written.
-/
namespace Go.Proofs.YtagacpjeooaapaaGreatDoor
open Go.RowKit

theorem enc_arith (c i m p q s n x : Nat) (hc : c < 4) (hi : i < 4) (hm : 4 * c = m) (hp : m + i = p) (hq : c + i = q) (hs : q % 4 = s) (hn : 4 * s = n) (hx : n + i = x) :
    IntKind.i64.wrap (4 * (c : Int)) = (m : Int) ∧ IntKind.i64.wrap ((m : Int) + (i : Int)) = (p : Int) ∧ IntKind.i64.wrap ((c : Int) + (i : Int)) = (q : Int) ∧ (q : Int).tmod 4 = (s : Int) ∧ IntKind.i64.wrap (4 * (s : Int)) = (n : Int) ∧ IntKind.i64.wrap ((n : Int) + (i : Int)) = (x : Int) ∧ (x : Int) < 16 ∧ (p : Int) < 16 := by
  have h4 : s < 4 := by rw [← hs]; exact Nat.mod_lt _ (by decide)
  refine ⟨by rw [IntKind.wrap_i64]; omega, by rw [IntKind.wrap_i64]; omega, by rw [IntKind.wrap_i64]; omega, ?_, by rw [IntKind.wrap_i64]; omega, by rw [IntKind.wrap_i64]; omega, by omega, by omega⟩
  exact (rem4 q s hs).1
theorem tIx_of (c i m p q s n x : Nat) (hi : i < 4) (hm : 4 * c = m) (hp : m + i = p) (hq : c + i = q) (hs : q % 4 = s) (hn : 4 * s = n) (hx : n + i = x) : tIx 1 p = x := by
  unfold tIx
  rw [show p / 4 = c by omega, show p % 4 = i by omega, Nat.mul_one, hq, hs]
  omega
theorem own_keep {w w' : World} {b : Nat} {e : TypeId} {size : Nat} {v : Value} {n : Nat} {xs : List Value} (h : w.ownsRow b e size v n xs) (hb : Below w.heap.size w w') : w'.ownsRow b e size v n xs :=
  h.kept (grown_of_below hb none) (by cases hv : v.ownBlock <;> simp)
theorem bytes_cut (n : Nat) (F : Nat → Nat) (s m : Nat) (h : s + m ≤ n) : ((bytesL n F).drop s).take m = bytesL m (fun i => F (s + i)) := by
  apply List.ext_getElem?
  intro i
  by_cases hi : i < m
  · rw [List.getElem?_take_of_lt hi, List.getElem?_drop]
    simp [bytesL, hi, show s + i < n by omega]
  · rw [List.getElem?_eq_none (by rw [List.length_take, List.length_drop, bytesL_len]; omega), List.getElem?_eq_none (by rw [bytesL_len]; omega)]
theorem rowN_add (n m : Nat) (f : Nat → Nat) : rowN (n + m) f = rowN n f ++ rowN m (fun i => f (n + i)) := by
  apply List.ext_getElem?
  intro i
  by_cases hi : i < n + m
  · rw [rowN_at (n + m) f i hi]
    by_cases hn : i < n
    · rw [List.getElem?_append_left (by rw [rowN_len]; exact hn), rowN_at n f i hn]
    · rw [List.getElem?_append_right (by rw [rowN_len]; omega), rowN_len, rowN_at m _ _ (by omega), show n + (i - n) = i by omega]
  · rw [List.getElem?_eq_none (by rw [rowN_len]; omega), List.getElem?_eq_none (by rw [List.length_append, rowN_len, rowN_len]; omega)]

set_option maxRecDepth 100000 in
set_option maxHeartbeats 2000000 in
theorem rEnc_any (wa : Option Addr) (wc tb toff tc : Nat) (W : Nat → Nat) (ba : Option Addr) (bc : Nat) (b : Nat → Nat) (w : World)
    (hW : Ints .u32 w wa 60 wc (wordsL 60 W 0)) (hwd : Wd W) (hT : Ints .u8 w (some ⟨tb, toff, none⟩) 256 tc (bytesL 256 sb)) (hb : Ints .u8 w ba 16 bc (bytesL 16 b)) (hby : By b) :
    Calls Tryz.prog 57 #[.agg #[.slice wa 60 wc, .slice (some ⟨tb, toff, none⟩) 256 tc], .slice ba 16 bc] w fun e w' => ∃ oa oc, e = .returned (.slice oa 16 oc) ∧ Ints .u8 w' oa 16 oc (bytesL 16 (enc (keyAt (kb W)) b)) ∧ (∀ x, oa = some x → w.heap.size ≤ x.block) ∧ Below w.heap.size w w' := by
  obtain ⟨i0, hi, hz0, hz1, hz2⟩ := info_parts infoU8
  obtain ⟨g, hg⟩ : ∃ g, w.heap.size = g := ⟨_, rfl⟩
  go_enter Tryz.func57, Tryz.ntmps57
  go_wp2_with fail
  have b1 := below1 w (.cells #[.slice wa 60 wc, .slice (some ⟨tb, toff, none⟩) 256 tc] 108)
  have hG0 := Blk.new w 108 [.slice wa 60 wc, .slice (some ⟨tb, toff, none⟩) 256 tc]
  obtain ⟨W0, hW0⟩ : ∃ W0, w.alloc (.cells #[.slice wa 60 wc, .slice (some ⟨tb, toff, none⟩) 256 tc] 108) = W0 := ⟨_, rfl⟩
  change Blk (w.alloc (.cells #[.slice wa 60 wc, .slice (some ⟨tb, toff, none⟩) 256 tc] 108)) _ _ _ at hG0
  rw [hW0] at b1 hG0 ⊢
  have hW1 := hW.keep b1
  have hT1 := hT.keep b1
  have hb1 := hb.keep b1
  rw [hg] at b1 hG0
  obtain ⟨B, hB⟩ : ∃ B, W0.heap.size = B := ⟨_, rfl⟩
  have hgB : g < B := by rw [← hB]; exact hG0.lt
  have WW := Lib.hid (fun w' (h : Below B W0 w') => (hW1.keep (by rw [hB]; exact h) : Ints .u32 w' wa 60 wc (wordsL 60 W 0)))
  have TT := Lib.hid (fun w' (h : Below B W0 w') => (hT1.keep (by rw [hB]; exact h) : Ints .u8 w' (some ⟨tb, toff, none⟩) 256 tc (bytesL 256 sb)))
  have GG := Lib.hid (fun w' (h : Below B W0 w') => (hG0.keep h hgB : Blk w' g 108 [.slice wa 60 wc, .slice (some ⟨tb, toff, none⟩) 256 tc]))
  have hB := Lib.hid hB
  have hgB := Lib.hid hgB
  have b1 := Lib.hid b1
  have hwd := Lib.hid hwd
  clear hW0 hW hT hb hW1 hT1 hG0
  refine (rXor_any wa wc (some ⟨tb, toff, none⟩) tc W 0 ba bc b W0 (WW.out W0 (Below.refl _ _)) hwd.out (by decide) hb1 hby).mono ?_
  rintro e w2 ⟨oa, oc, rfl, hO, nO, h2⟩
  rw [hB.out] at h2 nO
  have nO := Lib.hid nO
  clear hb1
  have hby := Lib.hid hby
  go_wp2
  go_loopw [1, 5] (fun o i wr => ∃ (r : Nat) (oa : Option Addr) (oc : Nat), 1 ≤ r ∧ r ≤ 15 ∧ i = .int .i64 r ∧ o = .slice oa 16 oc ∧ Ints .u8 wr oa 16 oc (bytesL 16 (encs (keyAt (kb W)) b (r - 1))) ∧ (∀ x, oa = some x → B ≤ x.block) ∧ Below B W0 wr) (fun _ i _ => 15 - (intOf i).toNat)
  case atStart => exact ⟨1, oa, oc, by omega, by omega, rfl, rfl, hO, nO.out, h2⟩
  case round =>
    clear hO h2 nO
    obtain ⟨r, oa, oc, hr1, hk, rfl, rfl, hO, nO, hBr⟩ := hrel
    have nO := Lib.hid nO
    by_cases hlt : r < 15
    · have hcb := encs_by (fun r => keyAt_by (kb_by W) r) hby.out (r - 1)
      obtain ⟨c, hc⟩ : ∃ c, encs (keyAt (kb W)) b (r - 1) = c := ⟨_, rfl⟩
      have hnx : encs (keyAt (kb W)) b r = crnd (keyAt (kb W)) r c := by
        obtain ⟨k, rfl⟩ : ∃ k, r = k + 1 := ⟨r - 1, by omega⟩
        rw [← hc]; rfl
      rw [hc] at hO hcb
      have hnx := Lib.hid hnx
      have hcb := Lib.hid hcb
      have hr1 := Lib.hid hr1
      have hlt' := Lib.hid hlt
      have hri : (r : Int) ≤ 14 := by omega
      clear hc hk hlt
      have hBs : B ≤ wr.heap.size := Nat.le_trans (by have := hB.out; omega) hBr.size
      go_wp2_with (at_make; refine wpList_make_two rfl _ _ 24 rfl wr.heap.size 5 i0 (.int .u8 0) Tryz.underlying24 hi hz0 hz1 rfl (n := 16) (C := 16) rfl rfl rfl rfl (Nat.le_refl _) ?_ ?_ (Nat.le_refl _) ?_; (rw [hz2]; decide); (unfold maxLen; decide); intro V hownV hkV hgV; refine RowKit.Hid.out ?_)
      refine Lib.hid ?_
      rw [rep_zero] at hkV
      have bV : Below wr.heap.size wr V := (Below.refl _ wr).grown hgV (Nat.le_refl _) (fun j hj => by cases hj)
      obtain ⟨S, hS⟩ : ∃ S, wr.heap.size = S := ⟨_, rfl⟩
      rw [hS] at hkV hBs ⊢
      obtain ⟨ob, ooff, rfl, _⟩ := hO.at (by decide)
      have hobl : ob < S := by rw [← hS]; exact World.block_lt_of_cell? wr _ (hO.cell_at 0 (by decide))
      have hO := hO.keep bV
      rw [hS] at bV
      have hSV : S < V.heap.size := hkV.lt
      have hBV := hBr.trans (bV.mono hBs)
      have OO := Lib.hid (fun w' (h : Below S V w') (i : Nat) (hi : i < 16) => show w'.cell? ⟨ob, ooff + i, none⟩ = some (.int .u8 (c i : Nat)) by
        have h1 := hO.cell_at i hi
        rw [bytesL_at 16 _ i hi] at h1
        exact (h.cell (p := ⟨ob, ooff + i, none⟩) hobl).trans h1)
      have BW := Lib.hid (fun w' (h : Below S V w') => hBV.trans (h.mono hBs))
      have T1 := Lib.hid (fun w' (h : Below S V w') (i : Nat) (hi : i < 256) => show w'.cell? ⟨tb, toff + i, none⟩ = some (.int .u8 (sb i : Nat)) by
        have h1 := (TT.out w' (hBV.trans (h.mono hBs))).cell_at i hi
        rw [bytesL_at 256 _ i hi] at h1
        exact h1)
      have G1 := Lib.hid (fun w' (h : Below S V w') => show w'.cell? ⟨g, 1, none⟩ = some (.slice (some ⟨tb, toff, none⟩) 256 tc) from (GG.out w' (hBV.trans (h.mono hBs))).cell 1)
      have hk0 : Blk V S 5 (rowN 16 (upto (4 * 0) (bTurn 1 (bSb sb c)) zf)) := by rw [upto_zero]; exact hkV
      have hBs' := Lib.hid hBs
      have hSV := Lib.hid hSV
      clear hownV hgV bV hkV hobl hO hBs hBr hBV
      go_wp2
      go_loopw [7] (fun i wr => ∃ k : Nat, k ≤ 4 ∧ i = .int .i64 k ∧ Blk wr S 5 (rowN 16 (upto (4 * k) (bTurn 1 (bSb sb c)) zf)) ∧ Below S V wr) (fun i _ => 4 - (intOf i).toNat)
      case atStart => exact ⟨0, by omega, rfl, hk0, Below.refl _ _⟩
      case round =>
        clear hk0
        obtain ⟨k, hk4, rfl, hx, hBc⟩ := hrel
        by_cases hlt4 : k < 4
        · have hki : (k : Int) < 4 := by omega
          have hk0 : Blk wr S 5 (rowN 16 (upto (4 * k + 0) (bTurn 1 (bSb sb c)) zf)) := hx
          have hlt4' := Lib.hid hlt4
          clear hx hk4
          obtain ⟨wq, rfl⟩ : ∃ wq : World, wq = wr := ⟨_, rfl⟩
          go_wp2
          go_loopw [8] (fun i wr => ∃ j : Nat, j ≤ 4 ∧ i = .int .i64 j ∧ Blk wr S 5 (rowN 16 (upto (4 * k + j) (bTurn 1 (bSb sb c)) zf)) ∧ Below S V wr) (fun i _ => 4 - (intOf i).toNat)
          case atStart => exact ⟨0, by omega, rfl, hk0, hBc⟩
          case round =>
            clear hk0 hBc
            obtain ⟨j, hj4, rfl, hx, hBc⟩ := hrel
            by_cases hltj : j < 4
            · obtain ⟨m, hm⟩ : ∃ m, 4 * k = m := ⟨_, rfl⟩
              obtain ⟨p, hp⟩ : ∃ p, m + j = p := ⟨_, rfl⟩
              obtain ⟨q, hq⟩ : ∃ q, k + j = q := ⟨_, rfl⟩
              obtain ⟨s, hs⟩ : ∃ s, q % 4 = s := ⟨_, rfl⟩
              obtain ⟨n, hn⟩ : ∃ n, 4 * s = n := ⟨_, rfl⟩
              obtain ⟨x, hxx⟩ : ∃ x, n + j = x := ⟨_, rfl⟩
              have htx := tIx_of k j m p q s n x hltj hm hp hq hs hn hxx
              have h4s : s < 4 := by rw [← hs]; exact Nat.mod_lt _ (by decide)
              have hxl : x < 16 := by omega
              have hpl : p < 16 := by have := hlt4'.out; omega
              obtain ⟨a1, a2, a3, a4, a5, a6, a7, a8⟩ := enc_arith k j m p q s n x hlt4'.out hltj hm hp hq hs hn hxx
              obtain ⟨v, hv, hD⟩ := Draws.one wr
              have hx := hD.blk hx
              have hBc := hBc.trans (hD.below S)
              have cb := OO.out v hBc x hxl
              obtain ⟨y, hy⟩ : ∃ y, c x = y := ⟨_, rfl⟩
              have hyl : y < 256 := by rw [← hy]; exact hcb.out x
              rw [hy] at cb
              have ct := T1.out v hBc y hyl
              have cg := G1.out v hBc
              obtain ⟨z, hz⟩ : ∃ z, sb y = z := ⟨_, rfl⟩
              rw [hz] at ct
              have hF : bTurn 1 (bSb sb c) p = z := by show sb (c (tIx 1 p)) = z; rw [htx, hy, hz]
              rw [show 4 * k + j = p by omega] at hx
              have cs := hx.cell p
              rw [rowN_at 16 _ p hpl] at cs
              have fs : v.frozen? ⟨S, p, none⟩ = false := Blk.frozen hx p
              have hset := hx.set p (.int .u8 (z : Nat))
              rw [rowN_set 16 _ _ _ hpl, upto_step _ _ _ _ hF] at hset
              have hpn : 4 * k + (j + 1) = p + 1 := by omega
              have hyi : (y : Int) < 256 := by omega
              have hji : (j : Int) < 4 := by omega
              have hset := Lib.hid hset
              have hpn := Lib.hid hpn
              have hltj' := Lib.hid hltj
              clear hm hp hq hs hn hxx htx h4s hxl hpl hy hyl hz hF hltj hj4
              go_wp2_with fail
              refine wp_region_still_tail 20 (by kernel_rfl) (by decide +kernel) ?_
              simp only [List.take_succ_cons, List.take_zero, List.drop_succ_cons, List.drop_zero]
              change wpStill _ _ wr.drew _ _ _
              rw [hv]
              repeat still_step
              refine wpStill_nil ?_
              change wpList _ _ _ _ _ wr.drew
              rw [hv]
              clear hv hD a1 a2 a3 a4 a5 a6 cb ct cg
              go_wp2
              go_roundw
              case rel => exact ⟨j + 1, by have := hltj'.out; omega, by go_num, by rw [hpn.out]; exact hset.out, hBc.setCell (p := ⟨S, p, none⟩) (Nat.le_refl S) _⟩
              case measure => have := hltj'.out; simp [intOf]; omega
            · obtain rfl : j = 4 := by omega
              go_wp2
              go_roundw
              case rel => exact ⟨k + 1, by have := hlt4'.out; omega, by go_num, hx, hBc⟩
              case measure => have := hlt4'.out; simp [intOf]; omega
        · obtain rfl : k = 4 := by omega
          rw [show ((4 : Nat) : Int) = 4 from rfl]
          have hx : Blk wr S 5 (rowN 16 (bTurn 1 (bSb sb c))) := hx.cast (rowN_congr (upto_all 16 _ zf))
          obtain ⟨F, hF⟩ : ∃ F, bTurn 1 (bSb sb c) = F := ⟨_, rfl⟩
          have hFb : By F := by rw [← hF]; exact bTurn_by (bSb_by sb_256)
          rw [hF] at hx
          have hnx : Hid (encs (keyAt (kb W)) b r = bAdd (mid r F) (keyAt (kb W) r)) := Lib.hid (by rw [← hF]; exact hnx.out)
          have hFb := Lib.hid hFb
          obtain ⟨V2, rfl⟩ : ∃ V2 : World, V2 = wr := ⟨_, rfl⟩
          have hBV2 := BW.out V2 hBc
          have hIF : Ints .u8 V2 (some ⟨S, 0, none⟩) 16 16 (bytesL 16 F) := by
            have := Ints.row (o := 0) (cap := 16) hx 16 (by decide) (by decide)
            rw [show (fun i => F (0 + i)) = F by funext i; rw [Nat.zero_add]] at this
            exact this
          have hsz : B ≤ V2.heap.size := Nat.le_trans (by have := hB.out; omega) hBV2.size
          clear hF hx OO T1 G1 BW hBc
          by_cases hl : r < 14
          · have hli : (r : Int) < 14 := by omega
            have hl := Lib.hid hl
            obtain ⟨E, hE⟩ : ∃ E, V2.heap.size = E := ⟨_, rfl⟩
            have II := Lib.hid (fun w' (h : Below E V2 w') => (hIF.keep (by rw [hE]; exact h) : Ints .u8 w' (some ⟨S, 0, none⟩) 16 16 (bytesL 16 F)))
            have BB := Lib.hid (fun w' (h : Below E V2 w') => hBV2.trans (h.mono (by rw [← hE]; exact hsz)))
            have hE := Lib.hid hE
            have hsz0 := Lib.hid hsz
            clear hIF hsz
            go_wp2
            go_loopw [9, 10] (fun o i wr => ∃ k : Nat, k ≤ 4 ∧ i = .int .i64 k ∧ wr.ownsRow E 5 1 o (4 * k) (rowN (4 * k) (bCols mixc F)) ∧ Below E V2 wr) (fun _ i _ => 4 - (intOf i).toNat)
            case atStart => exact ⟨0, by omega, rfl, World.ownsRow_nil _ _ _ _, Below.refl _ _⟩
            case round =>
              obtain ⟨k, hk4, rfl, hown, hBe⟩ := hrel
              by_cases hlt4 : k < 4
              · obtain ⟨m, hm⟩ : ∃ m, 4 * k = m := ⟨_, rfl⟩
                have m1 : (4 : Int) * (k : Int) = (m : Int) := by omega
                have m2 : wrap64 (m : Int) = (m : Int) := w64' _ (by omega) (by omega)
                have m3 : wrap64 ((m : Int) + 4) = (m : Int) + 4 := w64' _ (by omega) (by omega)
                have hml : m + 4 ≤ 16 := by omega
                have hcut := (II.out wr hBe).cut2 m (m + 4) (by omega) hml
                rw [Nat.add_sub_cancel_left, bytes_cut 16 F m 4 hml] at hcut
                rw [hm] at hown
                have hcol : Hid (rowN m (bCols mixc F) ++ (bytesL 4 (mixc (fun i => F (m + i)))).map (Value.int .u8) = rowN (m + 4) (bCols mixc F)) := Lib.hid (by
                  rw [bytesL_row, rowN_add]
                  congr 1
                  refine rowN_congr (fun i hi => ?_)
                  unfold bCols colOf
                  rw [show (m + i) / 4 = k by omega, show (m + i) % 4 = i by omega, hm])
                have hmn : 4 * (k + 1) = m + 4 := by omega
                have hmn := Lib.hid hmn
                have hml := Lib.hid hml
                have hlt4' := Lib.hid hlt4
                have hki : (k : Int) < 4 := by omega
                have hEs : E ≤ wr.heap.size := Nat.le_trans (by have := hE.out; omega) hBe.size
                have hEs := Lib.hid hEs
                clear hm hlt4 hk4
                go_wp2_with (refine wpList_cut2 rfl 24 5 (.tmp 54) (.tmp 56) (.tmp 59) rfl Tryz.underlying24 sizeU8' rfl (l := m) (h := m + 4) rfl rfl ?_ ?_ (Nat.le_add_right m 4) hml.out ?_; (first | rfl | omega); (first | rfl | omega); rw [Nat.add_sub_cancel_left])
                refine (rMix_any _ (16 - m) (fun i => F (m + i)) wr hcut (fun _ => hFb.out _)).mono ?_
                rintro e w5 ⟨b5, c5, rfl, hM, bM⟩
                have hown5 := own_keep hown bM
                have hB5 := hBe.trans (bM.mono hEs.out)
                have hE5 : E ≤ w5.heap.size := Nat.le_trans hEs.out bM.size
                clear bM hcut hown hBe m1 m2 m3
                go_wp2_with (at_builtin; refine wpList_append_ints rfl (.tmp 53) (.tmp 61) 24 rfl E 5 i0 (.int .u8 0) 1 Tryz.underlying24 hi hz0 hz1 hz2 rfl rfl hown5 rfl hM ?_ ?_ hE5 ?_; (have := hml.out; unfold maxLen; omega); (have := hml.out; omega); intro v6 w6 hown6 hg6; refine RowKit.Hid.out ?_)
                refine Lib.hid ?_
                rw [hcol.out] at hown6
                have hB6 := hB5.grown hg6 hE5 (fun j hj => (hown5.lt j hj).1)
                clear hown5 hM hg6 hB5 hcol
                go_wp2
                go_roundw
                case rel => exact ⟨k + 1, by have := hlt4'.out; omega, by go_num, by rw [hmn.out]; exact hown6, hB6⟩
                case measure => have := hlt4'.out; simp [intOf]; omega
              · obtain rfl : k = 4 := by omega
                obtain ⟨sa, sc, rfl, hIs⟩ := Ints.of_owns (xs := bytesL 16 (bCols mixc F)) (by rw [bytesL_row]; exact hown)
                have hFb : Hid (By (bCols mixc F)) := Lib.hid (bCols_by hFb.out (fun _ => mixc_by))
                have hBw := BB.out wr hBe
                have hsz : B ≤ wr.heap.size := Nat.le_trans (by have := hB.out; omega) hBw.size
                clear hown
                have gg := GG.out wr hBw
                have gc0 := gg.cell 0
                have gc1 := gg.cell 1
                simp only [List.getElem?_cons_zero, List.getElem?_cons_succ] at gc0 gc1
                clear gg
                go_wp2_with fail
                refine (rXor_any wa wc (some ⟨tb, toff, none⟩) tc W r sa sc (bCols mixc F) wr (WW.out wr hBw) hwd.out hlt'.out hIs hFb.out).mono ?_
                rintro e w9 ⟨oa9, oc9, rfl, hO9, n9, b9⟩
                have n9 := Lib.hid n9
                have hB9 := (hBw).trans (b9.mono hsz)
                have hE9 : bytesL 16 (bAdd (bCols mixc F) (keyAt (kb W) r)) = bytesL 16 (encs (keyAt (kb W)) b r) := by rw [hnx.out, mid, if_pos hl.out]
                rw [hE9] at hO9
                clear b9 gc0 gc1
                go_wp2
                go_roundw
                case rel => exact ⟨r + 1, oa9, oc9, by omega, by have := hlt'.out; omega, by go_num, rfl, by rw [Nat.add_sub_cancel]; exact hO9, fun x hx => Nat.le_trans hsz (n9.out x hx), hB9⟩
                case measure => have := hlt'.out; simp [intOf]; omega
          · have hli : ¬ (r : Int) < 14 := by omega
            have hl := Lib.hid hl
            have gg := GG.out V2 hBV2
            have gc0 := gg.cell 0
            have gc1 := gg.cell 1
            simp only [List.getElem?_cons_zero, List.getElem?_cons_succ] at gc0 gc1
            clear gg
            go_wp2_with fail
            refine (rXor_any wa wc (some ⟨tb, toff, none⟩) tc W r (some ⟨S, 0, none⟩) 16 (F) V2 (WW.out V2 hBV2) hwd.out hlt'.out hIF hFb.out).mono ?_
            rintro e w9 ⟨oa9, oc9, rfl, hO9, n9, b9⟩
            have n9 := Lib.hid n9
            have hB9 := (hBV2).trans (b9.mono hsz)
            have hE9 : bytesL 16 (bAdd (F) (keyAt (kb W) r)) = bytesL 16 (encs (keyAt (kb W)) b r) := by rw [hnx.out, mid, if_neg hl.out]
            rw [hE9] at hO9
            clear b9 gc0 gc1
            go_wp2
            go_roundw
            case rel => exact ⟨r + 1, oa9, oc9, by omega, by have := hlt'.out; omega, by go_num, rfl, by rw [Nat.add_sub_cancel]; exact hO9, fun x hx => Nat.le_trans hsz (n9.out x hx), hB9⟩
            case measure => have := hlt'.out; simp [intOf]; omega
    · obtain rfl : r = 15 := by omega
      have hO : Ints .u8 wr oa 16 oc (bytesL 16 (enc (keyAt (kb W)) b)) := hO
      go_wp2
      go_ret
      refine ⟨oa, oc, rfl, hO, fun x hx => by have := nO.out x hx; have := hgB.out; omega, ?_⟩
      rw [hg]
      exact b1.out.trans (hBr.mono (Nat.le_of_lt hgB.out))
end Go.Proofs.YtagacpjeooaapaaGreatDoor

/-
  New makes a stream of a key of 32 bytes, which stands at 0; a key of another length makes none. New memory alone is written. Conditions: each byte of the key is a number from 0 to 255.
-/
namespace Go.Proofs.YtagacpjeooaapaaGreatDoor
open Go.RowKit

/-- The cells of a cipher, a number and a block. -/
def kpCells (F f h : Nat → Nat) (bm m : Bool) (n : Int) (X : Nat → Nat) : List Value := ciCells F f h bm m ++ (.int .u64 n :: rowN 16 X)
theorem kpCells_len (F f h : Nat → Nat) (bm m : Bool) (n : Int) (X : Nat → Nat) : (kpCells F f h bm m n X).length = 771 := by simp [kpCells, ciCells_len, rowN_len]
theorem sizeCi : (Tryz.prog.info? 96).map (·.size) = some 754 := by kernel_rfl
theorem rowCi (F f h : Nat → Nat) (bm m : Bool) : IsRow Tryz.prog 96 (ciCells F f h bm m).length := by rw [ciCells_len]; exact IsRow.struct Tryz.underlying96 sizeCi
theorem zeroKp : Zero Tryz.prog 100 (kpCells zf zf zf false false 0 zf) := by unfold Zero; kernel_rfl
theorem placesKp : (match Tryz.prog.underlying 100 with | some (.struct fs) => fs.toList.mapM (fun f => (Tryz.prog.info? f.type).map fun i => (f.offset, i.size)) | _ => none) = some [(0, 754), (754, 1), (755, 16)] := by kernel_rfl
theorem zeroSt : Zero Tryz.prog 102 (kpCells zf zf zf false false 0 zf ++ [.int .u64 0, .bool false]) := by unfold Zero; kernel_rfl
theorem placesSt : (match Tryz.prog.underlying 102 with | some (.struct fs) => fs.toList.mapM (fun f => (Tryz.prog.info? f.type).map fun i => (f.offset, i.size)) | _ => none) = some [(0, 771), (771, 1), (772, 1)] := by kernel_rfl
theorem over_list (A B C D : List Value) (a b : Nat) (ha : A.length = a) (hb : B.length = b) (hc : C.length = b) : (A ++ (B ++ D)).take a ++ (C ++ (A ++ (B ++ D)).drop (a + C.length)) = A ++ (C ++ D) := by
  subst ha
  rw [List.take_left' rfl, hc, List.drop_append, List.drop_of_length_le (Nat.le_add_right _ _), List.nil_append, Nat.add_sub_cancel_left, List.drop_append, hb, List.drop_of_length_le (by rw [hb]; exact Nat.le_refl _), List.nil_append, Nat.sub_self, List.drop_zero]

set_option maxRecDepth 100000 in
theorem built_kp (F f h : Nat → Nat) (bm m : Bool) (X : Nat → Nat) : Tryz.prog.built 100 [(0, Value.agg (ciCells F f h bm m).toArray), (2, Value.agg (rowN 16 X).toArray)] = some (kpCells F f h bm m 0 X).toArray := by
  have hz := zeroKp
  have hp := placesKp
  unfold Zero at hz
  unfold Program.built
  rw [Tryz.underlying100] at hp ⊢
  cases hi : Tryz.prog.info? 100 with
  | none => rw [hi] at hz; cases hz
  | some it =>
    rw [hi] at hz
    have hz' : it.zero = some (.agg (kpCells zf zf zf false false 0 zf).toArray) := hz
    dsimp only at hp ⊢
    rw [hp, hz']
    dsimp only
    rw [show (Value.agg (kpCells zf zf zf false false 0 zf).toArray).cells = (kpCells zf zf zf false false 0 zf).toArray from rfl]
    rw [fill_one _ _ 0 0 754 _ (ciCells F f h bm m) _ rfl rfl (ciCells_len _ _ _ _ _) (by rw [kpCells_len, ciCells_len]; decide)]
    have e1 : (kpCells zf zf zf false false 0 zf).take 0 ++ (ciCells F f h bm m ++ (kpCells zf zf zf false false 0 zf).drop (0 + (ciCells F f h bm m).length)) = (ciCells F f h bm m ++ [.int .u64 0]) ++ (rowN 16 zf ++ []) := by
      have := over_list [] (ciCells zf zf zf false false) (ciCells F f h bm m) (.int .u64 0 :: rowN 16 zf) 0 754 rfl (ciCells_len _ _ _ _ _) (ciCells_len _ _ _ _ _)
      rw [List.nil_append, List.nil_append] at this
      unfold kpCells
      rw [this]
      simp
    have hl : (ciCells F f h bm m ++ [Value.int .u64 0]).length = 755 := by rw [List.length_append, ciCells_len]; rfl
    rw [e1]
    rw [fill_one _ _ 2 755 16 _ (rowN 16 X) _ rfl rfl (rowN_len _ _) (by rw [List.length_append, hl, List.append_nil, rowN_len, rowN_len]; decide)]
    rw [Instr.fill, over_list _ (rowN 16 zf) (rowN 16 X) [] 755 16 hl (rowN_len _ _) (rowN_len _ _)]
    refine congrArg (fun l : List Value => some l.toArray) ?_
    simp [kpCells]

set_option maxRecDepth 100000 in
theorem built_st (F : Nat → Nat) : Tryz.prog.built 102 [(0, Value.agg (kpCells F sb bk true true 0 (enc (keyAt F) (ctr 0))).toArray), (2, Value.bool true)] = some (stCells F 0 0).toArray := by
  have hz := zeroSt
  have hp := placesSt
  unfold Zero at hz
  unfold Program.built
  rw [Tryz.underlying102] at hp ⊢
  cases hi : Tryz.prog.info? 102 with
  | none => rw [hi] at hz; cases hz
  | some it =>
    rw [hi] at hz
    have hz' : it.zero = some (.agg (kpCells zf zf zf false false 0 zf ++ [Value.int .u64 0, Value.bool false]).toArray) := hz
    dsimp only at hp ⊢
    rw [hp, hz']
    dsimp only
    rw [show (Value.agg (kpCells zf zf zf false false 0 zf ++ [Value.int .u64 0, Value.bool false]).toArray).cells = (kpCells zf zf zf false false 0 zf ++ [Value.int .u64 0, Value.bool false]).toArray from rfl]
    obtain ⟨X, hX⟩ : ∃ X, kpCells F sb bk true true 0 (enc (keyAt F) (ctr 0)) = X := ⟨_, rfl⟩
    have hXl : X.length = 771 := by rw [← hX]; exact kpCells_len _ _ _ _ _ _ _
    rw [hX]
    rw [fill_one _ _ 0 0 771 _ X _ rfl rfl hXl (by rw [List.length_append, kpCells_len, hXl]; decide)]
    have e1 : (kpCells zf zf zf false false 0 zf ++ [Value.int .u64 0, .bool false]).take 0 ++ (X ++ (kpCells zf zf zf false false 0 zf ++ [Value.int .u64 0, .bool false]).drop (0 + X.length)) = (X ++ [.int .u64 0]) ++ ([.bool false] ++ []) := by
      have := over_list [] (kpCells zf zf zf false false 0 zf) X [Value.int .u64 0, .bool false] 0 771 rfl (kpCells_len _ _ _ _ _ _ _) hXl
      rw [List.nil_append, List.nil_append] at this
      rw [this]
      simp
    have hl : (X ++ [Value.int .u64 0]).length = 772 := by rw [List.length_append, hXl]; rfl
    rw [e1]
    rw [fill_one _ _ 2 772 1 _ [.bool true] _ rfl rfl rfl (by rw [List.length_append, hl]; decide)]
    rw [Instr.fill, over_list _ [.bool false] [.bool true] [] 772 1 hl rfl rfl]
    refine congrArg (fun l : List Value => some l.toArray) ?_
    rw [← hX]
    simp [kpCells, stCells]

/-- A value built of parts, in a region that draws its order. -/
theorem yields_build {P : Program} {ops : Array Oper} {S : World → Prop} {o : Oper} {a : Act} (hw : Region.wanted o (yielded ops a.tmps) = true) (t : TypeId) (parts : Array (Nat × Operand)) (ho : o.op = .build t parts) {cells : Array Value}
    (hf : P.built t (parts.map fun (i, x) => (i, a.eval x)).toList = some cells) : YieldsIf P ops S o (.agg cells) a := by
  refine .inl ⟨hw, fun w _ => ?_⟩
  unfold execOp
  simp only [ho, Sem.run_bind, run_build w t _ cells hf, Result.andThen_ok, Sem.run_pure]
theorem wp_box_blk {P : Program} {o : Oper} {a : Act} {w : World} {K : Act → World → Prop} {Q : Exit → Act → World → Prop} (ty : TypeId) (x : Operand) (ho : o.op = .box ty x)
    (cs : List Value) (hx : a.eval x = .agg cs.toArray) (h : K (a.put o.dst (.pointer (some ⟨w.heap.size, 0, none⟩))) (w.alloc (.cells cs.toArray ty))) : o.wp P a w K Q := by
  unfold Oper.wp execOp
  simp only [ho, Sem.run_bind, Instr.box, newVar, newRow, run_newObj_alloc, Sem.run_pure, Result.andThen_ok, hx]
  exact h

set_option maxRecDepth 100000 in
set_option maxHeartbeats 400000 in
theorem stNew_no (a : Option Addr) (n cap : Nat) (w : World) (hn : n ≠ 32) :
    Calls Tryz.prog 27 #[.slice a n cap] w fun e w' => e = .returned (.tuple #[.pointer none, .int .i64 1]) ∧ w = w' := by
  go_enter Tryz.func27, Tryz.ntmps27
  go_wp2_with fail
  refine (cNew_no a n cap _ hn).mono ?_
  rintro e w1 ⟨rfl, rfl⟩
  go_wp2
  go_ret2
  exact ⟨rfl, rfl⟩

set_option maxRecDepth 100000 in
set_option maxHeartbeats 1000000 in
theorem stNew_any (a : Option Addr) (cap : Nat) (bs : List Int) (w : World) (hI : Ints .u8 w a 32 cap bs) (hr : ∀ x ∈ bs, 0 ≤ x ∧ x < 256) :
    Calls Tryz.prog 27 #[.slice a 32 cap] w fun e w' => ∃ g, e = .returned (.tuple #[.pointer (some ⟨g, 0, none⟩), .int .i64 0]) ∧ w.heap.size ≤ g ∧ StAt w' g (kb (kws (own bs) 52)) 0 ∧ Below w.heap.size w w' := by
  go_enter Tryz.func27, Tryz.ntmps27
  go_wp2_with fail
  refine (cNew_any a cap bs w hI hr).mono ?_
  rintro e w1 ⟨q, rfl, hq, hC, hB⟩
  obtain ⟨F, hF⟩ : ∃ F, kb (kws (own bs) 52) = F := ⟨_, rfl⟩
  have hFb : By F := by rw [← hF]; exact kb_by _
  rw [hF] at hC
  have hF := Lib.hid hF
  obtain ⟨B, hBs⟩ : ∃ B, w1.heap.size = B := ⟨_, rfl⟩
  have hql : q < B := by rw [← hBs]; exact Blk.lt hC
  have hwB : w.heap.size ≤ B := by rw [← hBs]; exact hB.size
  have CC := Lib.hid (fun w' (h : Below B w1 w') => (Blk.keep hC h hql : CiAt w' q F sb bk true true))
  have hS : Below B w1 w1.drew := Below.drew (Below.refl _ _)
  have hBs := Lib.hid hBs
  have hql := Lib.hid hql
  have hwB := Lib.hid hwB
  have hq := Lib.hid hq
  clear hC hI hr
  go_wp2_with fail
  refine region_seqS (fun w' => Below B w1 w') (by kernel_rfl) hS ?_
  simp only [pairs, Nat.reduceAdd]
  repeat (first
    | (refine SeqS.take (v := .agg (ciCells F sb bk true true).toArray) (by first | assumption | trivial) (by kernel_rfl) (by decide +kernel) (by decide +kernel) (yields_blk (by rfl) 96 (.tmp 15) rfl rfl (fun w' h => CC.out w' h) (rowCi _ _ _ _ _)) ?_
       simp only [Act.put, List.setIfInBounds_toArray, List.set_cons_zero, List.set_cons_succ])
    | (refine SeqS.take (v := ?_) (by first | assumption | trivial) (by kernel_rfl) (by decide +kernel) (by decide +kernel) (Or.inl ⟨by rfl, ?_⟩) ?_
       rotate_left
       focus
         intro w' hb'
         go_simp
         with_reducible rfl
       simp only [Act.put, List.setIfInBounds_toArray, List.set_cons_zero, List.set_cons_succ])
    | (refine SeqS.take (v := undef) (by first | assumption | trivial) (by kernel_rfl) (by decide +kernel) (by decide +kernel) (Or.inr ⟨by rfl, rfl⟩) ?_
       simp only [Act.put, List.setIfInBounds_toArray, List.set_cons_zero, List.set_cons_succ])
    | (refine SeqS.take1 (v := .agg (ciCells F sb bk true true).toArray) (by first | assumption | trivial) (by kernel_rfl) (by decide +kernel) (by decide +kernel) (yields_blk (by rfl) 96 (.tmp 15) rfl rfl (fun w' h => CC.out w' h) (rowCi _ _ _ _ _)) ?_
       simp only [Act.put, List.setIfInBounds_toArray, List.set_cons_zero, List.set_cons_succ])
    | (refine SeqS.take1 (v := ?_) (by first | assumption | trivial) (by kernel_rfl) (by decide +kernel) (by decide +kernel) (Or.inl ⟨by rfl, ?_⟩) ?_
       rotate_left
       focus
         intro w' hb'
         go_simp
         with_reducible rfl
       simp only [Act.put, List.setIfInBounds_toArray, List.set_cons_zero, List.set_cons_succ])
    | (refine SeqS.take1 (v := undef) (by first | assumption | trivial) (by kernel_rfl) (by decide +kernel) (by decide +kernel) (Or.inr ⟨by rfl, rfl⟩) ?_
       simp only [Act.put, List.setIfInBounds_toArray, List.set_cons_zero, List.set_cons_succ])
    | (refine SeqS.take2 (v := .agg (ciCells F sb bk true true).toArray) (by first | assumption | trivial) (by kernel_rfl) (by decide +kernel) (by decide +kernel) (yields_blk (by rfl) 96 (.tmp 15) rfl rfl (fun w' h => CC.out w' h) (rowCi _ _ _ _ _)) ?_
       simp only [Act.put, List.setIfInBounds_toArray, List.set_cons_zero, List.set_cons_succ])
    | (refine SeqS.take2 (v := ?_) (by first | assumption | trivial) (by kernel_rfl) (by decide +kernel) (by decide +kernel) (Or.inl ⟨by rfl, ?_⟩) ?_
       rotate_left
       focus
         intro w' hb'
         go_simp
         with_reducible rfl
       simp only [Act.put, List.setIfInBounds_toArray, List.set_cons_zero, List.set_cons_succ])
    | (refine SeqS.take2 (v := undef) (by first | assumption | trivial) (by kernel_rfl) (by decide +kernel) (by decide +kernel) (Or.inr ⟨by rfl, rfl⟩) ?_
       simp only [Act.put, List.setIfInBounds_toArray, List.set_cons_zero, List.set_cons_succ]))
  refine SeqS.alone (by decide +kernel) (by rfl) (fun K hK => ?_)
  go_simp
  refine (plain_any 0 _ (by decide)).mono ?_
  rintro e v2 ⟨rfl, b2⟩
  have S2 : Below B w1 v2 := hS.trans (b2.mono (Nat.le_of_eq hBs.out.symm))
  go_simp
  refine hK _ _ S2 ?_
  clear hK K b2
  refine SeqS.alone (by decide +kernel) (by rfl) (fun K hK => ?_)
  go_simp
  refine (cEnc_any q F (ctr 0) v2 hFb (ctr_by 0) (CC.out v2 S2)).mono ?_
  rintro e v3 ⟨rfl, b3⟩
  have S3 : Below B w1 v3 := S2.trans (b3.mono (by have := S2.size; have := hBs.out; omega))
  go_simp
  refine hK _ _ S3 ?_
  clear hK K b3
  refine SeqS.take (v := .agg (kpCells F sb bk true true 0 (enc (keyAt F) (ctr 0))).toArray) S3 (by kernel_rfl) (by decide +kernel) (by decide +kernel) (yields_build (by rfl) 100 _ rfl (Eq.trans (congrArg (Program.built Tryz.prog 100) (by kernel_rfl)) (built_kp F sb bk true true _))) ?_
  simp only [Act.put, List.setIfInBounds_toArray, List.set_cons_zero, List.set_cons_succ]
  refine SeqS.take (v := .agg (stCells F 0 0).toArray) S3 (by kernel_rfl) (by decide +kernel) (by decide +kernel) (yields_build (by rfl) 102 _ rfl (Eq.trans (congrArg (Program.built Tryz.prog 102) (by kernel_rfl)) (built_st F))) ?_
  simp only [Act.put, List.setIfInBounds_toArray, List.set_cons_zero, List.set_cons_succ]
  refine SeqS.alone (by decide +kernel) (by rfl) (fun K hK => ?_)
  refine wp_box_blk 102 (.tmp 21) rfl (stCells F 0 0) rfl ?_
  have hN : StAt (v3.alloc (.cells (stCells F 0 0).toArray 102)) v3.heap.size F 0 := ⟨0, by decide, Blk.new v3 _ _⟩
  have S4 : Below B w1 (v3.alloc (.cells (stCells F 0 0).toArray 102)) := S3.trans ((below1 v3 _).mono (by have := S3.size; have := hBs.out; omega))
  obtain ⟨v4, hv4⟩ : ∃ v4, v3.alloc (.cells (stCells F 0 0).toArray 102) = v4 := ⟨_, rfl⟩
  have hgs : w.heap.size ≤ v3.heap.size := by have := S3.size; have := hBs.out; have := hwB.out; omega
  obtain ⟨g, hg⟩ : ∃ g, v3.heap.size = g := ⟨_, rfl⟩
  rw [hg] at hgs
  rw [hv4, hg] at hN ⊢
  rw [hv4] at S4
  refine hK _ _ S4 ?_
  clear hK K hv4 hg
  simp only [Act.put, List.setIfInBounds_toArray, List.set_cons_zero, List.set_cons_succ]
  repeat (first
    | (refine SeqS.take (v := ?_) (by first | assumption | trivial) (by kernel_rfl) (by decide +kernel) (by decide +kernel) (Or.inl ⟨by rfl, ?_⟩) ?_
       rotate_left
       focus
         intro w' hb'
         go_simp
         with_reducible rfl
       simp only [Act.put, List.setIfInBounds_toArray, List.set_cons_zero, List.set_cons_succ])
    | (refine SeqS.take (v := undef) (by first | assumption | trivial) (by kernel_rfl) (by decide +kernel) (by decide +kernel) (Or.inr ⟨by rfl, rfl⟩) ?_
       simp only [Act.put, List.setIfInBounds_toArray, List.set_cons_zero, List.set_cons_succ])
    | (refine SeqS.take1 (v := ?_) (by first | assumption | trivial) (by kernel_rfl) (by decide +kernel) (by decide +kernel) (Or.inl ⟨by rfl, ?_⟩) ?_
       rotate_left
       focus
         intro w' hb'
         go_simp
         with_reducible rfl
       simp only [Act.put, List.setIfInBounds_toArray, List.set_cons_zero, List.set_cons_succ])
    | (refine SeqS.take1 (v := undef) (by first | assumption | trivial) (by kernel_rfl) (by decide +kernel) (by decide +kernel) (Or.inr ⟨by rfl, rfl⟩) ?_
       simp only [Act.put, List.setIfInBounds_toArray, List.set_cons_zero, List.set_cons_succ])
    | (refine SeqS.take2 (v := ?_) (by first | assumption | trivial) (by kernel_rfl) (by decide +kernel) (by decide +kernel) (Or.inl ⟨by rfl, ?_⟩) ?_
       rotate_left
       focus
         intro w' hb'
         go_simp
         with_reducible rfl
       simp only [Act.put, List.setIfInBounds_toArray, List.set_cons_zero, List.set_cons_succ])
    | (refine SeqS.take2 (v := undef) (by first | assumption | trivial) (by kernel_rfl) (by decide +kernel) (by decide +kernel) (Or.inr ⟨by rfl, rfl⟩) ?_
       simp only [Act.put, List.setIfInBounds_toArray, List.set_cons_zero, List.set_cons_succ]))
  refine SeqS.done (by decide +kernel) ?_
  go_wp2
  go_ret2
  exact ⟨g, rfl, hgs, by rw [hF.out]; exact hN, hB.trans (S4.mono hwB.out)⟩
end Go.Proofs.YtagacpjeooaapaaGreatDoor

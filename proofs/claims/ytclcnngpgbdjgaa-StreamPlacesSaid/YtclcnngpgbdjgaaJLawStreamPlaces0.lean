/-
  Texts of stages that were proved on their own, joined: StreamEx, StreamMem, StreamPlain, CipherRefXor, CipherRefEnc. Each begins with its own words.
-/
import Derived.Test.YtclcnngpgbdjgaaCipherEx
import Derived.Test.YtclcnngpgbdjgaaCipherEnc
import Derived.Test.YtclcnngpgbdjgaaCipherRefNew
import Derived.Test.YtclcnngpgbdjgaaBlocks2

/-
  Layer 7's example, reckoned: the key of 32 bytes 0, its words, the block of 16 bytes 0 round by round, and what it is encrypted as: dc, 95, ..
-/
namespace Go.Proofs.Ytclcnngpgbdjgaa

def zxW : List Nat := [0, 0, 0, 0, 0, 0, 0, 0, 1650680675, 1650680675, 1650680675, 1650680675, 2868640763, 2868640763, 2868640763, 2868640763, 1869376719, 219090860, 1869376719, 219090860, 2106428778, 3614865041, 2106428778, 3614865041, 1398074817, 1583080045, 825724578, 1010336014, 2525659585, 1107097424, 1014069818, 3943107755, 2661977896, 3237047621, 4056343527, 3456000745, 724642783, 1791876239, 1455204021, 3183192606, 1678179666, 2767687703, 1429304304, 2563707161, 1841015051, 125203844, 1372246833, 3966859567, 3887130780, 1128757387, 376834939, 2394495586, 1961692065, 1939570213, 575778068, 3458257979, 284690967, 1405055644, 1170831847, 3413140357]
def zxS : List Nat := [0, 0, 0, 0, 0, 0, 0, 0, 0, 0, 0, 0, 0, 0, 0, 0, 99, 99, 99, 99, 99, 99, 99, 99, 99, 99, 99, 99, 99, 99, 99, 99, 153, 152, 152, 152, 153, 152, 152, 152, 153, 152, 152, 152, 153, 152, 152, 152, 167, 21, 21, 94, 167, 21, 21, 94, 167, 21, 21, 94, 167, 21, 21, 94, 61, 49, 51, 155, 95, 82, 80, 248, 61, 49, 51, 155, 95, 82, 80, 248, 177, 181, 244, 66, 71, 205, 228, 103, 177, 181, 244, 66, 71, 205, 228, 103, 62, 162, 105, 145, 36, 221, 49, 114, 92, 193, 10, 242, 70, 190, 82, 17, 84, 138, 161, 181, 36, 187, 33, 107, 248, 44, 183, 51, 95, 242, 121, 177, 154, 109, 79, 128, 92, 49, 57, 105, 190, 167, 206, 97, 244, 18, 108, 189, 227, 224, 215, 180, 135, 2, 38, 220, 44, 245, 194, 248, 97, 165, 39, 47, 239, 131, 238, 25, 250, 245, 110, 5, 53, 216, 137, 124, 211, 186, 41, 167, 2, 29, 33, 136, 143, 185, 15, 132, 34, 188, 92, 154, 128, 126, 230, 214, 79, 67, 92, 238, 64, 179, 62, 102, 135, 91, 107, 101, 54, 5, 76, 151, 39, 186, 159, 47, 43, 179, 100, 126, 200, 125, 16, 106, 21, 145, 99, 6, 220, 149, 192, 120, 162, 64, 137, 137, 173, 72, 162, 20, 146, 132, 32, 135]
theorem zxW_own : ∀ i < 8, own (bytesL 32 zf) i = zxW.getD i 0 := by decide +kernel
theorem zxW_next : ∀ n < 52, zxW.getD (8 + n) 0 = zxW.getD n 0 ^^^ chgT (8 + n) (zxW.getD (7 + n) 0) := by decide +kernel
theorem zxW_all : ∀ n, n ≤ 52 → ∀ i, i < 8 + n → kws (own (bytesL 32 zf)) n i = zxW.getD i 0 := by
  intro n
  induction n with
  | zero => intro _ i hi; exact zxW_own i (by omega)
  | succ n ih =>
    intro hn i hi
    show upd _ (8 + n) _ i = _
    unfold upd
    by_cases e : i = 8 + n
    · rw [if_pos e, ih (by omega) n (by omega), ih (by omega) (7 + n) (by omega), chg_exT, e, zxW_next n (by omega)]
    · rw [if_neg e, ih (by omega) i (by omega)]
def zxF : Nat → Nat := kb (kws (own (bytesL 32 zf)) 52)
theorem zxF_at (r i : Nat) (hr : r < 15) (hi : i < 16) : keyAt zxF r i = kb (fun j => zxW.getD j 0) (16 * r + i) := by
  show kb _ (16 * r + i) = _
  unfold kb
  rw [zxW_all 52 (Nat.le_refl _) _ (by omega)]
theorem zxS_zero : ∀ i < 16, zf i ^^^ kb (fun j => zxW.getD j 0) (16 * 0 + i) = zxS.getD i 0 := by decide +kernel
theorem zxS_byte : ∀ i < 240, zxS.getD i 0 < 256 := by decide +kernel
theorem zxS_next : ∀ r < 14, ∀ i < 16, mid (r + 1) (bTurn 1 (bSb (fun x => exT.getD x 0) (fun j => zxS.getD (16 * r + j) 0))) i ^^^ kb (fun j => zxW.getD j 0) (16 * (r + 1) + i) = zxS.getD (16 * (r + 1) + i) 0 := by decide +kernel
theorem zxS_all : ∀ r, r ≤ 14 → Ag 16 (encs (keyAt zxF) zf r) (fun i => zxS.getD (16 * r + i) 0) := by
  intro r
  induction r with
  | zero =>
    intro _ i hi
    show zf i ^^^ keyAt zxF 0 i = _
    rw [zxF_at 0 i (by decide) hi, zxS_zero i hi]
    show zxS.getD i 0 = zxS.getD (16 * 0 + i) 0
    rw [Nat.mul_zero, Nat.zero_add]
  | succ r ih =>
    intro hr i hi
    have h1 : Ag 16 (bSb sb (encs (keyAt zxF) zf r)) (bSb (fun x => exT.getD x 0) (fun j => zxS.getD (16 * r + j) 0)) := by
      intro j hj
      show sb (encs (keyAt zxF) zf r j) = exT.getD (zxS.getD (16 * r + j) 0) 0
      rw [ih (by omega) j hj]
      exact sb_exT _ (zxS_byte _ (by omega))
    have h2 := mid_ag (r := r + 1) (bTurn_ag (t := 1) h1) i hi
    show mid (r + 1) (bTurn 1 (bSb sb (encs (keyAt zxF) zf r))) i ^^^ keyAt zxF (r + 1) i = _
    rw [h2, zxF_at (r + 1) i (by omega) hi, zxS_next r (by omega) i hi]
theorem zx_first : enc (keyAt zxF) zf 0 = 220 := zxS_all 14 (Nat.le_refl _) 0 (by decide)
theorem zx_second : enc (keyAt zxF) zf 1 = 149 := zxS_all 14 (Nat.le_refl _) 1 (by decide)

/-! A key's stream: the block of eight bytes 0 and a number in eight bytes, the highest first; its encryption's bytes, one block behind the other. -/
/-- The block that is encrypted at the number n. -/
def ctr (n : Nat) : Nat → Nat := fun i => if i < 8 then 0 else n / 2 ^ (8 * (15 - i)) % 256
theorem ctr_by (n : Nat) : By (ctr n) := fun i => by
  unfold ctr
  split
  · decide
  · exact Nat.mod_lt _ (by decide)
theorem ctr_zero : Ag 16 (ctr 0) zf := fun i _ => by
  unfold ctr
  split
  · rfl
  · rw [Nat.zero_div]; rfl
/-- The stream's byte at a place, of round keys K. -/
def sby (K : Nat → Nat → Nat) (n : Nat) : Nat := enc K (ctr (n / 16)) (n % 16)
theorem sby_256 (K : Nat → Nat → Nat) (hK : ∀ r, By (K r)) (n : Nat) : sby K n < 256 := enc_by hK (ctr_by _) _
theorem sby_first : sby (keyAt zxF) 0 = 220 ∧ sby (keyAt zxF) 1 = 149 := by
  have h0 := encs_ag (K := keyAt zxF) ctr_zero 14 0 (by decide)
  have h1 := encs_ag (K := keyAt zxF) ctr_zero 14 1 (by decide)
  exact ⟨h0.trans zx_first, h1.trans zx_second⟩
end Go.Proofs.Ytclcnngpgbdjgaa

/-
  A stream in memory ('StAt'): its cipher, the block that was encrypted last, its place and its mark; Place and Seek, and what they come to of a stream that is nil or that no call made. Conditions: numbers below 2^64.
-/
namespace Go.Proofs.Ytclcnngpgbdjgaa
open Go.RowKit

/-- The cells of a stream of round keys F: the block of number n was encrypted last, it stands at p. -/
def stCells (F : Nat → Nat) (n p : Nat) : List Value := ciCells F sb bk true true ++ (.int .u64 (n : Int) :: (rowN 16 (enc (keyAt F) (ctr n)) ++ [.int .u64 (p : Int), .bool true]))
/-- Block g holds a stream of round keys F that stands at p. -/
def StAt (w : World) (g : Nat) (F : Nat → Nat) (p : Nat) : Prop := ∃ n, n < 18446744073709551616 ∧ Blk w g 52 (stCells F n p)
theorem stCells_len (F : Nat → Nat) (n p : Nat) : (stCells F n p).length = 773 := by simp [stCells, ciCells_len, rowN_len]
theorem stCells_ci (F : Nat → Nat) (n p i : Nat) (hi : i < 754) : (stCells F n p)[i]? = (ciCells F sb bk true true)[i]? := by
  unfold stCells
  rw [List.getElem?_append_left (by rw [ciCells_len]; exact hi)]
theorem stCells_num (F : Nat → Nat) (n p : Nat) : (stCells F n p)[754]? = some (.int .u64 (n : Int)) := by
  unfold stCells
  rw [List.getElem?_append_right (by rw [ciCells_len]; omega), ciCells_len]
  rfl
theorem stCells_blk (F : Nat → Nat) (n p i : Nat) (hi : i < 16) : (stCells F n p)[755 + i]? = some (.int .u8 (enc (keyAt F) (ctr n) i : Nat)) := by
  unfold stCells
  rw [List.getElem?_append_right (by rw [ciCells_len]; omega), ciCells_len, show 755 + i - 754 = i + 1 by omega, List.getElem?_cons_succ, List.getElem?_append_left (by rw [rowN_len]; exact hi), rowN_at 16 _ i hi]
theorem stCells_place (F : Nat → Nat) (n p : Nat) : (stCells F n p)[771]? = some (.int .u64 (p : Int)) := by
  unfold stCells
  rw [List.getElem?_append_right (by rw [ciCells_len]; omega), ciCells_len, show 771 - 754 = 16 + 1 from rfl, List.getElem?_cons_succ, List.getElem?_append_right (by rw [rowN_len]; omega), rowN_len]
  rfl
theorem stCells_made (F : Nat → Nat) (n p : Nat) : (stCells F n p)[772]? = some (.bool true) := by
  unfold stCells
  rw [List.getElem?_append_right (by rw [ciCells_len]; omega), ciCells_len, show 772 - 754 = 17 + 1 from rfl, List.getElem?_cons_succ, List.getElem?_append_right (by rw [rowN_len]; omega), rowN_len]
  rfl
theorem stCells_seek (F : Nat → Nat) (n p q : Nat) : (stCells F n p).set 771 (.int .u64 (q : Int)) = stCells F n q := by
  unfold stCells
  rw [List.set_append_right _ _ (by rw [ciCells_len]; omega), ciCells_len, show 771 - 754 = 16 + 1 from rfl, List.set_cons_succ, List.set_append_right _ _ (by rw [rowN_len]; omega), rowN_len]
  rfl
theorem StAt.lt {w : World} {g : Nat} {F : Nat → Nat} {p : Nat} (h : StAt w g F p) : g < w.heap.size := by
  obtain ⟨n, _, hb⟩ := h
  exact hb.lt
theorem StAt.keep {w w' : World} {g B : Nat} {F : Nat → Nat} {p : Nat} (h : StAt w g F p) (hb : Below B w w') (hg : g < B) : StAt w' g F p := by
  obtain ⟨n, hn, h⟩ := h
  exact ⟨n, hn, h.keep hb hg⟩
theorem StAt.grown {w w' : World} {g : Nat} {F : Nat → Nat} {p : Nat} {row : Option Nat} (h : StAt w g F p) (hb : w.grownBy w' row) (hg : some g ≠ row) : StAt w' g F p := by
  obtain ⟨n, hn, h⟩ := h
  exact ⟨n, hn, h.grown hb hg⟩
theorem StAt.drew {w : World} {g : Nat} {F : Nat → Nat} {p : Nat} (h : StAt w g F p) : StAt w.drew g F p := h
theorem StAt.made {w : World} {g : Nat} {F : Nat → Nat} {p : Nat} (h : StAt w g F p) : w.cell? ⟨g, 772, none⟩ = some (.bool true) := by
  obtain ⟨n, hn, h⟩ := h
  rw [h.cell, stCells_made]
theorem StAt.place {w : World} {g : Nat} {F : Nat → Nat} {p : Nat} (h : StAt w g F p) : w.cell? ⟨g, 771, none⟩ = some (.int .u64 (p : Int)) := by
  obtain ⟨n, hn, h⟩ := h
  rw [h.cell, stCells_place]
theorem StAt.frozen {w : World} {g : Nat} {F : Nat → Nat} {p : Nat} (h : StAt w g F p) (i : Nat) : w.frozen? ⟨g, i, none⟩ = false := by
  obtain ⟨n, hn, h⟩ := h
  exact Blk.frozen h i
theorem StAt.seek {w : World} {g : Nat} {F : Nat → Nat} {p : Nat} (h : StAt w g F p) (q : Nat) : StAt (w.setCell ⟨g, 771, none⟩ (.int .u64 (q : Int))) g F q := by
  obtain ⟨n, hn, h⟩ := h
  exact ⟨n, hn, (h.set 771 _).cast (stCells_seek F n p q)⟩

set_option maxHeartbeats 400000 in
theorem unm_nil (w : World) : Calls Try.prog 19 #[.pointer none] w fun e w' => e = .returned (.bool true) ∧ w = w' := by
  go_enter Try.func19, Try.ntmps19
  go_wp2
  go_ret
  exact ⟨rfl, rfl⟩

set_option maxHeartbeats 400000 in
theorem unm_at (g : Nat) (m : Bool) (w : World) (hm : w.cell? ⟨g, 772, none⟩ = some (.bool m)) : Calls Try.prog 19 #[.pointer (some ⟨g, 0, none⟩)] w fun e w' => e = .returned (.bool (!m)) ∧ w = w' := by
  go_enter Try.func19, Try.ntmps19
  go_wp2
  go_ret
  exact ⟨rfl, rfl⟩

set_option maxHeartbeats 400000 in
theorem place_nil (w : World) : Calls Try.prog 9 #[.pointer none] w fun e w' => e = .returned (.int .u64 0) ∧ w = w' := by
  go_enter Try.func9, Try.ntmps9
  go_wp2_with fail
  refine (unm_nil _).mono ?_
  rintro e w' ⟨rfl, rfl⟩
  go_wp2
  go_ret
  exact ⟨rfl, rfl⟩

set_option maxHeartbeats 400000 in
theorem place_un (g : Nat) (w : World) (hm : w.cell? ⟨g, 772, none⟩ = some (.bool false)) : Calls Try.prog 9 #[.pointer (some ⟨g, 0, none⟩)] w fun e w' => e = .returned (.int .u64 0) ∧ w = w' := by
  go_enter Try.func9, Try.ntmps9
  go_wp2_with fail
  refine (unm_at g false _ hm).mono ?_
  rintro e w' ⟨rfl, rfl⟩
  go_wp2
  go_ret
  exact ⟨rfl, rfl⟩

set_option maxHeartbeats 400000 in
theorem place_any (g : Nat) (F : Nat → Nat) (p : Nat) (w : World) (h : StAt w g F p) : Calls Try.prog 9 #[.pointer (some ⟨g, 0, none⟩)] w fun e w' => e = .returned (.int .u64 (p : Int)) ∧ w = w' := by
  have hp := h.place
  have hm := h.made
  go_enter Try.func9, Try.ntmps9
  go_wp2_with fail
  refine (unm_at g true _ hm).mono ?_
  rintro e w' ⟨rfl, rfl⟩
  go_wp2
  go_ret
  exact ⟨rfl, rfl⟩

set_option maxHeartbeats 400000 in
theorem seek_nil (n : Int) (w : World) : Calls Try.prog 11 #[.pointer none, .int .u64 n] w fun e w' => e = .returned (.tuple #[]) ∧ w = w' := by
  go_enter Try.func11, Try.ntmps11
  go_wp2_with fail
  refine (unm_nil _).mono ?_
  rintro e w' ⟨rfl, rfl⟩
  go_wp2
  (try simp only [Exit.inBlock, Exit.then]); refine bodyPost_ret (results_none rfl _ _ _) rfl ?_
  exact ⟨rfl, rfl⟩

set_option maxHeartbeats 400000 in
theorem seek_un (g : Nat) (n : Int) (w : World) (hm : w.cell? ⟨g, 772, none⟩ = some (.bool false)) : Calls Try.prog 11 #[.pointer (some ⟨g, 0, none⟩), .int .u64 n] w fun e w' => e = .returned (.tuple #[]) ∧ w = w' := by
  go_enter Try.func11, Try.ntmps11
  go_wp2_with fail
  refine (unm_at g false _ hm).mono ?_
  rintro e w' ⟨rfl, rfl⟩
  go_wp2
  (try simp only [Exit.inBlock, Exit.then]); refine bodyPost_ret (results_none rfl _ _ _) rfl ?_
  exact ⟨rfl, rfl⟩

set_option maxHeartbeats 400000 in
theorem seek_any (g : Nat) (F : Nat → Nat) (p n : Nat) (w : World) (h : StAt w g F p) : Calls Try.prog 11 #[.pointer (some ⟨g, 0, none⟩), .int .u64 (n : Int)] w fun e w' => e = .returned (.tuple #[]) ∧ StAt w' g F n ∧ w.grownBy w' (some g) := by
  have hp := h.place
  have hm := h.made
  have hf := h.frozen 771
  have hs := Lib.hid (h.seek n)
  go_enter Try.func11, Try.ntmps11
  go_wp2_with fail
  refine (unm_at g true _ hm).mono ?_
  rintro e w' ⟨rfl, rfl⟩
  go_wp2
  go_end0
  exact ⟨rfl, hs.out, grown_setCell _ g 771 _⟩
end Go.Proofs.Ytclcnngpgbdjgaa

/-
  The block of a number (eight bytes 0, and the number in eight bytes): what the call comes to. New memory alone is written. Conditions: the number is below 2^64.
-/
namespace Go.Proofs.Ytclcnngpgbdjgaa
open Go.RowKit

/-- The last k bytes of a number's block, ahead of them 0. -/
def dn (k n : Nat) : Nat → Nat := fun i => if i < 16 - k then 0 else ctr n i
theorem dn_zero (n : Nat) : Ag 16 (dn 0 n) zf := fun i hi => by unfold dn; rw [if_pos (by omega)]; rfl
theorem dn_all (n : Nat) : Ag 16 (dn 8 n) (ctr n) := fun i hi => by
  unfold dn ctr
  by_cases h : i < 8
  · rw [if_pos (by omega), if_pos h]
  · rw [if_neg (by omega)]
theorem dn_step (k n : Nat) (hk : k < 8) : upd (dn k n) (15 - k) (n / 2 ^ (8 * k) % 256) = dn (k + 1) n := by
  funext i
  unfold upd dn ctr
  by_cases e : i = 15 - k
  · rw [if_pos e, if_neg (by omega), if_neg (by omega), show 15 - i = k by omega]
  · rw [if_neg e]
    by_cases h : i < 16 - k
    · rw [if_pos h, if_pos (by omega)]
    · rw [if_neg h, if_neg (show ¬ i < 16 - (k + 1) by omega)]

set_option maxRecDepth 100000 in
set_option maxHeartbeats 1000000 in
theorem plain_any (n : Nat) (w : World) (hn : n < 18446744073709551616) :
    Calls Try.prog 18 #[.int .u64 (n : Int)] w fun e w' => e = .returned (.agg (rowN 16 (ctr n)).toArray) ∧ Below w.heap.size w w' := by
  go_enter Try.func18, Try.ntmps18
  go_wp2_with (with_reducible refine wpList_alloc_blk rfl 42 rfl zero16 ?_)
  obtain ⟨W0, hW0⟩ : ∃ W0, (w.alloc (.cells (rowN 16 zf).toArray 42)).alloc (.cells (rowN 16 zf).toArray 42) = W0 := ⟨_, rfl⟩
  obtain ⟨g, hg⟩ : ∃ g, w.heap.size = g := ⟨_, rfl⟩
  have hr0 : Blk W0 g 42 (rowN 16 zf) := by rw [← hW0, ← hg]; exact (Blk.new w _ _).alloc _
  have hx0 : Blk W0 (g + 1) 42 (rowN 16 (dn 0 n)) := by rw [rowN_congr (dn_zero n), ← hW0, ← hg]; exact Blk.new1 w _ _ _
  have hB0 : Below g w W0 := by rw [← hW0, ← hg]; exact below2 w _ _
  rw [hW0, hg]
  clear hW0
  have hg := Lib.hid hg
  have hn := Lib.hid hn
  go_loopw [5] (fun i wr => ∃ k : Nat, k ≤ 8 ∧ i = .int .i64 k ∧ Blk wr (g + 1) 42 (rowN 16 (dn k n)) ∧ Blk wr g 42 (rowN 16 zf) ∧ Below g w wr) (fun i _ => 8 - (intOf i).toNat)
  case atStart => exact ⟨0, by omega, rfl, hx0, hr0, hB0⟩
  case round =>
    clear hx0 hr0 hB0
    obtain ⟨k, hk, rfl, hx, hr, hB⟩ := hrel
    by_cases hlt : k < 8
    · obtain ⟨m, hm⟩ : ∃ m, 15 - k = m := ⟨_, rfl⟩
      obtain ⟨j, hj⟩ : ∃ j, 8 * k = j := ⟨_, rfl⟩
      have m1 : (15 : Int) - (k : Int) = (m : Int) := by omega
      have m2 : (8 : Int) * (k : Int) = (j : Int) := by omega
      have hml : m < 16 := by omega
      have cx := hx.cell m
      rw [rowN_at 16 _ m hml] at cx
      have fx : wr.frozen? ⟨g + 1, m, none⟩ = false := Blk.frozen hx m
      have hset := hx.set m (.int .u8 (n / 2 ^ (8 * k) % 256 : Nat))
      rw [rowN_set 16 _ _ _ hml, ← hm, dn_step k n hlt, hm, hj] at hset
      have hki : (k : Int) < 8 := by omega
      have hset := Lib.hid hset
      have hlt := Lib.hid hlt
      have hmi : (m : Int) < 16 := by omega
      have hji : (j : Int) < 64 := by omega
      clear hm hj hml hk
      go_wp2
      go_roundw
      case rel => exact ⟨k + 1, by have := hlt.out; omega, by go_num, hset.out, hr.far (p := ⟨g + 1, m, none⟩) (by simp) _, hB.setCell (p := ⟨g + 1, m, none⟩) (Nat.le_succ g) _⟩
      case measure => have := hlt.out; simp [intOf]; omega
    · obtain rfl : k = 8 := by omega
      have hx : Blk wr _ 42 (rowN 16 (ctr n)) := hx.cast (rowN_congr (dn_all n))
      go_wp2_with (first
        | ((refine wpList_load16 rfl (.tmp 3) rfl ?_ hx ?_); rfl)
        | ((refine wpList_store16 (new := ctr n) rfl (.tmp 2) (.tmp 17) rfl ?_ ?_ hr ?_); rfl; rfl; intro w9 hR9 hg9))
      (try simp only [Exit.inBlock, Exit.then])
      refine bodyPost_ret (results_blk rfl rfl hR9 (row16 _)) rfl ?_
      refine ⟨rfl, ?_⟩
      rw [hg.out]
      exact hB.trans (below_of_grown hg9 (Nat.le_refl g) hr.lt)
end Go.Proofs.Ytclcnngpgbdjgaa

/-
  The document's own sum of a block with a round key. New memory alone is written.
-/
namespace Go.Proofs.Ytclcnngpgbdjgaa
open Go.RowKit

theorem bytes_key' (W : Nat → Nat) (h : Wd W) (r : Nat) : bytesOf (wordsL 4 W (4 * r)) = bytesL 16 (keyAt (kb W) r) := by
  have h1 := congrArg (List.map (fun v => match v with | Value.int _ z => z | _ => 0)) (bytes_key W h r)
  rw [List.map_map] at h1
  have h2 : (bytesOf (wordsL 4 W (4 * r))).map ((fun v => match v with | Value.int _ z => z | _ => 0) ∘ Value.int .u8) = bytesOf (wordsL 4 W (4 * r)) := List.map_id _
  rw [h2] at h1
  rw [h1]
  simp [rowN, bytesL, keyAt]
theorem words_cut (n : Nat) (W : Nat → Nat) (s m : Nat) (h : s + m ≤ n) : ((wordsL n W 0).drop s).take m = wordsL m W s := by
  apply List.ext_getElem?
  intro i
  by_cases hi : i < m
  · rw [List.getElem?_take_of_lt hi, List.getElem?_drop]
    simp [wordsL, hi, show s + i < n by omega]
  · rw [List.getElem?_eq_none (by rw [List.length_take, List.length_drop, wordsL_len]; omega), List.getElem?_eq_none (by rw [wordsL_len]; omega)]

set_option maxRecDepth 100000 in
set_option maxHeartbeats 1000000 in
theorem rXor_any (wa : Option Addr) (wc : Nat) (ta : Option Addr) (tc : Nat) (W : Nat → Nat) (r : Nat) (ba : Option Addr) (bc : Nat) (b : Nat → Nat) (w : World)
    (hW : Ints .u32 w wa 60 wc (wordsL 60 W 0)) (hwd : Wd W) (hr : r < 15) (hb : Ints .u8 w ba 16 bc (bytesL 16 b)) (hby : By b) :
    Calls Try.prog 37 #[.agg #[.slice wa 60 wc, .slice ta 256 tc], .int .i64 (r : Int), .slice ba 16 bc] w fun e w' => ∃ oa oc, e = .returned (.slice oa 16 oc) ∧ Ints .u8 w' oa 16 oc (bytesL 16 (bAdd b (keyAt (kb W) r))) ∧ (∀ x, oa = some x → w.heap.size ≤ x.block) ∧ Below w.heap.size w w' := by
  obtain ⟨i0, hi, hz0, hz1, hz2⟩ := info_parts infoU8
  obtain ⟨g, hg⟩ : ∃ g, w.heap.size = g := ⟨_, rfl⟩
  obtain ⟨m, hm⟩ : ∃ m, 4 * r = m := ⟨_, rfl⟩
  have m1 : (4 : Int) * (r : Int) = (m : Int) := by omega
  have m2 : wrap64 (m : Int) = (m : Int) := w64' _ (by omega) (by omega)
  have m3 : wrap64 ((m : Int) + 4) = (m : Int) + 4 := w64' _ (by omega) (by omega)
  have hcut := hW.cut2 m (m + 4) (by omega) (by omega)
  rw [Nat.add_sub_cancel_left, words_cut 60 W m 4 (by omega)] at hcut
  have hml := Lib.hid (show m + 4 ≤ wc by have := hW.2.1; omega)
  have hmr := Lib.hid hm
  have hr15 : (r : Int) < 15 := by omega
  clear hr hm hW
  go_enter Try.func37, Try.ntmps37
  go_wp2_with (first | (refine wpList_cut2 rfl 59 66 (.tmp 11) (.tmp 13) (.tmp 16) rfl Try.underlying59 sizeU32' rfl (l := m) (h := m + 4) rfl rfl ?_ ?_ (Nat.le_add_right m 4) hml.out ?_; (first | rfl | omega); (first | rfl | omega); rw [Nat.add_sub_cancel_left]))
  have b1 := below1 w (.cells #[.slice wa 60 wc, .slice ta 256 tc] 61)
  refine (refBytes_any _ 4 _ (wordsL 4 W m) _ (hcut.keep b1) (wordsL_range hwd 4 m) (by decide)).mono ?_
  rintro e w2 ⟨kA, n, kc, rfl, hK2, b2⟩
  obtain rfl : n = 16 := by rw [← hK2.len, bytesOf_length, wordsL_len]
  rw [← hmr.out, bytes_key' W hwd r] at hK2
  have hB2 := b1.trans (b2.mono b1.size)
  have hb2 := hb.keep hB2
  obtain ⟨kb', koff, rfl, _⟩ := hK2.at (by decide)
  obtain ⟨bb, boff, rfl, _⟩ := hb2.at (by decide)
  obtain ⟨B, hB⟩ : ∃ B, w2.heap.size = B := ⟨_, rfl⟩
  have KC := Lib.hid (fun w' (h : Below B w2 w') (i : Nat) (hi : i < 16) => show w'.cell? ⟨kb', koff + i, none⟩ = some (.int .u8 (keyAt (kb W) r i : Nat)) by
    have h1 := (hK2.keep (by rw [hB]; exact h)).cell_at i hi
    rw [bytesL_at 16 _ i hi] at h1
    exact h1)
  have BC := Lib.hid (fun w' (h : Below B w2 w') (i : Nat) (hi : i < 16) => show w'.cell? ⟨bb, boff + i, none⟩ = some (.int .u8 (b i : Nat)) by
    have h1 := (hb2.keep (by rw [hB]; exact h)).cell_at i hi
    rw [bytesL_at 16 _ i hi] at h1
    exact h1)
  have hB := Lib.hid hB
  have hB2 := Lib.hid hB2
  have hby := Lib.hid hby
  clear hK2 hb2 b1 b2 hb hcut m1 m2 m3 hr15 hwd
  go_wp2
  go_loopw [8, 9] (fun o i wr => ∃ k : Nat, k ≤ 16 ∧ i = .int .i64 k ∧ wr.ownsRow B 5 1 o k (rowN k (bAdd b (keyAt (kb W) r))) ∧ Below B w2 wr) (fun _ i _ => 16 - (intOf i).toNat)
  case atStart => exact ⟨0, by omega, rfl, World.ownsRow_nil _ _ _ _, Below.refl _ _⟩
  case round =>
    obtain ⟨k, hk, rfl, hown, hB0⟩ := hrel
    by_cases hlt : k < 16
    · obtain ⟨bo, co, rfl⟩ : ∃ bo co, u8 = .slice bo k co := by
        obtain ⟨x, y, e, _⟩ := Ints.of_owns (xs := bytesL k (bAdd b (keyAt (kb W) r))) (by rw [bytesL_row]; exact hown)
        exact ⟨x, y, e⟩
      have hxor : bits .xor .u8 (b k : Int) (keyAt (kb W) r k : Int) = ((bAdd b (keyAt (kb W) r) k : Nat) : Int) := bits_xor8 _ _ (hby.out k) (kb_by W _)
      have hlt' := Lib.hid hlt
      have hki : (k : Int) < 16 := by omega
      obtain ⟨v, hv, hD⟩ := Draws.one wr
      have hB1 := hB0.trans (hD.below B)
      have hown : v.ownsRow B 5 1 (.slice bo k co) k (rowN k (bAdd b (keyAt (kb W) r))) := by rw [← hv]; exact hown
      clear hlt hk hB0
      go_wp2_with fail
      refine region_seqS (fun w' => Below B w2 w') (by kernel_rfl) (by rw [hv]; exact hB1) ?_
      simp only [pairs, Nat.reduceAdd]
      change SeqS _ _ _ _ _ _ _ _ wr.drew
      rw [hv]
      clear hv hD
      repeat (first
        | (refine SeqS.take (v := ?_) (by first | assumption | trivial) (by kernel_rfl) (by decide +kernel) (by decide +kernel) (Or.inl ⟨by rfl, ?_⟩) ?_
           rotate_left
           focus
             intro w' hb'
             have d0 := BC.out w' hb' k hlt'.out
             have d1 := KC.out w' hb' k hlt'.out
             go_simp
             with_reducible rfl
           simp only [Act.put, List.setIfInBounds_toArray, List.set_cons_zero, List.set_cons_succ])
        | (refine SeqS.take1 (v := ?_) (by first | assumption | trivial) (by kernel_rfl) (by decide +kernel) (by decide +kernel) (Or.inl ⟨by rfl, ?_⟩) ?_
           rotate_left
           focus
             intro w' hb'
             have d0 := BC.out w' hb' k hlt'.out
             have d1 := KC.out w' hb' k hlt'.out
             go_simp
             with_reducible rfl
           simp only [Act.put, List.setIfInBounds_toArray, List.set_cons_zero, List.set_cons_succ]))
      obtain ⟨z, hz⟩ : ∃ z, bAdd b (keyAt (kb W) r) k = z := ⟨_, rfl⟩
      rw [hz]
      refine SeqS.alone (by decide +kernel) (by rfl) (fun K hK => ?_)
      go_simp
      have hBs : B ≤ v.heap.size := Nat.le_trans (by have := hB.out; omega) hB1.size
      have hone := one_at v .u8 5 (z : Int)
      have hB2' := hB1.alloc hBs (.cells #[.int .u8 (z : Int)] 5)
      have hown2 := hown.alloc (.cells #[.int .u8 (z : Int)] 5)
      obtain ⟨v2, hv2⟩ : ∃ v2, v.alloc (.cells #[.int .u8 (z : Int)] 5) = v2 := ⟨_, rfl⟩
      rw [hv2] at hone hB2' hown2 ⊢
      have hBs2 : B ≤ v2.heap.size := by rw [← hv2]; simp; omega
      clear hv2
      refine hK _ _ hB2' ?_
      clear hK K
      refine SeqS.alone (by decide +kernel) (by rfl) (fun K hK => ?_)
      refine wp_append_ints (.tmp 23) (.tmp 33) 31 rfl B 5 i0 (.int .u8 0) 1 Try.underlying31 hi hz0 hz1 hz2 rfl rfl hown2 rfl hone ?_ ?_ hBs2 ?_
      · have := hlt'.out; unfold maxLen; omega
      · have := hlt'.out; omega
      intro v3 w3 hown3 hg3
      have hB3 := hB2'.grown hg3 hBs2 (fun j hj => (hown2.lt j hj).1)
      have hown3 : w3.ownsRow B 5 1 v3 (k + 1) (rowN (k + 1) (bAdd b (keyAt (kb W) r))) := by rw [rowN_snoc, hz]; exact hown3
      refine hK _ _ hB3 ?_
      clear hK K hown hown2 hone hB1 hB2' hg3
      (refine SeqS.take (v := ?_) (by first | assumption | trivial) (by kernel_rfl) (by decide +kernel) (by decide +kernel) (Or.inl ⟨by rfl, ?_⟩) ?_
       rotate_left
       focus
         intro w' hb'
         go_simp
         with_reducible rfl
       simp only [Act.put, List.setIfInBounds_toArray, List.set_cons_zero, List.set_cons_succ])
      refine SeqS.done (by decide +kernel) ?_
      clear hxor
      go_wp2
      go_roundw
      case rel => exact ⟨k + 1, by have := hlt'.out; omega, by go_num, hown3, hB3⟩
      case measure => have := hlt'.out; simp [intOf]; omega
    · obtain rfl : k = 16 := by omega
      go_wp2
      go_ret
      obtain ⟨b', c', rfl, hr⟩ := Ints.of_owns (xs := bytesL 16 (bAdd b (keyAt (kb W) r))) (by rw [bytesL_row]; exact hown)
      exact ⟨b', c', rfl, hr, fun x hx => Nat.le_trans (by have := hB.out; have := hB2.out.size; omega) (hown.lt x.block (by rw [hx]; rfl)).1, hB2.out.trans (hB0.mono (by have := hB.out; have := hB2.out.size; omega))⟩
end Go.Proofs.Ytclcnngpgbdjgaa

/-
  A block encrypted by the document's own words. New memory alone is written.
-/
namespace Go.Proofs.Ytclcnngpgbdjgaa
open Go.RowKit

theorem enc_arith (c i m p q s n x : Nat) (hc : c < 4) (hi : i < 4) (hm : 4 * c = m) (hp : m + i = p) (hq : c + i = q) (hs : q % 4 = s) (hn : 4 * s = n) (hx : n + i = x) :
    IntKind.i64.wrap (4 * (c : Int)) = (m : Int) ∧ IntKind.i64.wrap ((m : Int) + (i : Int)) = (p : Int) ∧ IntKind.i64.wrap ((c : Int) + (i : Int)) = (q : Int) ∧ (q : Int).tmod 4 = (s : Int) ∧ IntKind.i64.wrap (4 * (s : Int)) = (n : Int) ∧ IntKind.i64.wrap ((n : Int) + (i : Int)) = (x : Int) ∧ (x : Int) < 16 ∧ (p : Int) < 16 := by
  have h4 : s < 4 := by rw [← hs]; exact Nat.mod_lt _ (by decide)
  refine ⟨by rw [IntKind.wrap_i64]; omega, by rw [IntKind.wrap_i64]; omega, by rw [IntKind.wrap_i64]; omega, ?_, by rw [IntKind.wrap_i64]; omega, by rw [IntKind.wrap_i64]; omega, by omega, by omega⟩
  exact (rem4 q s hs).1
theorem tIx_of (c i m p q s n x : Nat) (hi : i < 4) (hm : 4 * c = m) (hp : m + i = p) (hq : c + i = q) (hs : q % 4 = s) (hn : 4 * s = n) (hx : n + i = x) : tIx 1 p = x := by
  unfold tIx
  rw [show p / 4 = c by omega, show p % 4 = i by omega, Nat.mul_one, hq, hs]
  omega
theorem own_keep {w w' : World} {b : Nat} {e : TypeId} {size : Nat} {v : Value} {n : Nat} {xs : List Value} (h : w.ownsRow b e size v n xs) (hb : Below w.heap.size w w') : w'.ownsRow b e size v n xs :=
  h.kept (grown_of_below hb none) (by cases hv : v.ownBlock <;> simp)
theorem bytes_cut (n : Nat) (F : Nat → Nat) (s m : Nat) (h : s + m ≤ n) : ((bytesL n F).drop s).take m = bytesL m (fun i => F (s + i)) := by
  apply List.ext_getElem?
  intro i
  by_cases hi : i < m
  · rw [List.getElem?_take_of_lt hi, List.getElem?_drop]
    simp [bytesL, hi, show s + i < n by omega]
  · rw [List.getElem?_eq_none (by rw [List.length_take, List.length_drop, bytesL_len]; omega), List.getElem?_eq_none (by rw [bytesL_len]; omega)]
theorem rowN_add (n m : Nat) (f : Nat → Nat) : rowN (n + m) f = rowN n f ++ rowN m (fun i => f (n + i)) := by
  apply List.ext_getElem?
  intro i
  by_cases hi : i < n + m
  · rw [rowN_at (n + m) f i hi]
    by_cases hn : i < n
    · rw [List.getElem?_append_left (by rw [rowN_len]; exact hn), rowN_at n f i hn]
    · rw [List.getElem?_append_right (by rw [rowN_len]; omega), rowN_len, rowN_at m _ _ (by omega), show n + (i - n) = i by omega]
  · rw [List.getElem?_eq_none (by rw [rowN_len]; omega), List.getElem?_eq_none (by rw [List.length_append, rowN_len, rowN_len]; omega)]

set_option maxRecDepth 100000 in
set_option maxHeartbeats 2000000 in
theorem rEnc_any (wa : Option Addr) (wc tb toff tc : Nat) (W : Nat → Nat) (ba : Option Addr) (bc : Nat) (b : Nat → Nat) (w : World)
    (hW : Ints .u32 w wa 60 wc (wordsL 60 W 0)) (hwd : Wd W) (hT : Ints .u8 w (some ⟨tb, toff, none⟩) 256 tc (bytesL 256 sb)) (hb : Ints .u8 w ba 16 bc (bytesL 16 b)) (hby : By b) :
    Calls Try.prog 23 #[.agg #[.slice wa 60 wc, .slice (some ⟨tb, toff, none⟩) 256 tc], .slice ba 16 bc] w fun e w' => ∃ oa oc, e = .returned (.slice oa 16 oc) ∧ Ints .u8 w' oa 16 oc (bytesL 16 (enc (keyAt (kb W)) b)) ∧ (∀ x, oa = some x → w.heap.size ≤ x.block) ∧ Below w.heap.size w w' := by
  obtain ⟨i0, hi, hz0, hz1, hz2⟩ := info_parts infoU8
  obtain ⟨g, hg⟩ : ∃ g, w.heap.size = g := ⟨_, rfl⟩
  go_enter Try.func23, Try.ntmps23
  go_wp2_with fail
  have b1 := below1 w (.cells #[.slice wa 60 wc, .slice (some ⟨tb, toff, none⟩) 256 tc] 61)
  have hG0 := Blk.new w 61 [.slice wa 60 wc, .slice (some ⟨tb, toff, none⟩) 256 tc]
  obtain ⟨W0, hW0⟩ : ∃ W0, w.alloc (.cells #[.slice wa 60 wc, .slice (some ⟨tb, toff, none⟩) 256 tc] 61) = W0 := ⟨_, rfl⟩
  change Blk (w.alloc (.cells #[.slice wa 60 wc, .slice (some ⟨tb, toff, none⟩) 256 tc] 61)) _ _ _ at hG0
  rw [hW0] at b1 hG0 ⊢
  have hW1 := hW.keep b1
  have hT1 := hT.keep b1
  have hb1 := hb.keep b1
  rw [hg] at b1 hG0
  obtain ⟨B, hB⟩ : ∃ B, W0.heap.size = B := ⟨_, rfl⟩
  have hgB : g < B := by rw [← hB]; exact hG0.lt
  have WW := Lib.hid (fun w' (h : Below B W0 w') => (hW1.keep (by rw [hB]; exact h) : Ints .u32 w' wa 60 wc (wordsL 60 W 0)))
  have TT := Lib.hid (fun w' (h : Below B W0 w') => (hT1.keep (by rw [hB]; exact h) : Ints .u8 w' (some ⟨tb, toff, none⟩) 256 tc (bytesL 256 sb)))
  have GG := Lib.hid (fun w' (h : Below B W0 w') => (hG0.keep h hgB : Blk w' g 61 [.slice wa 60 wc, .slice (some ⟨tb, toff, none⟩) 256 tc]))
  have hB := Lib.hid hB
  have hgB := Lib.hid hgB
  have b1 := Lib.hid b1
  have hwd := Lib.hid hwd
  clear hW0 hW hT hb hW1 hT1 hG0
  refine (rXor_any wa wc (some ⟨tb, toff, none⟩) tc W 0 ba bc b W0 (WW.out W0 (Below.refl _ _)) hwd.out (by decide) hb1 hby).mono ?_
  rintro e w2 ⟨oa, oc, rfl, hO, nO, h2⟩
  rw [hB.out] at h2 nO
  have nO := Lib.hid nO
  clear hb1
  have hby := Lib.hid hby
  go_wp2
  go_loopw [1, 5] (fun o i wr => ∃ (r : Nat) (oa : Option Addr) (oc : Nat), 1 ≤ r ∧ r ≤ 15 ∧ i = .int .i64 r ∧ o = .slice oa 16 oc ∧ Ints .u8 wr oa 16 oc (bytesL 16 (encs (keyAt (kb W)) b (r - 1))) ∧ (∀ x, oa = some x → B ≤ x.block) ∧ Below B W0 wr) (fun _ i _ => 15 - (intOf i).toNat)
  case atStart => exact ⟨1, oa, oc, by omega, by omega, rfl, rfl, hO, nO.out, h2⟩
  case round =>
    clear hO h2 nO
    obtain ⟨r, oa, oc, hr1, hk, rfl, rfl, hO, nO, hBr⟩ := hrel
    have nO := Lib.hid nO
    by_cases hlt : r < 15
    · have hcb := encs_by (fun r => keyAt_by (kb_by W) r) hby.out (r - 1)
      obtain ⟨c, hc⟩ : ∃ c, encs (keyAt (kb W)) b (r - 1) = c := ⟨_, rfl⟩
      have hnx : encs (keyAt (kb W)) b r = crnd (keyAt (kb W)) r c := by
        obtain ⟨k, rfl⟩ : ∃ k, r = k + 1 := ⟨r - 1, by omega⟩
        rw [← hc]; rfl
      rw [hc] at hO hcb
      have hnx := Lib.hid hnx
      have hcb := Lib.hid hcb
      have hr1 := Lib.hid hr1
      have hlt' := Lib.hid hlt
      have hri : (r : Int) ≤ 14 := by omega
      clear hc hk hlt
      have hBs : B ≤ wr.heap.size := Nat.le_trans (by have := hB.out; omega) hBr.size
      go_wp2_with (at_make; refine wpList_make_two rfl _ _ 31 rfl wr.heap.size 5 i0 (.int .u8 0) Try.underlying31 hi hz0 hz1 rfl (n := 16) (C := 16) rfl rfl rfl rfl (Nat.le_refl _) ?_ ?_ (Nat.le_refl _) ?_; (rw [hz2]; decide); (unfold maxLen; decide); intro V hownV hkV hgV; refine RowKit.Hid.out ?_)
      refine Lib.hid ?_
      rw [rep_zero] at hkV
      have bV : Below wr.heap.size wr V := (Below.refl _ wr).grown hgV (Nat.le_refl _) (fun j hj => by cases hj)
      obtain ⟨S, hS⟩ : ∃ S, wr.heap.size = S := ⟨_, rfl⟩
      rw [hS] at hkV hBs ⊢
      obtain ⟨ob, ooff, rfl, _⟩ := hO.at (by decide)
      have hobl : ob < S := by rw [← hS]; exact World.block_lt_of_cell? wr _ (hO.cell_at 0 (by decide))
      have hO := hO.keep bV
      rw [hS] at bV
      have hSV : S < V.heap.size := hkV.lt
      have hBV := hBr.trans (bV.mono hBs)
      have OO := Lib.hid (fun w' (h : Below S V w') (i : Nat) (hi : i < 16) => show w'.cell? ⟨ob, ooff + i, none⟩ = some (.int .u8 (c i : Nat)) by
        have h1 := hO.cell_at i hi
        rw [bytesL_at 16 _ i hi] at h1
        exact (h.cell (p := ⟨ob, ooff + i, none⟩) hobl).trans h1)
      have BW := Lib.hid (fun w' (h : Below S V w') => hBV.trans (h.mono hBs))
      have T1 := Lib.hid (fun w' (h : Below S V w') (i : Nat) (hi : i < 256) => show w'.cell? ⟨tb, toff + i, none⟩ = some (.int .u8 (sb i : Nat)) by
        have h1 := (TT.out w' (hBV.trans (h.mono hBs))).cell_at i hi
        rw [bytesL_at 256 _ i hi] at h1
        exact h1)
      have G1 := Lib.hid (fun w' (h : Below S V w') => show w'.cell? ⟨g, 1, none⟩ = some (.slice (some ⟨tb, toff, none⟩) 256 tc) from (GG.out w' (hBV.trans (h.mono hBs))).cell 1)
      have hk0 : Blk V S 5 (rowN 16 (upto (4 * 0) (bTurn 1 (bSb sb c)) zf)) := by rw [upto_zero]; exact hkV
      have hBs' := Lib.hid hBs
      have hSV := Lib.hid hSV
      clear hownV hgV bV hkV hobl hO hBs hBr hBV
      go_wp2
      go_loopw [7] (fun i wr => ∃ k : Nat, k ≤ 4 ∧ i = .int .i64 k ∧ Blk wr S 5 (rowN 16 (upto (4 * k) (bTurn 1 (bSb sb c)) zf)) ∧ Below S V wr) (fun i _ => 4 - (intOf i).toNat)
      case atStart => exact ⟨0, by omega, rfl, hk0, Below.refl _ _⟩
      case round =>
        clear hk0
        obtain ⟨k, hk4, rfl, hx, hBc⟩ := hrel
        by_cases hlt4 : k < 4
        · have hki : (k : Int) < 4 := by omega
          have hk0 : Blk wr S 5 (rowN 16 (upto (4 * k + 0) (bTurn 1 (bSb sb c)) zf)) := hx
          have hlt4' := Lib.hid hlt4
          clear hx hk4
          obtain ⟨wq, rfl⟩ : ∃ wq : World, wq = wr := ⟨_, rfl⟩
          go_wp2
          go_loopw [8] (fun i wr => ∃ j : Nat, j ≤ 4 ∧ i = .int .i64 j ∧ Blk wr S 5 (rowN 16 (upto (4 * k + j) (bTurn 1 (bSb sb c)) zf)) ∧ Below S V wr) (fun i _ => 4 - (intOf i).toNat)
          case atStart => exact ⟨0, by omega, rfl, hk0, hBc⟩
          case round =>
            clear hk0 hBc
            obtain ⟨j, hj4, rfl, hx, hBc⟩ := hrel
            by_cases hltj : j < 4
            · obtain ⟨m, hm⟩ : ∃ m, 4 * k = m := ⟨_, rfl⟩
              obtain ⟨p, hp⟩ : ∃ p, m + j = p := ⟨_, rfl⟩
              obtain ⟨q, hq⟩ : ∃ q, k + j = q := ⟨_, rfl⟩
              obtain ⟨s, hs⟩ : ∃ s, q % 4 = s := ⟨_, rfl⟩
              obtain ⟨n, hn⟩ : ∃ n, 4 * s = n := ⟨_, rfl⟩
              obtain ⟨x, hxx⟩ : ∃ x, n + j = x := ⟨_, rfl⟩
              have htx := tIx_of k j m p q s n x hltj hm hp hq hs hn hxx
              have h4s : s < 4 := by rw [← hs]; exact Nat.mod_lt _ (by decide)
              have hxl : x < 16 := by omega
              have hpl : p < 16 := by have := hlt4'.out; omega
              obtain ⟨a1, a2, a3, a4, a5, a6, a7, a8⟩ := enc_arith k j m p q s n x hlt4'.out hltj hm hp hq hs hn hxx
              obtain ⟨v, hv, hD⟩ := Draws.one wr
              have hx := hD.blk hx
              have hBc := hBc.trans (hD.below S)
              have cb := OO.out v hBc x hxl
              obtain ⟨y, hy⟩ : ∃ y, c x = y := ⟨_, rfl⟩
              have hyl : y < 256 := by rw [← hy]; exact hcb.out x
              rw [hy] at cb
              have ct := T1.out v hBc y hyl
              have cg := G1.out v hBc
              obtain ⟨z, hz⟩ : ∃ z, sb y = z := ⟨_, rfl⟩
              rw [hz] at ct
              have hF : bTurn 1 (bSb sb c) p = z := by show sb (c (tIx 1 p)) = z; rw [htx, hy, hz]
              rw [show 4 * k + j = p by omega] at hx
              have cs := hx.cell p
              rw [rowN_at 16 _ p hpl] at cs
              have fs : v.frozen? ⟨S, p, none⟩ = false := Blk.frozen hx p
              have hset := hx.set p (.int .u8 (z : Nat))
              rw [rowN_set 16 _ _ _ hpl, upto_step _ _ _ _ hF] at hset
              have hpn : 4 * k + (j + 1) = p + 1 := by omega
              have hyi : (y : Int) < 256 := by omega
              have hji : (j : Int) < 4 := by omega
              have hset := Lib.hid hset
              have hpn := Lib.hid hpn
              have hltj' := Lib.hid hltj
              clear hm hp hq hs hn hxx htx h4s hxl hpl hy hyl hz hF hltj hj4
              go_wp2_with fail
              refine wp_region_still_tail 20 (by kernel_rfl) (by decide +kernel) ?_
              simp only [List.take_succ_cons, List.take_zero, List.drop_succ_cons, List.drop_zero]
              change wpStill _ _ wr.drew _ _ _
              rw [hv]
              repeat still_step
              refine wpStill_nil ?_
              change wpList _ _ _ _ _ wr.drew
              rw [hv]
              clear hv hD a1 a2 a3 a4 a5 a6 cb ct cg
              go_wp2
              go_roundw
              case rel => exact ⟨j + 1, by have := hltj'.out; omega, by go_num, by rw [hpn.out]; exact hset.out, hBc.setCell (p := ⟨S, p, none⟩) (Nat.le_refl S) _⟩
              case measure => have := hltj'.out; simp [intOf]; omega
            · obtain rfl : j = 4 := by omega
              go_wp2
              go_roundw
              case rel => exact ⟨k + 1, by have := hlt4'.out; omega, by go_num, hx, hBc⟩
              case measure => have := hlt4'.out; simp [intOf]; omega
        · obtain rfl : k = 4 := by omega
          rw [show ((4 : Nat) : Int) = 4 from rfl]
          have hx : Blk wr S 5 (rowN 16 (bTurn 1 (bSb sb c))) := hx.cast (rowN_congr (upto_all 16 _ zf))
          obtain ⟨F, hF⟩ : ∃ F, bTurn 1 (bSb sb c) = F := ⟨_, rfl⟩
          have hFb : By F := by rw [← hF]; exact bTurn_by (bSb_by sb_256)
          rw [hF] at hx
          have hnx : Hid (encs (keyAt (kb W)) b r = bAdd (mid r F) (keyAt (kb W) r)) := Lib.hid (by rw [← hF]; exact hnx.out)
          have hFb := Lib.hid hFb
          obtain ⟨V2, rfl⟩ : ∃ V2 : World, V2 = wr := ⟨_, rfl⟩
          have hBV2 := BW.out V2 hBc
          have hIF : Ints .u8 V2 (some ⟨S, 0, none⟩) 16 16 (bytesL 16 F) := by
            have := Ints.row (o := 0) (cap := 16) hx 16 (by decide) (by decide)
            rw [show (fun i => F (0 + i)) = F by funext i; rw [Nat.zero_add]] at this
            exact this
          have hsz : B ≤ V2.heap.size := Nat.le_trans (by have := hB.out; omega) hBV2.size
          clear hF hx OO T1 G1 BW hBc
          by_cases hl : r < 14
          · have hli : (r : Int) < 14 := by omega
            have hl := Lib.hid hl
            obtain ⟨E, hE⟩ : ∃ E, V2.heap.size = E := ⟨_, rfl⟩
            have II := Lib.hid (fun w' (h : Below E V2 w') => (hIF.keep (by rw [hE]; exact h) : Ints .u8 w' (some ⟨S, 0, none⟩) 16 16 (bytesL 16 F)))
            have BB := Lib.hid (fun w' (h : Below E V2 w') => hBV2.trans (h.mono (by rw [← hE]; exact hsz)))
            have hE := Lib.hid hE
            have hsz0 := Lib.hid hsz
            clear hIF hsz
            go_wp2
            go_loopw [9, 10] (fun o i wr => ∃ k : Nat, k ≤ 4 ∧ i = .int .i64 k ∧ wr.ownsRow E 5 1 o (4 * k) (rowN (4 * k) (bCols mixc F)) ∧ Below E V2 wr) (fun _ i _ => 4 - (intOf i).toNat)
            case atStart => exact ⟨0, by omega, rfl, World.ownsRow_nil _ _ _ _, Below.refl _ _⟩
            case round =>
              obtain ⟨k, hk4, rfl, hown, hBe⟩ := hrel
              by_cases hlt4 : k < 4
              · obtain ⟨m, hm⟩ : ∃ m, 4 * k = m := ⟨_, rfl⟩
                have m1 : (4 : Int) * (k : Int) = (m : Int) := by omega
                have m2 : wrap64 (m : Int) = (m : Int) := w64' _ (by omega) (by omega)
                have m3 : wrap64 ((m : Int) + 4) = (m : Int) + 4 := w64' _ (by omega) (by omega)
                have hml : m + 4 ≤ 16 := by omega
                have hcut := (II.out wr hBe).cut2 m (m + 4) (by omega) hml
                rw [Nat.add_sub_cancel_left, bytes_cut 16 F m 4 hml] at hcut
                rw [hm] at hown
                have hcol : Hid (rowN m (bCols mixc F) ++ (bytesL 4 (mixc (fun i => F (m + i)))).map (Value.int .u8) = rowN (m + 4) (bCols mixc F)) := Lib.hid (by
                  rw [bytesL_row, rowN_add]
                  congr 1
                  refine rowN_congr (fun i hi => ?_)
                  unfold bCols colOf
                  rw [show (m + i) / 4 = k by omega, show (m + i) % 4 = i by omega, hm])
                have hmn : 4 * (k + 1) = m + 4 := by omega
                have hmn := Lib.hid hmn
                have hml := Lib.hid hml
                have hlt4' := Lib.hid hlt4
                have hki : (k : Int) < 4 := by omega
                have hEs : E ≤ wr.heap.size := Nat.le_trans (by have := hE.out; omega) hBe.size
                have hEs := Lib.hid hEs
                clear hm hlt4 hk4
                go_wp2_with (refine wpList_cut2 rfl 31 5 (.tmp 54) (.tmp 56) (.tmp 59) rfl Try.underlying31 sizeU8' rfl (l := m) (h := m + 4) rfl rfl ?_ ?_ (Nat.le_add_right m 4) hml.out ?_; (first | rfl | omega); (first | rfl | omega); rw [Nat.add_sub_cancel_left])
                refine (rMix_any _ (16 - m) (fun i => F (m + i)) wr hcut (fun _ => hFb.out _)).mono ?_
                rintro e w5 ⟨b5, c5, rfl, hM, bM⟩
                have hown5 := own_keep hown bM
                have hB5 := hBe.trans (bM.mono hEs.out)
                have hE5 : E ≤ w5.heap.size := Nat.le_trans hEs.out bM.size
                clear bM hcut hown hBe m1 m2 m3
                go_wp2_with (at_builtin; refine wpList_append_ints rfl (.tmp 53) (.tmp 61) 31 rfl E 5 i0 (.int .u8 0) 1 Try.underlying31 hi hz0 hz1 hz2 rfl rfl hown5 rfl hM ?_ ?_ hE5 ?_; (have := hml.out; unfold maxLen; omega); (have := hml.out; omega); intro v6 w6 hown6 hg6; refine RowKit.Hid.out ?_)
                refine Lib.hid ?_
                rw [hcol.out] at hown6
                have hB6 := hB5.grown hg6 hE5 (fun j hj => (hown5.lt j hj).1)
                clear hown5 hM hg6 hB5 hcol
                go_wp2
                go_roundw
                case rel => exact ⟨k + 1, by have := hlt4'.out; omega, by go_num, by rw [hmn.out]; exact hown6, hB6⟩
                case measure => have := hlt4'.out; simp [intOf]; omega
              · obtain rfl : k = 4 := by omega
                obtain ⟨sa, sc, rfl, hIs⟩ := Ints.of_owns (xs := bytesL 16 (bCols mixc F)) (by rw [bytesL_row]; exact hown)
                have hFb : Hid (By (bCols mixc F)) := Lib.hid (bCols_by hFb.out (fun _ => mixc_by))
                have hBw := BB.out wr hBe
                have hsz : B ≤ wr.heap.size := Nat.le_trans (by have := hB.out; omega) hBw.size
                clear hown
                have gg := GG.out wr hBw
                have gc0 := gg.cell 0
                have gc1 := gg.cell 1
                simp only [List.getElem?_cons_zero, List.getElem?_cons_succ] at gc0 gc1
                clear gg
                go_wp2_with fail
                refine (rXor_any wa wc (some ⟨tb, toff, none⟩) tc W r sa sc (bCols mixc F) wr (WW.out wr hBw) hwd.out hlt'.out hIs hFb.out).mono ?_
                rintro e w9 ⟨oa9, oc9, rfl, hO9, n9, b9⟩
                have n9 := Lib.hid n9
                have hB9 := (hBw).trans (b9.mono hsz)
                have hE9 : bytesL 16 (bAdd (bCols mixc F) (keyAt (kb W) r)) = bytesL 16 (encs (keyAt (kb W)) b r) := by rw [hnx.out, mid, if_pos hl.out]
                rw [hE9] at hO9
                clear b9 gc0 gc1
                go_wp2
                go_roundw
                case rel => exact ⟨r + 1, oa9, oc9, by omega, by have := hlt'.out; omega, by go_num, rfl, by rw [Nat.add_sub_cancel]; exact hO9, fun x hx => Nat.le_trans hsz (n9.out x hx), hB9⟩
                case measure => have := hlt'.out; simp [intOf]; omega
          · have hli : ¬ (r : Int) < 14 := by omega
            have hl := Lib.hid hl
            have gg := GG.out V2 hBV2
            have gc0 := gg.cell 0
            have gc1 := gg.cell 1
            simp only [List.getElem?_cons_zero, List.getElem?_cons_succ] at gc0 gc1
            clear gg
            go_wp2_with fail
            refine (rXor_any wa wc (some ⟨tb, toff, none⟩) tc W r (some ⟨S, 0, none⟩) 16 (F) V2 (WW.out V2 hBV2) hwd.out hlt'.out hIF hFb.out).mono ?_
            rintro e w9 ⟨oa9, oc9, rfl, hO9, n9, b9⟩
            have n9 := Lib.hid n9
            have hB9 := (hBV2).trans (b9.mono hsz)
            have hE9 : bytesL 16 (bAdd (F) (keyAt (kb W) r)) = bytesL 16 (encs (keyAt (kb W)) b r) := by rw [hnx.out, mid, if_neg hl.out]
            rw [hE9] at hO9
            clear b9 gc0 gc1
            go_wp2
            go_roundw
            case rel => exact ⟨r + 1, oa9, oc9, by omega, by have := hlt'.out; omega, by go_num, rfl, by rw [Nat.add_sub_cancel]; exact hO9, fun x hx => Nat.le_trans hsz (n9.out x hx), hB9⟩
            case measure => have := hlt'.out; simp [intOf]; omega
    · obtain rfl : r = 15 := by omega
      have hO : Ints .u8 wr oa 16 oc (bytesL 16 (enc (keyAt (kb W)) b)) := hO
      go_wp2
      go_ret
      refine ⟨oa, oc, rfl, hO, fun x hx => by have := nO.out x hx; have := hgB.out; omega, ?_⟩
      rw [hg]
      exact b1.out.trans (hBr.mono (Nat.le_of_lt hgB.out))
end Go.Proofs.Ytclcnngpgbdjgaa

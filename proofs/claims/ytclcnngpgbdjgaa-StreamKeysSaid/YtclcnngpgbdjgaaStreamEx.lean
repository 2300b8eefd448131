/-
  Layer 7's example, reckoned: the key of 32 bytes 0, its words, the block of 16 bytes 0 round by round, and what it is encrypted as: dc, 95, ..
-/
import Derived.Test.YtclcnngpgbdjgaaCipherEx
namespace Go.Proofs.Ytclcnngpgbdjgaa

def zxW : List Nat := [0, 0, 0, 0, 0, 0, 0, 0, 1650680675, 1650680675, 1650680675, 1650680675, 2868640763, 2868640763, 2868640763, 2868640763, 1869376719, 219090860, 1869376719, 219090860, 2106428778, 3614865041, 2106428778, 3614865041, 1398074817, 1583080045, 825724578, 1010336014, 2525659585, 1107097424, 1014069818, 3943107755, 2661977896, 3237047621, 4056343527, 3456000745, 724642783, 1791876239, 1455204021, 3183192606, 1678179666, 2767687703, 1429304304, 2563707161, 1841015051, 125203844, 1372246833, 3966859567, 3887130780, 1128757387, 376834939, 2394495586, 1961692065, 1939570213, 575778068, 3458257979, 284690967, 1405055644, 1170831847, 3413140357]
def zxS : List Nat := [0, 0, 0, 0, 0, 0, 0, 0, 0, 0, 0, 0, 0, 0, 0, 0, 99, 99, 99, 99, 99, 99, 99, 99, 99, 99, 99, 99, 99, 99, 99, 99, 153, 152, 152, 152, 153, 152, 152, 152, 153, 152, 152, 152, 153, 152, 152, 152, 167, 21, 21, 94, 167, 21, 21, 94, 167, 21, 21, 94, 167, 21, 21, 94, 61, 49, 51, 155, 95, 82, 80, 248, 61, 49, 51, 155, 95, 82, 80, 248, 177, 181, 244, 66, 71, 205, 228, 103, 177, 181, 244, 66, 71, 205, 228, 103, 62, 162, 105, 145, 36, 221, 49, 114, 92, 193, 10, 242, 70, 190, 82, 17, 84, 138, 161, 181, 36, 187, 33, 107, 248, 44, 183, 51, 95, 242, 121, 177, 154, 109, 79, 128, 92, 49, 57, 105, 190, 167, 206, 97, 244, 18, 108, 189, 227, 224, 215, 180, 135, 2, 38, 220, 44, 245, 194, 248, 97, 165, 39, 47, 239, 131, 238, 25, 250, 245, 110, 5, 53, 216, 137, 124, 211, 186, 41, 167, 2, 29, 33, 136, 143, 185, 15, 132, 34, 188, 92, 154, 128, 126, 230, 214, 79, 67, 92, 238, 64, 179, 62, 102, 135, 91, 107, 101, 54, 5, 76, 151, 39, 186, 159, 47, 43, 179, 100, 126, 200, 125, 16, 106, 21, 145, 99, 6, 220, 149, 192, 120, 162, 64, 137, 137, 173, 72, 162, 20, 146, 132, 32, 135]
theorem zxW_own : ∀ i < 8, own (bytesL 32 zf) i = zxW.getD i 0 := by decide +kernel
theorem zxW_next : ∀ n < 52, zxW.getD (8 + n) 0 = zxW.getD n 0 ^^^ chgT (8 + n) (zxW.getD (7 + n) 0) := by decide +kernel
theorem zxW_all : ∀ n, n ≤ 52 → ∀ i, i < 8 + n → kws (own (bytesL 32 zf)) n i = zxW.getD i 0 := by
  intro n
  induction n with
  | zero => intro _ i hi; exact zxW_own i (by omega)
  | succ n ih =>
    intro hn i hi
    show upd _ (8 + n) _ i = _
    unfold upd
    by_cases e : i = 8 + n
    · rw [if_pos e, ih (by omega) n (by omega), ih (by omega) (7 + n) (by omega), chg_exT, e, zxW_next n (by omega)]
    · rw [if_neg e, ih (by omega) i (by omega)]
def zxF : Nat → Nat := kb (kws (own (bytesL 32 zf)) 52)
theorem zxF_at (r i : Nat) (hr : r < 15) (hi : i < 16) : keyAt zxF r i = kb (fun j => zxW.getD j 0) (16 * r + i) := by
  show kb _ (16 * r + i) = _
  unfold kb
  rw [zxW_all 52 (Nat.le_refl _) _ (by omega)]
theorem zxS_zero : ∀ i < 16, zf i ^^^ kb (fun j => zxW.getD j 0) (16 * 0 + i) = zxS.getD i 0 := by decide +kernel
theorem zxS_byte : ∀ i < 240, zxS.getD i 0 < 256 := by decide +kernel
theorem zxS_next : ∀ r < 14, ∀ i < 16, mid (r + 1) (bTurn 1 (bSb (fun x => exT.getD x 0) (fun j => zxS.getD (16 * r + j) 0))) i ^^^ kb (fun j => zxW.getD j 0) (16 * (r + 1) + i) = zxS.getD (16 * (r + 1) + i) 0 := by decide +kernel
theorem zxS_all : ∀ r, r ≤ 14 → Ag 16 (encs (keyAt zxF) zf r) (fun i => zxS.getD (16 * r + i) 0) := by
  intro r
  induction r with
  | zero =>
    intro _ i hi
    show zf i ^^^ keyAt zxF 0 i = _
    rw [zxF_at 0 i (by decide) hi, zxS_zero i hi]
    show zxS.getD i 0 = zxS.getD (16 * 0 + i) 0
    rw [Nat.mul_zero, Nat.zero_add]
  | succ r ih =>
    intro hr i hi
    have h1 : Ag 16 (bSb sb (encs (keyAt zxF) zf r)) (bSb (fun x => exT.getD x 0) (fun j => zxS.getD (16 * r + j) 0)) := by
      intro j hj
      show sb (encs (keyAt zxF) zf r j) = exT.getD (zxS.getD (16 * r + j) 0) 0
      rw [ih (by omega) j hj]
      exact sb_exT _ (zxS_byte _ (by omega))
    have h2 := mid_ag (r := r + 1) (bTurn_ag (t := 1) h1) i hi
    show mid (r + 1) (bTurn 1 (bSb sb (encs (keyAt zxF) zf r))) i ^^^ keyAt zxF (r + 1) i = _
    rw [h2, zxF_at (r + 1) i (by omega) hi, zxS_next r (by omega) i hi]
theorem zx_first : enc (keyAt zxF) zf 0 = 220 := zxS_all 14 (Nat.le_refl _) 0 (by decide)
theorem zx_second : enc (keyAt zxF) zf 1 = 149 := zxS_all 14 (Nat.le_refl _) 1 (by decide)

/-! A key's stream: the block of eight bytes 0 and a number in eight bytes, the highest first; its encryption's bytes, one block behind the other. -/
/-- The block that is encrypted at the number n. -/
def ctr (n : Nat) : Nat → Nat := fun i => if i < 8 then 0 else n / 2 ^ (8 * (15 - i)) % 256
theorem ctr_by (n : Nat) : By (ctr n) := fun i => by
  unfold ctr
  split
  · decide
  · exact Nat.mod_lt _ (by decide)
theorem ctr_zero : Ag 16 (ctr 0) zf := fun i _ => by
  unfold ctr
  split
  · rfl
  · rw [Nat.zero_div]; rfl
/-- The stream's byte at a place, of round keys K. -/
def sby (K : Nat → Nat → Nat) (n : Nat) : Nat := enc K (ctr (n / 16)) (n % 16)
theorem sby_256 (K : Nat → Nat → Nat) (hK : ∀ r, By (K r)) (n : Nat) : sby K n < 256 := enc_by hK (ctr_by _) _
theorem sby_first : sby (keyAt zxF) 0 = 220 ∧ sby (keyAt zxF) 1 = 149 := by
  have h0 := encs_ag (K := keyAt zxF) ctr_zero 14 0 (by decide)
  have h1 := encs_ag (K := keyAt zxF) ctr_zero 14 1 (by decide)
  exact ⟨h0.trans zx_first, h1.trans zx_second⟩
end Go.Proofs.Ytclcnngpgbdjgaa

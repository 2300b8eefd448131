/-
  The document's example, reckoned: the key 0, 1, .. , 31, its words, the block 00, 11, .. , ff round by round, and what it is encrypted as.
-/
import Derived.Test.YtclcnngpgbdjgaaCipherExp
import Derived.Test.YtclcnngpgbdjgaaCipherRefMix
namespace Go.Proofs.Ytclcnngpgbdjgaa

def exT : List Nat := [99, 124, 119, 123, 242, 107, 111, 197, 48, 1, 103, 43, 254, 215, 171, 118, 202, 130, 201, 125, 250, 89, 71, 240, 173, 212, 162, 175, 156, 164, 114, 192, 183, 253, 147, 38, 54, 63, 247, 204, 52, 165, 229, 241, 113, 216, 49, 21, 4, 199, 35, 195, 24, 150, 5, 154, 7, 18, 128, 226, 235, 39, 178, 117, 9, 131, 44, 26, 27, 110, 90, 160, 82, 59, 214, 179, 41, 227, 47, 132, 83, 209, 0, 237, 32, 252, 177, 91, 106, 203, 190, 57, 74, 76, 88, 207, 208, 239, 170, 251, 67, 77, 51, 133, 69, 249, 2, 127, 80, 60, 159, 168, 81, 163, 64, 143, 146, 157, 56, 245, 188, 182, 218, 33, 16, 255, 243, 210, 205, 12, 19, 236, 95, 151, 68, 23, 196, 167, 126, 61, 100, 93, 25, 115, 96, 129, 79, 220, 34, 42, 144, 136, 70, 238, 184, 20, 222, 94, 11, 219, 224, 50, 58, 10, 73, 6, 36, 92, 194, 211, 172, 98, 145, 149, 228, 121, 231, 200, 55, 109, 141, 213, 78, 169, 108, 86, 244, 234, 101, 122, 174, 8, 186, 120, 37, 46, 28, 166, 180, 198, 232, 221, 116, 31, 75, 189, 139, 138, 112, 62, 181, 102, 72, 3, 246, 14, 97, 53, 87, 185, 134, 193, 29, 158, 225, 248, 152, 17, 105, 217, 142, 148, 155, 30, 135, 233, 206, 85, 40, 223, 140, 161, 137, 13, 191, 230, 66, 104, 65, 153, 45, 15, 176, 84, 187, 22]
def exW : List Nat := [66051, 67438087, 134810123, 202182159, 269554195, 336926231, 404298267, 471670303, 2775827103, 2708915352, 2843725459, 2775761052, 374450381, 38059738, 442344641, 104905438, 2928140272, 267459432, 2794378747, 66852199, 1843523912, 1873104786, 1979247443, 1941459341, 3327558271, 3383204119, 1864977644, 1825921419, 1038236277, 1380414951, 666869428, 1409797945, 199004255, 3262843208, 2907850148, 3246857263, 1173726816, 397595527, 806178099, 1678410250, 2094003996, 3199532628, 333888496, 3529615327, 4028300030, 3886557561, 3617940554, 3014649408, 625081969, 2616524837, 2282994645, 1517427722, 1314547353, 2851229664, 2119642026, 3455634922, 620526028, 3205069289, 924500540, 1835589174]
def exS : List Nat := [0, 16, 32, 48, 64, 80, 96, 112, 128, 144, 160, 176, 192, 208, 224, 240, 79, 99, 118, 6, 67, 224, 170, 133, 239, 167, 33, 50, 1, 164, 231, 5, 24, 89, 251, 194, 138, 28, 0, 160, 120, 237, 138, 173, 196, 47, 97, 9, 151, 92, 102, 193, 203, 159, 63, 168, 169, 58, 40, 223, 142, 225, 15, 99, 28, 5, 242, 113, 164, 23, 224, 79, 249, 33, 197, 193, 4, 112, 21, 84, 195, 87, 170, 225, 27, 69, 183, 176, 162, 199, 189, 40, 168, 220, 153, 250, 127, 7, 65, 67, 203, 78, 36, 62, 193, 12, 129, 93, 131, 117, 213, 76, 214, 83, 164, 105, 108, 160, 188, 15, 90, 202, 171, 93, 185, 108, 94, 125, 90, 168, 88, 57, 95, 210, 141, 125, 5, 225, 163, 136, 104, 243, 185, 197, 74, 130, 72, 81, 197, 126, 126, 71, 100, 61, 229, 12, 42, 243, 232, 201, 193, 73, 7, 246, 202, 59, 58, 160, 112, 233, 170, 49, 59, 82, 181, 236, 95, 156, 106, 191, 186, 198, 52, 170, 80, 64, 159, 167, 102, 103, 118, 83, 81, 102, 4, 149, 67, 83, 149, 3, 20, 251, 134, 228, 1, 146, 37, 33, 98, 123, 206, 185, 153, 157, 90, 170, 201, 69, 236, 244, 35, 245, 109, 165, 142, 162, 183, 202, 81, 103, 69, 191, 234, 252, 73, 144, 75, 73, 96, 137]
def exKey (i : Nat) : Nat := i % 256
def exBlk (i : Nat) : Nat := 17 * i % 256
theorem exT_inv : ∀ x < 256, x ≠ 0 → ist (exT.getD x 0) < 256 ∧ tm x (ist (exT.getD x 0)) = 1 ∧ exT.getD x 0 < 256 := by decide +kernel
theorem sb_exT (x : Nat) (hx : x < 256) : sb x = exT.getD x 0 := by
  by_cases h : x = 0
  · subst h; rw [sb_zero]; rfl
  · obtain ⟨h1, h2, h3⟩ := exT_inv x hx h
    unfold sb
    rw [← inv_uniq x _ hx h1 h2, st_ist _ h3]
theorem wd_exT (x k : Nat) : bwd sb x k = bwd (fun i => exT.getD i 0) x k := by
  induction k with
  | zero => rfl
  | succ k ih => simp only [bwd, ih]; rw [sb_exT _ (Nat.mod_lt _ (by decide))]
def chgT (t x : Nat) : Nat := if t % 8 = 0 then bwd (fun i => exT.getD i 0) (rl8 x) 4 ^^^ (pw 2 (t / 8 - 1) * 16777216) else if t % 8 = 4 then bwd (fun i => exT.getD i 0) x 4 else x
theorem chg_exT (t x : Nat) : chg t x = chgT t x := by unfold chg chgT; rw [wd_exT, wd_exT]
theorem exW_own : ∀ i < 8, own (bytesL 32 exKey) i = exW.getD i 0 := by decide +kernel
theorem exW_next : ∀ n < 52, exW.getD (8 + n) 0 = exW.getD n 0 ^^^ chgT (8 + n) (exW.getD (7 + n) 0) := by decide +kernel
theorem exW_all : ∀ n, n ≤ 52 → ∀ i, i < 8 + n → kws (own (bytesL 32 exKey)) n i = exW.getD i 0 := by
  intro n
  induction n with
  | zero => intro _ i hi; exact exW_own i (by omega)
  | succ n ih =>
    intro hn i hi
    show upd _ (8 + n) _ i = _
    unfold upd
    by_cases e : i = 8 + n
    · rw [if_pos e, ih (by omega) n (by omega), ih (by omega) (7 + n) (by omega), chg_exT, e, exW_next n (by omega)]
    · rw [if_neg e, ih (by omega) i (by omega)]
def exF : Nat → Nat := kb (kws (own (bytesL 32 exKey)) 52)
theorem exF_at (r i : Nat) (hr : r < 15) (hi : i < 16) : keyAt exF r i = kb (fun j => exW.getD j 0) (16 * r + i) := by
  show kb _ (16 * r + i) = _
  unfold kb
  rw [exW_all 52 (Nat.le_refl _) _ (by omega)]
theorem exS_zero : ∀ i < 16, exBlk i ^^^ kb (fun j => exW.getD j 0) (16 * 0 + i) = exS.getD i 0 := by decide +kernel
theorem exS_byte : ∀ i < 240, exS.getD i 0 < 256 := by decide +kernel
theorem exS_next : ∀ r < 14, ∀ i < 16, mid (r + 1) (bTurn 1 (bSb (fun x => exT.getD x 0) (fun j => exS.getD (16 * r + j) 0))) i ^^^ kb (fun j => exW.getD j 0) (16 * (r + 1) + i) = exS.getD (16 * (r + 1) + i) 0 := by decide +kernel
theorem exS_all : ∀ r, r ≤ 14 → Ag 16 (encs (keyAt exF) exBlk r) (fun i => exS.getD (16 * r + i) 0) := by
  intro r
  induction r with
  | zero =>
    intro _ i hi
    show exBlk i ^^^ keyAt exF 0 i = _
    rw [exF_at 0 i (by decide) hi, exS_zero i hi]
    show exS.getD i 0 = exS.getD (16 * 0 + i) 0
    rw [Nat.mul_zero, Nat.zero_add]
  | succ r ih =>
    intro hr i hi
    have h1 : Ag 16 (bSb sb (encs (keyAt exF) exBlk r)) (bSb (fun x => exT.getD x 0) (fun j => exS.getD (16 * r + j) 0)) := by
      intro j hj
      show sb (encs (keyAt exF) exBlk r j) = exT.getD (exS.getD (16 * r + j) 0) 0
      rw [ih (by omega) j hj]
      exact sb_exT _ (exS_byte _ (by omega))
    have h2 := mid_ag (r := r + 1) (bTurn_ag (t := 1) h1) i hi
    show mid (r + 1) (bTurn 1 (bSb sb (encs (keyAt exF) exBlk r))) i ^^^ keyAt exF (r + 1) i = _
    rw [h2, exF_at (r + 1) i (by omega) hi, exS_next r (by omega) i hi]
theorem ex_first : enc (keyAt exF) exBlk 0 = 142 := exS_all 14 (Nat.le_refl _) 0 (by decide)
theorem ex_second : enc (keyAt exF) exBlk 1 = 162 := exS_all 14 (Nat.le_refl _) 1 (by decide)
theorem ex_last : enc (keyAt exF) exBlk 15 = 137 := exS_all 14 (Nat.le_refl _) 15 (by decide)
end Go.Proofs.Ytclcnngpgbdjgaa

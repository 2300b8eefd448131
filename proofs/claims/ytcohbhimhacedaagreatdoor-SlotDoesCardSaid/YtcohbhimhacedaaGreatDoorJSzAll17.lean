/-
  Texts of stages that were proved on their own, joined: RdNumber, PayMath, MsgMath. Each begins with its own words.
-/
import Derived.Test.YtcohbhimhacedaaGreatDoorJSzAll16
import Derived.Test.YtcohbhimhacedaaGreatDoorJSzAll2

/-
  The document's own bytes of a number (layer 9). New memory alone is written. Conditions: a width from 0 to 8; the number is below 2^64.
-/
namespace Go.Proofs.YtcohbhimhacedaaGreatDoor
open Go.RowKit

/-- The lowest k bytes of a number, the highest first. -/
def beL (n : Int) : Nat → List Int
  | 0 => []
  | k + 1 => beL (n / 256) k ++ [n % 256]
theorem beL_len (n : Int) : ∀ k, (beL n k).length = k
  | 0 => rfl
  | k + 1 => by rw [beL, List.length_append, beL_len (n / 256) k]; rfl
theorem beL_range : ∀ (k : Nat) (n : Int), ∀ x ∈ beL n k, 0 ≤ x ∧ x < 256
  | 0, n, x, h => by simp [beL] at h
  | k + 1, n, x, h => by
    rw [beL, List.mem_append] at h
    rcases h with h | h
    · exact beL_range k _ x h
    · have := List.mem_singleton.1 h; omega
theorem be_beL : ∀ (k : Nat) (n : Int), 0 ≤ n → n < 256 ^ k → be (beL n k) = n
  | 0, n, h0, h1 => by
    have h2 : n = 0 := by simp at h1; omega
    rw [h2]; rfl
  | k + 1, n, h0, h1 => by
    rw [beL, be_snoc, be_beL k (n / 256) (by omega) (by rw [Int.pow_succ] at h1; omega)]
    omega
/-- Byte by byte from the top: the first j bytes of the k. -/
theorem beL_take : ∀ (k : Nat) (n : Int) (j : Nat), j < k → (beL n k).take (j + 1) = (beL n k).take j ++ [n / 256 ^ (k - 1 - j) % 256] := by
  intro k
  induction k with
  | zero => intro n j h; omega
  | succ k ih =>
    intro n j h
    rw [beL]
    by_cases hj : j < k
    · have e1 : (beL (n / 256) k ++ [n % 256]).take (j + 1) = (beL (n / 256) k).take (j + 1) := List.take_append_of_le_length (by rw [beL_len]; omega)
      have e2 : (beL (n / 256) k ++ [n % 256]).take j = (beL (n / 256) k).take j := List.take_append_of_le_length (by rw [beL_len]; omega)
      rw [e1, e2, ih (n / 256) j hj]
      congr 2
      rw [Int.ediv_ediv_of_nonneg (by decide), Int.mul_comm, ← Int.pow_succ, show (k - 1 - j).succ = k + 1 - 1 - j by omega]
    · obtain rfl : j = k := by omega
      rw [List.take_of_length_le (by simp [beL_len]), List.take_append_of_le_length (by rw [beL_len]; exact Nat.le_refl _), List.take_of_length_le (by rw [beL_len]; exact Nat.le_refl _)]
      congr 2
      rw [show j + 1 - 1 - j = 0 by omega]
      simp

set_option maxRecDepth 100000 in
set_option maxHeartbeats 1000000 in
theorem rNumber_any (n : Int) (k : Nat) (w : World) (hk : k ≤ 8) :
    Calls Tryz.prog 62 #[.int .u64 n, .int .i64 (k : Int)] w fun r w' => ∃ b c, r = .returned (.slice b k c) ∧ w'.ownsRow w.heap.size 5 1 (.slice b k c) k ((beL n k).map (Value.int .u8)) ∧ Below w.heap.size w w' := by
  obtain ⟨i0, hi, hz0, hz1, hz2⟩ := info_u8b
  have hk0 : wrap64 ((k : Int) - 1) = (k : Int) - 1 := by unfold wrap64; omega
  go_enter Tryz.func62, Tryz.ntmps62
  go_wp2
  go_loopw [5, 6] (fun v i wr => ∃ j : Nat, j ≤ k ∧ i = .int .i64 ((k : Int) - 1 - j) ∧ wr.ownsRow w.heap.size 5 1 v j (((beL n k).take j).map (Value.int .u8)) ∧ Below w.heap.size w wr) (fun _ i _ => (intOf i + 1).toNat)
  case atStart => exact ⟨0, Nat.zero_le _, by simp, World.ownsRow_nil _ _ _ _, Below.refl _ _⟩
  case round =>
    clear hk0
    obtain ⟨j, hj, rfl, hown, hb⟩ := hrel
    by_cases hlt : j < k
    · obtain ⟨I, hI⟩ : ∃ I : Int, (k : Int) - 1 - j = I := ⟨_, rfl⟩
      have hI0 : 0 ≤ I := by omega
      have hI8 : I ≤ 7 := by omega
      rw [hI]
      have hp : ∀ m : Nat, m ≤ 7 → (2 : Int) ^ (8 * m) = 256 ^ m := by decide
      have hx : n / 2 ^ (8 * I).toNat % 256 = n / 256 ^ (k - 1 - j) % 256 := by
        rw [show (8 * I).toNat = 8 * (k - 1 - j) by omega, hp _ (by omega)]
      obtain ⟨x, hxe⟩ : ∃ x, n / 2 ^ (8 * I).toNat % 256 = x := ⟨_, rfl⟩
      have hstep := beL_take k n j hlt
      rw [← hx, hxe] at hstep
      have hstepH := Lib.hid hstep
      have hIH := Lib.hid hI
      clear hI hp hx hstep
      go_wp2_with (at_builtin; refine wpList_append_own _ rfl _ _ 22 rfl w.heap.size 5 i0 (.int .u8 0) 1 1 Tryz.underlying22 hi hz0 hz1 hz2 rfl (by decide) _ _ _ rfl (hown.alloc _) ⟨wr.heap.size, 0, none⟩ 1 1 ([x].map (Value.int .u8)) rfl rfl ?c1 ?c2 ?c3 ?c4 ?c5 ?_)
      case c1 =>
        intro t u ht
        rcases t with _ | t
        · obtain rfl : u = .int .u8 x := by simpa using ht.symm
          exact World.cell?_alloc_at (w := wr) #[.int .u8 x] 5 wr.heap.size 0 rfl
        · simp at ht
      case c2 => simp [Value.oneCell']
      case c3 => unfold maxLen; omega
      case c4 => omega
      case c5 => have := hb.size; simp; omega
      intro v' w1 hown' hgrow _
      have hown1 : w1.ownsRow w.heap.size 5 1 v' (j + 1) (((beL n k).take (j + 1)).map (Value.int .u8)) := by
        rw [hstepH.out, List.map_append, List.map_take]; exact hown'
      have hb1 : Below w.heap.size w w1 := (hb.alloc hb.size _).grown hgrow (by have := hb.size; simp; omega) (fun j hj => (hown.lt j hj).1)
      clear hown' hgrow hown
      go_wp2
      refine ⟨⟨j + 1, by omega, ?_, hown1, hb1⟩, ?_⟩
      · have := hIH.out
        rw [← this]
        congr 1
        omega
      · simp only [intOf]
        omega
    · have hn : (k : Int) - 1 - j < 0 := by omega
      obtain rfl : j = k := by omega
      rw [List.take_of_length_le (by rw [beL_len]; exact Nat.le_refl _)] at hown
      go_wp2
      go_ret
      obtain ⟨b, c, hv⟩ := own_slice hown
      subst hv
      exact ⟨b, c, rfl, hown, hb⟩
end Go.Proofs.YtcohbhimhacedaaGreatDoor

/-
  Payloads (layer 13) as lists: a tier is a fee and bytes; a payload's bytes, and what is read of bytes. No Go function is spoken of.
-/
namespace Go.Proofs.YtcohbhimhacedaaGreatDoor

abbrev Tier := Int × List Int
structure TierOk (t : Tier) : Prop where
  fee : 0 ≤ t.1 ∧ t.1 < 4294967296
  len : 1 ≤ t.2.length ∧ t.2.length ≤ 64
  ok : ∀ x ∈ t.2, 0 ≤ x ∧ x < 256
/-- Each tier may be, each fee is greater than the one ahead (the first one's than f). -/
def Rises (f : Int) : List Tier → Prop
  | [] => True
  | t :: r => TierOk t ∧ f < t.1 ∧ Rises t.1 r
def tierB (t : Tier) : List Int := beL t.1 4 ++ ((t.2.length : Int) :: t.2)
def flatB : List Tier → List Int
  | [] => []
  | t :: r => tierB t ++ flatB r
def payB (ts : List Tier) : List Int := (ts.length : Int) :: flatB ts
def RightL (ts : List Tier) : Prop := Rises (-1) ts ∧ 1 ≤ ts.length ∧ ts.length ≤ 8
def consR (t : Tier) (p : List Tier × Int) : List Tier × Int := if p.2 = 0 then (t :: p.1, 0) else ([], p.2)
/-- What is read of bytes: so many tiers, each fee greater than f. -/
def decT : Nat → Int → List Int → List Tier × Int
  | 0, _, b => if b = [] then ([], 0) else ([], 3)
  | k + 1, f, b =>
    if b.length < 4 then ([], 2)
    else if be (b.take 4) ≤ f then ([], 4)
    else if b.length < 5 then ([], 2)
    else if b.getD 4 0 < 1 ∨ 64 < b.getD 4 0 then ([], 4)
    else if b.length < 5 + (b.getD 4 0).toNat then ([], 2)
    else consR (be (b.take 4), (b.drop 5).take (b.getD 4 0).toNat) (decT k (be (b.take 4)) (b.drop (5 + (b.getD 4 0).toNat)))
def decP (b : List Int) : List Tier × Int :=
  if b = [] then ([], 2) else if b.getD 0 0 < 1 ∨ 8 < b.getD 0 0 then ([], 4) else decT (b.getD 0 0).toNat (-1) (b.drop 1)

def lastF : Int → List Tier → Int
  | f, [] => f
  | _, t :: r => lastF t.1 r
theorem beL_be (l : List Int) (h : ∀ x ∈ l, 0 ≤ x ∧ x < 256) : beL (be l) l.length = l := by
  obtain ⟨n, hn⟩ : ∃ n, l.length = n := ⟨_, rfl⟩
  induction n generalizing l with
  | zero => rw [List.length_eq_zero_iff.1 hn]; rfl
  | succ n ih =>
    have h0 : l ≠ [] := fun e => by rw [e] at hn; simp at hn
    obtain ⟨r, x, rfl⟩ : ∃ r x, l = r ++ [x] := ⟨l.dropLast, l.getLast h0, (List.dropLast_concat_getLast h0).symm⟩
    have hx := h x (by simp)
    rw [List.length_append, be_snoc]
    show beL ((256 * be r + x) / 256) r.length ++ [(256 * be r + x) % 256] = _
    rw [show (256 * be r + x) / 256 = be r by omega, show (256 * be r + x) % 256 = x by omega, ih r (fun y hy => h y (by simp [hy])) (by simp at hn; omega)]
end Go.Proofs.YtcohbhimhacedaaGreatDoor

/-
  Messages (layer 14) as data: which may be, their bytes, and what is read of bytes. No Go function is spoken of.
-/
namespace Go.Proofs.YtcohbhimhacedaaGreatDoor

structure MsgV where
  kind : Int
  ses : Int
  seq : Int
  quo : Int
  hint : List Int
  blob : List Int
def z16 : List Int := List.replicate 16 0
def noMsg : MsgV := ⟨0, 0, 0, 0, z16, []⟩
/-- The fields' ranges. -/
structure MsgOk (m : MsgV) : Prop where
  ses : 0 ≤ m.ses ∧ m.ses < 4294967296
  seq : 0 ≤ m.seq ∧ m.seq < 4294967296
  quo : 0 ≤ m.quo ∧ m.quo < 4294967296
  hl : m.hint.length = 16
  hr : ∀ x ∈ m.hint, 0 ≤ x ∧ x < 256
  br : ∀ x ∈ m.blob, 0 ≤ x ∧ x < 256
def MsgRight (m : MsgV) : Prop :=
  (m.kind = 1 ∧ m.ses = 0 ∧ m.seq = 0 ∧ m.quo ≤ 65535 ∧ m.hint = z16 ∧ m.blob = []) ∨ (m.kind = 2 ∧ m.quo = 0 ∧ m.blob.length ≤ 1000) ∨
    ((m.kind = 3 ∨ m.kind = 4) ∧ m.seq = 0 ∧ m.quo = 0 ∧ m.hint = z16 ∧ m.blob = [])
def msgB (m : MsgV) : List Int :=
  m.kind :: (if m.kind = 1 then beL m.quo 2 else beL m.ses 4 ++ (if m.kind = 2 then beL m.seq 4 ++ (m.hint ++ (beL (m.blob.length : Int) 2 ++ m.blob)) else []))
def decU (r : List Int) (N : Nat) : MsgV × Int :=
  if r.length < 26 + N then (noMsg, 2) else if 26 + N < r.length then (noMsg, 3) else (⟨2, be (r.take 4), be ((r.drop 4).take 4), 0, (r.drop 8).take 16, r.drop 26⟩, 0)
def decM : List Int → MsgV × Int
  | [] => (noMsg, 2)
  | k :: r =>
    if k < 1 ∨ 4 < k then (noMsg, 4)
    else if k = 1 then (if r.length < 2 then (noMsg, 2) else if 2 < r.length then (noMsg, 3) else (⟨1, 0, 0, be r, z16, []⟩, 0))
    else if k = 2 then (if r.length < 26 then (noMsg, 2) else if 1000 < be ((r.drop 24).take 2) then (noMsg, 4) else decU r (be ((r.drop 24).take 2)).toNat)
    else (if r.length < 4 then (noMsg, 2) else if 4 < r.length then (noMsg, 3) else (⟨k, be r, 0, 0, z16, []⟩, 0))

theorem be_range (l : List Int) (n : Nat) (hl : l.length = n) (h : ∀ x ∈ l, 0 ≤ x ∧ x < 256) : 0 ≤ be l ∧ be l < 256 ^ n := by
  have h1 := be_fold l 0 h (Int.le_refl 0)
  rw [hl] at h1
  unfold be
  exact ⟨h1.1, by have := h1.2; simpa using this⟩
/-- The parts of an upload's bytes. -/
structure UpAt (r : List Int) (ses seq : Int) (hint : List Int) (N : Nat) : Prop where
  a : r.take 4 = beL ses 4
  b : (r.drop 4).take 4 = beL seq 4
  c : (r.drop 8).take 16 = hint
  d : (r.drop 24).take 2 = beL (N : Int) 2
end Go.Proofs.YtcohbhimhacedaaGreatDoor

/-
  Texts of stages that were proved on their own, joined: FrMath, RyMath, RyKp, SlMath, SlKeep, SlKeeps, SlCur. Each begins with its own words.
-/
import Derived.Test.YtcohbhimhacedaaGreatDoorJSzAll17
import Derived.Test.YtcohbhimhacedaaGreatDoorJSzAll18
import Derived.Test.YtcohbhimhacedaaGreatDoorByteMath
import Derived.Test.YtcohbhimhacedaaGreatDoorSlices
import Derived.Test.YtcohbhimhacedaaGreatDoorJSzAll4

/-
  Frames on lists of numbers (layer 19): a body's frame, what the first frame of bytes is, the frames one behind the other. No Go function is spoken of.
-/
namespace Go.Proofs.YtcohbhimhacedaaGreatDoor
open Go.RowKit

/-- The sum of a body's frame. -/
def sumF (b : List Int) : Int := nv (crcOf 0#32 (bvs (beL (b.length : Int) 4 ++ b)))
theorem sumF_range (b : List Int) : 0 ≤ sumF b ∧ sumF b < 4294967296 := ⟨nv_lo _, nv_hi _⟩
/-- A body's frame. -/
def frB (b : List Int) : List Int := beL (b.length : Int) 4 ++ (beL (sumF b) 4 ++ b)
theorem frB_len (b : List Int) : (frB b).length = 8 + b.length := by
  unfold frB
  rw [List.length_append, List.length_append, beL_len, beL_len]
  omega
theorem frB_range {b : List Int} (h : ∀ x ∈ b, 0 ≤ x ∧ x < 256) : ∀ x ∈ frB b, 0 ≤ x ∧ x < 256 := by
  intro x hx
  unfold frB at hx
  rcases List.mem_append.1 hx with h1 | h1
  · exact beL_range _ _ x h1
  · rcases List.mem_append.1 h1 with h1 | h1
    · exact beL_range _ _ x h1
    · exact h x h1
/-- What One tells of bytes: a body, a size, an error. -/
def oneF (xs : List Int) : List Int × Nat × Int :=
  if xs.length < 4 then ([], 0, 2)
  else if be (xs.take 4) < 1 ∨ 65536 < be (xs.take 4) then ([], 0, 4)
  else if (xs.length : Int) < 8 + be (xs.take 4) then ([], 0, 2)
  else if be ((xs.drop 4).take 4) = sumF ((xs.drop 8).take (be (xs.take 4)).toNat) then ((xs.drop 8).take (be (xs.take 4)).toNat, 8 + (be (xs.take 4)).toNat, 0)
  else ([], 0, 9)
theorem oneF_bad {xs : List Int} (h : (oneF xs).2.2 ≠ 0) : (oneF xs).1 = [] ∧ (oneF xs).2.1 = 0 := by
  unfold oneF at h ⊢
  split
  · exact ⟨rfl, rfl⟩
  · split
    · exact ⟨rfl, rfl⟩
    · split
      · exact ⟨rfl, rfl⟩
      · split
        · rename_i h1 h2 h3 h4
          rw [if_neg h1, if_neg h2, if_neg h3, if_pos h4] at h
          exact absurd rfl h
        · exact ⟨rfl, rfl⟩
theorem oneF_ok {xs : List Int} (h : (oneF xs).2.2 = 0) : (oneF xs).2.1 = 8 + (oneF xs).1.length ∧ 1 ≤ (oneF xs).1.length ∧ (oneF xs).1.length ≤ 65536 ∧ (oneF xs).2.1 ≤ xs.length ∧ (oneF xs).1 = (xs.drop 8).take (oneF xs).1.length := by
  unfold oneF at h ⊢
  split
  · rename_i h1
    rw [if_pos h1] at h
    cases h
  · rename_i h1
    rw [if_neg h1] at h
    split
    · rename_i h2
      rw [if_pos h2] at h
      cases h
    · rename_i h2
      rw [if_neg h2] at h
      split
      · rename_i h3
        rw [if_pos h3] at h
        cases h
      · rename_i h3
        rw [if_neg h3] at h
        split
        · have hl : ((xs.drop 8).take (be (xs.take 4)).toNat).length = (be (xs.take 4)).toNat := by rw [List.length_take, List.length_drop]; omega
          refine ⟨?_, ?_, ?_, ?_, ?_⟩
          · show 8 + (be (xs.take 4)).toNat = 8 + ((xs.drop 8).take (be (xs.take 4)).toNat).length
            rw [hl]
          · show 1 ≤ ((xs.drop 8).take (be (xs.take 4)).toNat).length
            rw [hl]; omega
          · show ((xs.drop 8).take (be (xs.take 4)).toNat).length ≤ 65536
            rw [hl]; omega
          · show 8 + (be (xs.take 4)).toNat ≤ xs.length
            omega
          · show (xs.drop 8).take (be (xs.take 4)).toNat = (xs.drop 8).take ((xs.drop 8).take (be (xs.take 4)).toNat).length
            rw [hl]
        · rename_i h4
          rw [if_neg h4] at h
          cases h
theorem pow256_4 : (256 : Int) ^ 4 = 4294967296 := by decide
theorem be_len4 (n : Nat) (h : n ≤ 65536) : be (beL (n : Int) 4) = n := be_beL 4 n (by omega) (by rw [pow256_4]; omega)
theorem be_sum4 (b : List Int) : be (beL (sumF b) 4) = sumF b := be_beL 4 _ (sumF_range b).1 (by rw [pow256_4]; exact (sumF_range b).2)
theorem frB_take4 (b r : List Int) : (frB b ++ r).take 4 = beL (b.length : Int) 4 := by
  unfold frB
  rw [List.append_assoc, List.take_append_of_le_length (by rw [beL_len]; exact Nat.le_refl _), List.take_of_length_le (by rw [beL_len]; exact Nat.le_refl _)]
theorem frB_mid4 (b r : List Int) : ((frB b ++ r).drop 4).take 4 = beL (sumF b) 4 := by
  unfold frB
  rw [List.append_assoc, List.drop_append_of_le_length (by rw [beL_len]; exact Nat.le_refl _), List.drop_of_length_le (by rw [beL_len]; exact Nat.le_refl _), List.nil_append, List.append_assoc, List.take_append_of_le_length (by rw [beL_len]; exact Nat.le_refl _), List.take_of_length_le (by rw [beL_len]; exact Nat.le_refl _)]
theorem frB_drop8 (b r : List Int) : (frB b ++ r).drop 8 = b ++ r := by
  unfold frB
  have e : beL (b.length : Int) 4 ++ (beL (sumF b) 4 ++ b) ++ r = (beL (b.length : Int) 4 ++ beL (sumF b) 4) ++ (b ++ r) := by simp
  rw [e, List.drop_append_of_le_length (by rw [List.length_append, beL_len, beL_len]; exact Nat.le_refl _), List.drop_of_length_le (by rw [List.length_append, beL_len, beL_len]; exact Nat.le_refl _), List.nil_append]
theorem one_fr (b r : List Int) (h1 : 1 ≤ b.length) (h2 : b.length ≤ 65536) : oneF (frB b ++ r) = (b, 8 + b.length, 0) := by
  have hl : (frB b ++ r).length = 8 + b.length + r.length := by rw [List.length_append, frB_len]
  have hb : (b ++ r).take b.length = b := by rw [List.take_append_of_le_length (Nat.le_refl _), List.take_of_length_le (Nat.le_refl _)]
  unfold oneF
  rw [frB_take4, be_len4 _ h2, frB_mid4, be_sum4, frB_drop8, Int.toNat_natCast, hb, if_neg (by omega), if_neg (by omega), if_neg (by omega), if_pos rfl]
end Go.Proofs.YtcohbhimhacedaaGreatDoor

/-
  A roll on lists (layer 20): the bodies of a file, its tail, and what the roll's calls come to over a disk of lists. No Go function is spoken of. No conditions.
-/
namespace Go.Proofs.YtcohbhimhacedaaGreatDoor
open Go.RowKit

/-! ### The frames that bytes begin with -/
theorem oneF_nil : oneF [] = ([], 0, 2) := by unfold oneF; rfl
/-! ### The roll's calls -/
/-- What the file holds. -/
def heldR (D : DkV) (z : Int) : List Int := (D.f z.toNat).held
/-- Cut, and then synced. -/
def keD (D : DkV) (z n : Int) : DkV × Int := if (ctD D z n).2 = 0 then syD (ctD D z n).1 z else ctD D z n
/-- What Append does. -/
def prD (D : DkV) (z : Int) (b : List Int) : DkV × Int :=
  if b.length < 1 ∨ 65536 < b.length then (D, 1) else if (apD D z (frB b)).2 = 0 then syD (apD D z (frB b)).1 z else apD D z (frB b)
theorem keD_ok {D : DkV} {T : Nat} (h : D.Ok T) (z n : Int) : (keD D z n).1.Ok (T + 1) := by
  unfold keD
  split
  · exact syD_ok (ctD_ok h z n) z
  · exact ctD_ok h z n
theorem prD_ok {D : DkV} {T : Nat} (h : D.Ok T) (z : Int) (b : List Int) : (prD D z b).1.Ok (T + 1) := by
  unfold prD
  split
  · exact h.more (Nat.le_succ T)
  · split
    · exact syD_ok (apD_ok h z _) z
    · exact apD_ok h z _
/-- Without a fuse nothing goes down. -/
theorem burn_none {D : DkV} (h : D.fuse = 0) : D.burn = D := by unfold DkV.burn; rw [if_pos h]
theorem ctD_none {D : DkV} (hf : D.fuse = 0) (hd : D.down = false) {z n : Int} (hz : 0 ≤ z ∧ z < 3) (hn : 0 ≤ n) (hn' : n ≤ (heldR D z).length) :
    ctD D z n = (D.set z.toNat ((D.f z.toNat).step (.cut n.toNat)), 0) := by
  have hh := DkV.set_head D z.toNat ((D.f z.toNat).step (.cut n.toNat))
  have hb := burn_none (D := D.set z.toNat ((D.f z.toNat).step (.cut n.toNat))) (by rw [hh.2.1]; exact hf)
  unfold heldR at hn'
  unfold ctD
  rw [if_neg (by unfold noFile; omega), if_neg (by rw [hd]; decide), hb]
  unfold DkV.ans
  rw [if_neg (by rw [hh.2.2, hd]; decide)]
theorem syD_none {D : DkV} (hf : D.fuse = 0) (hd : D.down = false) {z : Int} (hz : 0 ≤ z ∧ z < 3) :
    syD D z = (D.set z.toNat ⟨heldR D z, []⟩, 0) := by
  unfold syD
  rw [if_neg (by unfold noFile; omega), if_neg (by rw [hd]; decide), burn_none hf, if_neg (by rw [hd]; decide)]
  rfl
theorem toNat_lt3 {z : Int} (hz : 0 ≤ z ∧ z < 3) : z.toNat < 3 := by omega
/-! ### What the files hold are bytes -/
def isByte (x : Int) : Prop := 0 ≤ x ∧ x < 256
def StV.By (s : StV) : Prop := match s with
  | .put xs => ∀ x ∈ xs, isByte x
  | .cut _ => True
structure FlV.By (v : FlV) : Prop where
  k : ∀ x ∈ v.K, isByte x
  s : ∀ s ∈ v.S, s.By
structure DkV.By (D : DkV) : Prop where
  b0 : D.f0.By
  b1 : D.f1.By
  b2 : D.f2.By
theorem DkV.By.f {D : DkV} (h : D.By) (i : Nat) : (D.f i).By := by
  unfold DkV.f
  split
  · exact h.b0
  · split
    · exact h.b1
    · exact h.b2
theorem act_by (s : StV) (hs : s.By) (b : List Int) (hb : ∀ x ∈ b, isByte x) (u : Nat) : ∀ x ∈ s.act b u, isByte x := by
  cases s with
  | put xs =>
    intro x hx
    rcases List.mem_append.1 hx with h | h
    · exact hb x h
    · exact hs x (List.mem_of_mem_take h)
  | cut n =>
    intro x hx
    unfold StV.act at hx
    dsimp only at hx
    split at hx
    · exact hb x hx
    · exact hb x (List.mem_of_mem_take hx)
theorem allL_by : ∀ (S : List StV) (K : List Int), (∀ x ∈ K, isByte x) → (∀ s ∈ S, s.By) → ∀ x ∈ allL K S, isByte x
  | [], _, hK, _ => hK
  | s :: r, K, hK, hS => allL_by r _ (act_by s (hS s (List.mem_cons_self ..)) K hK _) (fun t ht => hS t (List.mem_cons_of_mem _ ht))
theorem doneL_by : ∀ (S : List StV) (K : List Int) (u : Nat), (∀ x ∈ K, isByte x) → (∀ s ∈ S, s.By) → ∀ x ∈ doneL K S u, isByte x
  | [], _, _, hK, _ => hK
  | s :: r, K, _, hK, hS => doneL_by r _ _ (act_by s (hS s (List.mem_cons_self ..)) K hK _) (fun t ht => hS t (List.mem_cons_of_mem _ ht))
theorem FlV.By.held {v : FlV} (h : v.By) : ∀ x ∈ v.held, isByte x := allL_by v.S v.K h.k h.s
theorem FlV.By.step {v : FlV} (h : v.By) (s : StV) (hs : s.By) : (v.step s).By := ⟨h.k, fun t ht => by
  rcases List.mem_append.1 ht with h1 | h1
  · exact h.s t h1
  · rw [List.mem_singleton.1 h1]; exact hs⟩
theorem FlV.By.settle {v : FlV} (h : v.By) (u : Nat) : (v.settle u).By := ⟨doneL_by v.S v.K u h.k h.s, fun _ h => absurd h (List.not_mem_nil)⟩
theorem DkV.By.set {D : DkV} (h : D.By) (i : Nat) {v : FlV} (hv : v.By) : (D.set i v).By := by
  unfold DkV.set
  split
  · exact ⟨hv, h.b1, h.b2⟩
  · split
    · exact ⟨h.b0, hv, h.b2⟩
    · exact ⟨h.b0, h.b1, hv⟩
theorem DkV.By.burn {D : DkV} (h : D.By) : D.burn.By := by
  unfold DkV.burn
  split
  · exact h
  · exact ⟨h.b0, h.b1, h.b2⟩
theorem apD_by {D : DkV} (h : D.By) (z : Int) (b : List Int) (hb : ∀ x ∈ b, isByte x) : (apD D z b).1.By := by
  unfold apD
  split
  · exact h
  split
  · exact h
  split
  · exact h
  exact (h.set _ ((h.f _).step (.put b) hb)).burn
theorem ctD_by {D : DkV} (h : D.By) (z n : Int) : (ctD D z n).1.By := by
  unfold ctD
  split
  · exact h
  split
  · exact h
  exact (h.set _ ((h.f _).step (.cut n.toNat) trivial)).burn
theorem syD_by {D : DkV} (h : D.By) (z : Int) : (syD D z).1.By := by
  unfold syD
  split
  · exact h
  split
  · exact h
  split
  · exact h.burn
  exact h.burn.set _ ⟨(h.f _).held, fun _ h => absurd h (List.not_mem_nil)⟩
theorem armD_by {D : DkV} (h : D.By) (n : Int) : (armD D n).By := ⟨h.b0, h.b1, h.b2⟩
theorem crD_by {D : DkV} (h : D.By) (us : List Int) : (crD D us).By := ⟨h.b0.settle _, h.b1.settle _, h.b2.settle _⟩
theorem keD_by {D : DkV} (h : D.By) (z n : Int) : (keD D z n).1.By := by
  unfold keD
  split
  · exact syD_by (ctD_by h z n) z
  · exact ctD_by h z n
theorem prD_by {D : DkV} (h : D.By) (z : Int) (b : List Int) (hb : ∀ x ∈ b, isByte x) : (prD D z b).1.By := by
  unfold prD
  split
  · exact h
  · split
    · exact syD_by (apD_by h z _ (frB_range hb)) z
    · exact apD_by h z _ (frB_range hb)
theorem dk0_by (r : Int) : (dk0 r).By := ⟨⟨fun _ h => absurd h (List.not_mem_nil), fun _ h => absurd h (List.not_mem_nil)⟩, ⟨fun _ h => absurd h (List.not_mem_nil), fun _ h => absurd h (List.not_mem_nil)⟩, ⟨fun _ h => absurd h (List.not_mem_nil), fun _ h => absurd h (List.not_mem_nil)⟩⟩
end Go.Proofs.YtcohbhimhacedaaGreatDoor

/-
  A disk on lists of which one file alone holds anything: what its calls, and a roll's, come to; what a crash leaves of frames (P20.4). No Go function is spoken of.
-/
namespace Go.Proofs.YtcohbhimhacedaaGreatDoor
open Go.RowKit

/-- Room r, a fuse f, file z holds v, the others nothing. -/
def kpD (r f : Int) (d : Bool) (z : Nat) (v : FlV) : DkV := (⟨r, f, d, ⟨[], []⟩, ⟨[], []⟩, ⟨[], []⟩⟩ : DkV).set z v
theorem kp0 (r : Int) (z : Nat) : dk0 r = kpD r 0 false z ⟨[], []⟩ := by
  unfold kpD DkV.set
  split
  · rfl
  · split <;> rfl
section
variable {r f : Int} {d : Bool} {z : Nat} {v : FlV}
end

/-! ### Whole frames, and one in flight -/
end Go.Proofs.YtcohbhimhacedaaGreatDoor

/-
  Slots on lists (layer 21): what a file has, Open, Put over a disk of lists. No Go function is spoken of. No conditions.
-/
namespace Go.Proofs.YtcohbhimhacedaaGreatDoor
open Go.RowKit

/-- A file's turn and snapshot; the turn 0: it has none. -/
def ldF (b : List Int) : Int × List Int :=
  if (oneF b).2.2 ≠ 0 ∨ (oneF b).1.length < 8 then (0, []) else (be ((oneF b).1.take 8), (oneF b).1.drop 8)
/-- Slots: two files, the current one (-1: none), its turn and snapshot. -/
structure SlV where
  a : Int
  b : Int
  now : Int
  turn : Int
  body : List Int
/-- What Open makes. -/
def opS (D : DkV) (a b : Int) : SlV :=
  if (ldF (heldR D a)).1 < (ldF (heldR D b)).1 then ⟨a, b, b, (ldF (heldR D b)).1, (ldF (heldR D b)).2⟩
  else if 0 < (ldF (heldR D a)).1 then ⟨a, b, a, (ldF (heldR D a)).1, (ldF (heldR D a)).2⟩
  else ⟨a, b, -1, 0, []⟩
/-- The file that Put goes to. -/
def SlV.to (s : SlV) : Int := if s.now = s.a then s.b else s.a
/-- The body of the next frame. -/
def SlV.next (s : SlV) (x : List Int) : List Int := beL (s.turn + 1) 8 ++ x
/-- Put's first part: the other file is cleared. -/
def clS (D : DkV) (z : Int) : DkV × Int := if 0 < (heldR D z).length ∨ 0 < (D.f z.toNat).units then keD D z 0 else (D, 0)
/-- What Put does: the disk, the slots, the error. -/
def ptS (D : DkV) (s : SlV) (x : List Int) : DkV × SlV × Int :=
  if 65528 < x.length ∨ s.turn + 1 = 18446744073709551616 then (D, s, 1)
  else if (clS D s.to).2 ≠ 0 then ((clS D s.to).1, s, (clS D s.to).2)
  else if (prD (clS D s.to).1 s.to (s.next x)).2 ≠ 0 then ((prD (clS D s.to).1 s.to (s.next x)).1, s, (prD (clS D s.to).1 s.to (s.next x)).2)
  else ((prD (clS D s.to).1 s.to (s.next x)).1, { s with now := s.to, turn := s.turn + 1, body := x }, 0)
theorem next_len (s : SlV) (x : List Int) : (s.next x).length = 8 + x.length := by
  unfold SlV.next
  rw [List.length_append, beL_len]
theorem clS_ok {D : DkV} {T : Nat} (h : D.Ok T) (z : Int) : (clS D z).1.Ok (T + 1) := by
  unfold clS
  split
  · exact keD_ok h z 0
  · exact h.more (Nat.le_succ T)
theorem clS_by {D : DkV} (h : D.By) (z : Int) : (clS D z).1.By := by
  unfold clS
  split
  · exact keD_by h z 0
  · exact h
theorem next_by (s : SlV) {x : List Int} (h : ∀ y ∈ x, isByte y) : ∀ y ∈ s.next x, isByte y := by
  intro y hy
  rcases List.mem_append.1 hy with h1 | h1
  · exact beL_range _ _ y h1
  · exact h y h1
theorem ptS_ok {D : DkV} {T : Nat} (h : D.Ok T) (s : SlV) (x : List Int) : (ptS D s x).1.Ok (T + 2) := by
  have h1 := clS_ok h s.to
  have h2 := prD_ok h1 s.to (s.next x)
  unfold ptS
  split
  · exact h.more (by omega)
  split
  · exact h1.more (by omega)
  split
  · exact h2
  · exact h2
theorem ptS_by {D : DkV} (h : D.By) (s : SlV) {x : List Int} (hx : ∀ y ∈ x, isByte y) : (ptS D s x).1.By := by
  have h1 := clS_by h s.to
  have h2 := prD_by h1 s.to (s.next x) (next_by s hx)
  unfold ptS
  split
  · exact h
  split
  · exact h1
  split
  · exact h2
  · exact h2
/-- Slots that stand well: two files, and what goes with a turn. -/
structure SlV.Ok (s : SlV) : Prop where
  a : 0 ≤ s.a ∧ s.a < 3
  b : 0 ≤ s.b ∧ s.b < 3
  ab : s.a ≠ s.b
  t : 0 ≤ s.turn ∧ s.turn < 18446744073709551616
  n : (s.turn = 0 ∧ s.now = -1 ∧ s.body = []) ∨ (0 < s.turn ∧ (s.now = s.a ∨ s.now = s.b))
  bl : s.body.length ≤ 65528
  bb : ∀ y ∈ s.body, isByte y
theorem SlV.Ok.to {s : SlV} (h : s.Ok) : 0 ≤ s.to ∧ s.to < 3 := by
  unfold SlV.to
  split
  · exact h.b
  · exact h.a
theorem oneF_by {b : List Int} (h : ∀ y ∈ b, isByte y) : ∀ y ∈ (oneF b).1, isByte y := by
  by_cases h0 : (oneF b).2.2 = 0
  · rw [(oneF_ok h0).2.2.2.2]
    exact fun y hy => h y (List.mem_of_mem_drop (List.mem_of_mem_take hy))
  · rw [(oneF_bad h0).1]
    exact fun y hy => absurd hy (List.not_mem_nil)
theorem ldF_ok {b : List Int} (h : ∀ y ∈ b, isByte y) : 0 ≤ (ldF b).1 ∧ (ldF b).1 < 18446744073709551616 ∧ (ldF b).2.length ≤ 65528 ∧ ∀ y ∈ (ldF b).2, isByte y := by
  unfold ldF
  split
  · exact ⟨by decide, by decide, Nat.zero_le _, fun _ h => absurd h (List.not_mem_nil)⟩
  · rename_i h0
    have h1 : (oneF b).2.2 = 0 := by omega
    have hl := (oneF_ok h1).2.2.1
    have hb := oneF_by h
    have h8 : ((oneF b).1.take 8).length = 8 := by rw [List.length_take]; omega
    have hr := be_range ((oneF b).1.take 8) 8 h8 (fun y hy => hb y (List.mem_of_mem_take hy))
    rw [show (256 : Int) ^ 8 = 18446744073709551616 by decide] at hr
    exact ⟨hr.1, hr.2, by show ((oneF b).1.drop 8).length ≤ _; rw [List.length_drop]; omega, fun y hy => hb y (List.mem_of_mem_drop hy)⟩
theorem opS_ok {D : DkV} (hD : D.By) {a b : Int} (ha : 0 ≤ a ∧ a < 3) (hb : 0 ≤ b ∧ b < 3) (hab : a ≠ b) : (opS D a b).Ok := by
  obtain ⟨a1, a2, a3, a4⟩ := ldF_ok (b := heldR D a) (hD.f _).held
  obtain ⟨b1, b2, b3, b4⟩ := ldF_ok (b := heldR D b) (hD.f _).held
  unfold opS
  split
  · exact ⟨ha, hb, hab, ⟨b1, b2⟩, .inr ⟨by show 0 < (ldF (heldR D b)).1; omega, .inr rfl⟩, b3, b4⟩
  · split
    · exact ⟨ha, hb, hab, ⟨a1, a2⟩, .inr ⟨by assumption, .inl rfl⟩, a3, a4⟩
    · exact ⟨ha, hb, hab, ⟨by show (0 : Int) ≤ 0; omega, by show (0 : Int) < _; omega⟩, .inl ⟨rfl, rfl, rfl⟩, Nat.zero_le _, fun _ h => absurd h (List.not_mem_nil)⟩
theorem ptS_sl {D : DkV} {s : SlV} (h : s.Ok) {x : List Int} (hx : ∀ y ∈ x, isByte y) : (ptS D s x).2.1.Ok := by
  unfold ptS
  split
  · exact h
  rename_i h0
  split
  · exact h
  split
  · exact h
  · have ht := h.t
    refine ⟨h.a, h.b, h.ab, ⟨by show 0 ≤ s.turn + 1; omega, by show s.turn + 1 < _; omega⟩, .inr ⟨by show 0 < s.turn + 1; omega, ?_⟩, by show x.length ≤ _; omega, hx⟩
    show s.to = s.a ∨ s.to = s.b
    unfold SlV.to
    split
    · exact .inr rfl
    · exact .inl rfl
/-- What was put is what the file has. -/
theorem ldF_put {t : Int} (ht : 0 ≤ t ∧ t < 18446744073709551616) {x r : List Int} (hx : x.length ≤ 65528) : ldF (frB (beL t 8 ++ x) ++ r) = (t, x) := by
  have hl : (beL t 8 ++ x).length = 8 + x.length := by rw [List.length_append, beL_len]
  have h1 := one_fr (beL t 8 ++ x) r (by omega) (by omega)
  unfold ldF
  rw [h1]
  dsimp only
  rw [if_neg (by omega), List.take_append_of_le_length (by rw [beL_len]; exact Nat.le_refl _), List.take_of_length_le (by rw [beL_len]; exact Nat.le_refl _), List.drop_append_of_le_length (by rw [beL_len]; exact Nat.le_refl _), List.drop_of_length_le (by rw [beL_len]; exact Nat.le_refl _), List.nil_append,
    be_beL 8 t ht.1 (by rw [show (256 : Int) ^ 8 = 18446744073709551616 by decide]; exact ht.2)]
theorem ldF_nil : ldF [] = (0, []) := by
  unfold ldF
  rw [oneF_nil, if_pos (.inl (by decide))]
end Go.Proofs.YtcohbhimhacedaaGreatDoor

/-
  The law SlotKeeps, on lists: two files of a disk of lists, by the fuse; what Puts and a crash leave of slots (P21.3). No Go function is spoken of.
-/
namespace Go.Proofs.YtcohbhimhacedaaGreatDoor
open Go.RowKit

section
variable {z r f : Int} {d : Bool} {v u : FlV}
end

/-! ### Put, by the fuse -/
end Go.Proofs.YtcohbhimhacedaaGreatDoor

/-
  The law SlotKeeps, on lists: behind some Puts, of which one may have let the disk go down, behind a crash, and Open. No Go function is spoken of.
-/
namespace Go.Proofs.YtcohbhimhacedaaGreatDoor
open Go.RowKit

end Go.Proofs.YtcohbhimhacedaaGreatDoor

/-
  Slots on lists (layer 21): what the current file has goes along with what is done to the disk; Puts without a fuse. No Go function is spoken of. No conditions.
-/
namespace Go.Proofs.YtcohbhimhacedaaGreatDoor
open Go.RowKit

theorem u64_id {x : Int} (h : 0 ≤ x ∧ x < 18446744073709551616) : x % 18446744073709551616 = x ∧ IntKind.u64.wrap x = x := by
  refine ⟨Int.emod_eq_of_lt h.1 h.2, ?_⟩
  simp [IntKind.wrap, IntKind.signed, IntKind.bits, Int.emod_eq_of_lt h.1 h.2]
/-- A whole first frame is not moved by what stands behind it. -/
theorem oneF_more {b : List Int} (h : (oneF b).2.2 = 0) (r : List Int) : oneF (b ++ r) = oneF b := by
  have hl : (b ++ r).length = b.length + r.length := List.length_append
  unfold oneF at h ⊢
  split at h
  · cases h
  rename_i c1
  split at h
  · cases h
  rename_i c2
  split at h
  · cases h
  rename_i c3
  split at h
  · rename_i c4
    have t4 : (b ++ r).take 4 = b.take 4 := List.take_append_of_le_length (by omega)
    have d4 : ((b ++ r).drop 4).take 4 = (b.drop 4).take 4 := by
      rw [List.drop_append_of_le_length (by omega), List.take_append_of_le_length (by rw [List.length_drop]; omega)]
    have d8 : ((b ++ r).drop 8).take (be (b.take 4)).toNat = (b.drop 8).take (be (b.take 4)).toNat := by
      rw [List.drop_append_of_le_length (by omega), List.take_append_of_le_length (by rw [List.length_drop]; omega)]
    rw [t4, d4, d8, hl, if_neg (by omega), if_neg c2, if_neg (by omega), if_pos c4, if_neg c1, if_neg c2, if_neg c3]
  · cases h
theorem ldF_more {b : List Int} (h : 0 < (ldF b).1) (r : List Int) : ldF (b ++ r) = ldF b := by
  by_cases h0 : (oneF b).2.2 ≠ 0 ∨ (oneF b).1.length < 8
  · unfold ldF at h
    rw [if_pos h0] at h
    exact absurd h (by decide)
  · unfold ldF
    rw [oneF_more (by omega) r]

/-! ### What files hold, behind each call -/
theorem burn_held (D : DkV) (z : Int) : heldR D.burn z = heldR D z := by
  unfold heldR DkV.burn
  split <;> rfl
theorem set_held (D : DkV) {y z : Int} (hy : 0 ≤ y ∧ y < 3) (hz : 0 ≤ z ∧ z < 3) (v : FlV) : heldR (D.set z.toNat v) y = if y = z then v.held else heldR D y := by
  have hc : (z = 0 ∨ z = 1 ∨ z = 2) ∧ (y = 0 ∨ y = 1 ∨ y = 2) := by omega
  obtain ⟨rfl | rfl | rfl, rfl | rfl | rfl⟩ := hc <;> rfl
theorem ap_held {D : DkV} {y z : Int} (hy : 0 ≤ y ∧ y < 3) (b : List Int) : heldR (apD D z b).1 y = heldR D y ∨ (y = z ∧ heldR (apD D z b).1 y = heldR D y ++ b) := by
  unfold apD
  split
  · exact .inl rfl
  rename_i hn
  have hz : 0 ≤ z ∧ z < 3 := by unfold noFile at hn; omega
  split
  · exact .inl rfl
  split
  · exact .inl rfl
  rw [burn_held, set_held D hy hz]
  by_cases h : y = z
  · refine .inr ⟨h, ?_⟩
    rw [if_pos h, FlV.step_held, StV.all_put, h]
    rfl
  · rw [if_neg h]; exact .inl rfl
theorem ap_held_ok {D : DkV} {z : Int} {b : List Int} (h : (apD D z b).2 = 0) : heldR (apD D z b).1 z = heldR D z ++ b := by
  unfold apD at h ⊢
  split
  · rename_i hn
    rw [if_pos hn] at h
    exact absurd h (show ¬ (1 : Int) = 0 by decide)
  rename_i hn
  rw [if_neg hn] at h
  have hz : 0 ≤ z ∧ z < 3 := by unfold noFile at hn; omega
  split
  · rename_i hd
    rw [if_pos hd] at h
    exact absurd h (show ¬ (18 : Int) = 0 by decide)
  rename_i hd
  rw [if_neg hd] at h
  split
  · rename_i hr
    rw [if_pos hr] at h
    exact absurd h (show ¬ (17 : Int) = 0 by decide)
  rw [burn_held, set_held D hz hz, if_pos rfl, FlV.step_held, StV.all_put]
  rfl
theorem ct_held {D : DkV} {y z n : Int} (hy : 0 ≤ y ∧ y < 3) (h : y ≠ z) : heldR (ctD D z n).1 y = heldR D y := by
  unfold ctD
  split
  · rfl
  rename_i hn
  have hz : 0 ≤ z ∧ z < 3 := by unfold noFile at hn; omega
  split
  · rfl
  rw [burn_held, set_held D hy hz, if_neg h]
theorem ct_held_ok {D : DkV} {z : Int} (h : (ctD D z 0).2 = 0) : heldR (ctD D z 0).1 z = [] := by
  unfold ctD at h ⊢
  split
  · rename_i hn
    rw [if_pos hn] at h
    exact absurd h (show ¬ (1 : Int) = 0 by decide)
  rename_i hn
  rw [if_neg hn] at h
  have hz : 0 ≤ z ∧ z < 3 := by unfold noFile at hn; omega
  split
  · rename_i hd
    rw [if_pos hd] at h
    exact absurd h (show ¬ (18 : Int) = 0 by decide)
  rw [burn_held, set_held D hz hz, if_pos rfl, FlV.step_held, StV.all_cut]
  exact List.take_zero
theorem sy_held {D : DkV} {y z : Int} (hy : 0 ≤ y ∧ y < 3) : heldR (syD D z).1 y = heldR D y := by
  unfold syD
  split
  · rfl
  rename_i hn
  have hz : 0 ≤ z ∧ z < 3 := by unfold noFile at hn; omega
  split
  · rfl
  split
  · exact burn_held D y
  rw [set_held _ hy hz]
  by_cases h : y = z
  · rw [if_pos h, h]; rfl
  · rw [if_neg h]; exact burn_held D y
theorem cl_held {D : DkV} {y z : Int} (hy : 0 ≤ y ∧ y < 3) (h : y ≠ z) : heldR (clS D z).1 y = heldR D y := by
  unfold clS
  split
  · unfold keD
    split
    · rw [sy_held hy, ct_held hy h]
    · exact ct_held hy h
  · rfl
theorem cl_held_ok {D : DkV} {z : Int} (hz : 0 ≤ z ∧ z < 3) (h : (clS D z).2 = 0) : heldR (clS D z).1 z = [] := by
  unfold clS at h ⊢
  by_cases h0 : 0 < (heldR D z).length ∨ 0 < (D.f z.toNat).units
  · rw [if_pos h0] at h ⊢
    unfold keD at h ⊢
    by_cases h1 : (ctD D z 0).2 = 0
    · rw [if_pos h1, sy_held hz]
      exact ct_held_ok h1
    · rw [if_neg h1] at h
      exact absurd h h1
  · rw [if_neg h0]
    exact List.length_eq_zero_iff.1 (by show (heldR D z).length = 0; omega)
theorem pr_held {D : DkV} {y z : Int} (hy : 0 ≤ y ∧ y < 3) (h : y ≠ z) (b : List Int) : heldR (prD D z b).1 y = heldR D y := by
  have ha : heldR (apD D z (frB b)).1 y = heldR D y := (ap_held hy (frB b)).resolve_right (fun e => h e.1)
  unfold prD
  split
  · rfl
  split
  · rw [sy_held hy, ha]
  · exact ha
theorem pr_held_ok {D : DkV} {z : Int} (hz : 0 ≤ z ∧ z < 3) {b : List Int} (h : (prD D z b).2 = 0) : heldR (prD D z b).1 z = heldR D z ++ frB b := by
  unfold prD at h ⊢
  split
  · rename_i h0
    rw [if_pos h0] at h
    exact absurd h (show ¬ (1 : Int) = 0 by decide)
  rename_i h0
  rw [if_neg h0] at h
  by_cases h1 : (apD D z (frB b)).2 = 0
  · rw [if_pos h1, sy_held hz]
    exact ap_held_ok h1
  · rw [if_neg h1] at h
    exact absurd h h1

/-! ### What the current file has -/
/-- What a file holds; no file holds nothing. -/
def readR (D : DkV) (z : Int) : List Int := if 0 ≤ z then heldR D z else []
theorem read_by {D : DkV} (h : D.By) (z : Int) : ∀ y ∈ readR D z, isByte y := by
  unfold readR
  split
  · exact (h.f _).held
  · exact fun _ h => absurd h (List.not_mem_nil)
theorem read_len {D : DkV} {T : Nat} (hO : D.Ok T) (z : Int) : (readR D z).length ≤ 65536 := by
  unfold readR
  split
  · exact Nat.le_trans (FlV.held_le _) (hO.f _).need
  · exact Nat.zero_le _
/-- What a file has: nothing, where its turn is 0. -/
def hasF (D : DkV) (z : Int) : Int × List Int := if 0 < (ldF (readR D z)).1 then ldF (readR D z) else (0, [])
theorem one_len (X : List Int) : (oneF X).1.length ≤ 65536 := by
  by_cases h : (oneF X).2.2 = 0
  · exact (oneF_ok h).2.2.1
  · rw [(oneF_bad h).1]; exact Nat.zero_le _
theorem has_of {D : DkV} {z : Int} {t : Int} {x : List Int} (ht : hasF D z = (t, x)) {BD : List Int} (hb : (oneF (readR D z)).1 = BD) (hr : ∀ y ∈ BD, isByte y) :
    (BD.length < 8 ∧ t = 0 ∧ x = []) ∨ (8 ≤ BD.length ∧ be (BD.take 8) = 0 ∧ t = 0 ∧ x = []) ∨ (8 ≤ BD.length ∧ 0 < be (BD.take 8) ∧ t = be (BD.take 8) ∧ x = BD.drop 8) := by
  unfold hasF at ht
  by_cases h8 : BD.length < 8
  · have h0 : ldF (readR D z) = (0, []) := by unfold ldF; rw [hb, if_pos (.inr h8)]
    rw [h0, if_neg (show ¬ (0 : Int) < 0 by decide)] at ht
    injection ht with e1 e2
    exact .inl ⟨h8, e1.symm, e2.symm⟩
  have hE : (oneF (readR D z)).2.2 = 0 := by
    by_cases h : (oneF (readR D z)).2.2 = 0
    · exact h
    · have h1 := (oneF_bad h).1
      rw [hb] at h1
      rw [h1] at h8
      exact absurd (show ([] : List Int).length < 8 by decide) h8
  have h0 : ldF (readR D z) = (be (BD.take 8), BD.drop 8) := by unfold ldF; rw [hb, if_neg (by omega)]
  have h1 := (be_range (BD.take 8) 8 (by rw [List.length_take]; omega) (fun y hy => hr y (List.mem_of_mem_take hy))).1
  rw [h0] at ht
  by_cases hp : 0 < be (BD.take 8)
  · rw [if_pos hp] at ht
    injection ht with e1 e2
    exact .inr (.inr ⟨by omega, hp, e1.symm, e2.symm⟩)
  · rw [if_neg hp] at ht
    injection ht with e1 e2
    exact .inr (.inl ⟨by omega, by omega, e1.symm, e2.symm⟩)
theorem has_turn {D : DkV} (hD : D.By) {z : Int} (hz : 0 ≤ z) : (hasF D z).1 = (ldF (heldR D z)).1 := by
  have h := (ldF_ok (b := heldR D z) (hD.f _).held).1
  unfold hasF readR
  rw [if_pos hz]
  by_cases hp : 0 < (ldF (heldR D z)).1
  · rw [if_pos hp]
  · rw [if_neg hp]
    show (0 : Int) = _
    omega
/-- What the slots say is what the current file has. -/
def Cur (D : DkV) (s : SlV) : Prop := 0 < s.turn → ldF (heldR D s.now) = (s.turn, s.body)
theorem SlV.Ok.now3 {s : SlV} (h : s.Ok) : s.now = -1 ∨ (0 ≤ s.now ∧ s.now < 3) := by
  have h1 := h.n
  have h2 := h.a
  have h3 := h.b
  omega
theorem SlV.Ok.cur {s : SlV} (h : s.Ok) (hp : 0 < s.turn) : 0 ≤ s.now ∧ s.now < 3 ∧ s.now ≠ s.to := by
  have h1 := h.n
  have h2 := h.a
  have h3 := h.b
  have h4 := h.ab
  unfold SlV.to
  split <;> omega
theorem has_cur {D : DkV} {s : SlV} (h : s.Ok) (hc : Cur D s) : hasF D s.now = (s.turn, s.body) := by
  by_cases hp : 0 < s.turn
  · have h1 := hc hp
    unfold hasF readR
    rw [if_pos (h.cur hp).1, h1, if_pos hp]
  · rcases h.n with ⟨h1, h2, h3⟩ | ⟨h1, _⟩
    · have e : readR D s.now = [] := by rw [h2]; rfl
      unfold hasF
      rw [e, ldF_nil, if_neg (by decide), h1, h3]
    · exact absurd h1 hp
theorem op_now {D : DkV} {a b : Int} {t u : Int} (ha : (ldF (heldR D a)).1 = t) (hb : (ldF (heldR D b)).1 = u) : (opS D a b).now = if t < u then b else if 0 < t then a else -1 := by
  subst ha; subst hb
  unfold opS
  split
  · rfl
  · split <;> rfl
theorem op_cur {D : DkV} {a b : Int} : Cur D (opS D a b) := by
  unfold opS
  split
  · exact fun _ => rfl
  · split
    · exact fun _ => rfl
    · intro hp
      exact absurd hp (show ¬ (0 : Int) < 0 by decide)
theorem Cur.moved {D D' : DkV} {s : SlV} (hc : Cur D s) (hs : s.Ok) (h : ∀ y, 0 ≤ y ∧ y < 3 → y = s.now → heldR D' y = heldR D y) : Cur D' s := by
  intro hp
  obtain ⟨h1, h2, _⟩ := hs.cur hp
  rw [h _ ⟨h1, h2⟩ rfl]
  exact hc hp
theorem ap_cur {D : DkV} {s : SlV} (hc : Cur D s) (hs : s.Ok) (z : Int) (b : List Int) : Cur (apD D z b).1 s := by
  intro hp
  obtain ⟨h1, h2, _⟩ := hs.cur hp
  have h := hc hp
  rcases ap_held (D := D) (z := z) ⟨h1, h2⟩ b with e | ⟨_, e⟩
  · rw [e]; exact h
  · rw [e, ldF_more (by rw [h]; exact hp), h]
theorem sy_cur {D : DkV} {s : SlV} (hc : Cur D s) (hs : s.Ok) (z : Int) : Cur (syD D z).1 s := hc.moved hs (fun _ hy _ => sy_held hy)
theorem arm_cur {D : DkV} {s : SlV} (hc : Cur D s) (n : Int) : Cur (armD D n) s := hc
theorem cl_cur {D : DkV} {s : SlV} (hc : Cur D s) (hs : s.Ok) : Cur (clS D s.to).1 s := by
  intro hp
  obtain ⟨h1, h2, h3⟩ := hs.cur hp
  rw [cl_held ⟨h1, h2⟩ h3]
  exact hc hp
theorem pr_cur {D : DkV} {s : SlV} (hc : Cur D s) (hs : s.Ok) (b : List Int) : Cur (prD D s.to b).1 s := by
  intro hp
  obtain ⟨h1, h2, h3⟩ := hs.cur hp
  rw [pr_held ⟨h1, h2⟩ h3]
  exact hc hp
theorem pt_cur {D : DkV} {s : SlV} (hc : Cur D s) (hs : s.Ok) (x : List Int) : Cur (ptS D s x).1 (ptS D s x).2.1 := by
  have ht := hs.to
  unfold ptS
  split
  · exact hc
  rename_i h0
  split
  · exact cl_cur hc hs
  rename_i h1
  split
  · exact pr_cur (cl_cur hc hs) hs _
  rename_i h2
  intro _
  have h1 : (clS D s.to).2 = 0 := by omega
  have h2 : (prD (clS D s.to).1 s.to (s.next x)).2 = 0 := by omega
  have ht3 := hs.t
  show ldF (heldR (prD (clS D s.to).1 s.to (s.next x)).1 s.to) = (s.turn + 1, x)
  rw [pr_held_ok ht h2, cl_held_ok ht h1, List.nil_append]
  have h := ldF_put (t := s.turn + 1) (x := x) (r := []) (by omega) (by omega)
  rw [List.append_nil] at h
  exact h

/-! ### Without a fuse -/
/-- A disk without a fuse, with room for three files of M bytes, of which none needs more. -/
structure Nf (M : Nat) (D : DkV) : Prop where
  f : D.fuse = 0
  d : D.down = false
  r : 3 * (M : Int) ≤ D.room
  n0 : D.f0.need ≤ M
  n1 : D.f1.need ≤ M
  n2 : D.f2.need ≤ M
theorem Nf.n {M : Nat} {D : DkV} (h : Nf M D) (i : Nat) : (D.f i).need ≤ M := by
  unfold DkV.f
  split
  · exact h.n0
  · split
    · exact h.n1
    · exact h.n2
theorem Nf.set {M : Nat} {D : DkV} (h : Nf M D) (i : Nat) {v : FlV} (hv : v.need ≤ M) : Nf M (D.set i v) := by
  unfold DkV.set
  split
  · exact ⟨h.f, h.d, h.r, hv, h.n1, h.n2⟩
  · split
    · exact ⟨h.f, h.d, h.r, h.n0, hv, h.n2⟩
    · exact ⟨h.f, h.d, h.r, h.n0, h.n1, hv⟩
theorem Nf.used {M : Nat} {D : DkV} (h : Nf M D) : (D.used : Int) ≤ D.room := by
  have h0 := h.n0
  have h1 := h.n1
  have h2 := h.n2
  have h3 := h.r
  unfold DkV.used
  omega
theorem sy_nf {M : Nat} {D : DkV} (h : Nf M D) {z : Int} (hz : 0 ≤ z ∧ z < 3) : ∃ D', syD D z = (D', 0) ∧ Nf M D' := by
  refine ⟨_, syD_none h.f h.d hz, h.set _ ?_⟩
  show (heldR D z).length ≤ M
  exact Nat.le_trans (FlV.held_le _) (h.n _)
theorem ct_nf {M : Nat} {D : DkV} (h : Nf M D) {z : Int} (hz : 0 ≤ z ∧ z < 3) : ∃ D', ctD D z 0 = (D', 0) ∧ Nf M D' := by
  refine ⟨_, ctD_none h.f h.d hz (Int.le_refl 0) (Int.natCast_nonneg _), h.set _ ?_⟩
  have h1 := h.n z.toNat
  have h2 := cut_len (0 : Int).toNat (D.f z.toNat).held
  have h3 := FlV.held_le (D.f z.toNat)
  rw [FlV.step_need]
  omega
theorem cl_nf {M : Nat} {D : DkV} (h : Nf M D) {z : Int} (hz : 0 ≤ z ∧ z < 3) : ∃ D', clS D z = (D', 0) ∧ Nf M D' ∧ heldR D' z = [] := by
  have key : ∃ D', clS D z = (D', 0) ∧ Nf M D' := by
    unfold clS
    split
    · obtain ⟨D1, e1, n1⟩ := ct_nf h hz
      obtain ⟨D2, e2, n2⟩ := sy_nf n1 hz
      unfold keD
      rw [e1]
      dsimp only
      rw [if_pos rfl, e2]
      exact ⟨D2, rfl, n2⟩
    · exact ⟨D, rfl, h⟩
  obtain ⟨D', e, n⟩ := key
  have hh := cl_held_ok (D := D) hz (by rw [e])
  rw [e] at hh
  exact ⟨D', e, n, hh⟩
theorem ap_nf {M : Nat} {D : DkV} (h : Nf M D) {z : Int} (hz : 0 ≤ z ∧ z < 3) (h0 : heldR D z = []) {b : List Int} (hb : b.length ≤ M) : ∃ D', apD D z b = (D', 0) ∧ Nf M D' := by
  have hv : ((D.f z.toNat).step (.put b)).need ≤ M := by
    have h1 := h.n z.toNat
    have h2 := put_len b (D.f z.toNat).held
    have h3 : (D.f z.toNat).held.length = 0 := by
      have : (heldR D z).length = 0 := by rw [h0]; rfl
      exact this
    rw [FlV.step_need]
    omega
  have hn := h.set z.toNat hv
  have hh := DkV.set_head D z.toNat ((D.f z.toNat).step (.put b))
  have hu := hn.used
  rw [hh.1] at hu
  refine ⟨_, ?_, hn⟩
  unfold apD
  rw [if_neg (by unfold noFile; omega), if_neg (by rw [h.d]; decide), if_neg (by omega), burn_none hn.f]
  unfold DkV.ans
  rw [if_neg (by rw [hn.d]; decide)]
theorem pr_nf {M : Nat} {D : DkV} (h : Nf M D) {z : Int} (hz : 0 ≤ z ∧ z < 3) (h0 : heldR D z = []) {b : List Int} (h1 : 1 ≤ b.length) (hb : 8 + b.length ≤ M) (hm : b.length ≤ 65536) : ∃ D', prD D z b = (D', 0) ∧ Nf M D' := by
  obtain ⟨D1, e1, n1⟩ := ap_nf h hz h0 (b := frB b) (by rw [frB_len]; omega)
  obtain ⟨D2, e2, n2⟩ := sy_nf n1 hz
  unfold prD
  rw [if_neg (by omega), e1]
  dsimp only
  rw [if_pos rfl, e2]
  exact ⟨D2, rfl, n2⟩
theorem pt_nf {M : Nat} {D : DkV} {s : SlV} (h : Nf M D) (hs : s.Ok) {x : List Int} (hx : 16 + x.length ≤ M) (hx2 : x.length ≤ 65528) (ht : s.turn + 1 ≠ 18446744073709551616) :
    ∃ D', ptS D s x = (D', { s with now := s.to, turn := s.turn + 1, body := x }, 0) ∧ Nf M D' := by
  obtain ⟨D1, e1, n1, h1⟩ := cl_nf h hs.to
  have hl := next_len s x
  obtain ⟨D2, e2, n2⟩ := pr_nf n1 hs.to h1 (b := s.next x) (by omega) (by omega) (by omega)
  unfold ptS
  rw [if_neg (by omega), e1]
  dsimp only
  rw [if_neg (by decide), e2]
  dsimp only
  rw [if_neg (by decide)]
  exact ⟨D2, rfl, n2⟩
end Go.Proofs.YtcohbhimhacedaaGreatDoor

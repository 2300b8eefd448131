/-
  Texts of stages that were proved on their own, joined: CrcBits, DkMath, EqArr. Each begins with its own words.
-/
import Derived.Test.YtinmmhbiomcdoaaGreatDoorJVaLawN4
import Derived.Test.YtinmmhbiomcdoaaGreatDoorByteMath
import Derived.Test.YtinmmhbiomcdoaaGreatDoorSlices
import Derived.Laws.StructEq

/-
  A bit of bytes turned, and what that does to their sum: on numbers. No Go function is spoken of.
-/
namespace Go.Proofs.YtinmmhbiomcdoaaGreatDoor
open Go.RowKit

theorem turn_set (l : List (BitVec 32)) : ∀ t, t < 8 * l.length → turn l t = l.set (t / 8) (l.getD (t / 8) 0#32 ^^^ (1#32 <<< (t % 8))) := by
  induction l with
  | nil => intro t h; simp at h
  | cons b bs ih =>
    intro t h
    rw [List.length_cons] at h
    unfold turn
    by_cases h8 : t < 8
    · rw [if_pos h8, show t / 8 = 0 by omega, Nat.mod_eq_of_lt h8]
      rfl
    · rw [if_neg h8, ih (t - 8) (by omega)]
      have e : t / 8 = (t - 8) / 8 + 1 := by omega
      have e2 : t % 8 = (t - 8) % 8 := by omega
      rw [e, e2]
      rfl
theorem bv_nv8 (z : BitVec 8) : bv (nv8 z) = z.setWidth 32 := by
  unfold nv8
  rw [bv_natCast]
  apply BitVec.eq_of_toNat_eq
  simp
theorem bv_xor8 {a b : Int} (ha : 0 ≤ a ∧ a < 256) (hb : 0 ≤ b ∧ b < 256) : bv (bits .xor .u8 a b) = bv a ^^^ bv b := by
  obtain ⟨x, rfl⟩ := bv8_range a ha.1 ha.2
  obtain ⟨y, rfl⟩ := bv8_range b hb.1 hb.2
  rw [xor8, bv8_nv8, bv8_nv8, bv_nv8, bv_nv8, bv_nv8]
  apply BitVec.eq_of_getLsbD_eq
  intro i hi
  simp [hi]
theorem bit_shl (p : Nat) (h : p < 8) : bv (2 ^ p) = 1#32 <<< p ∧ (0 : Int) ≤ 2 ^ p ∧ (2 : Int) ^ p < 256 := by
  revert h
  revert p
  decide
theorem bvs_set (zs : List Int) (k : Nat) (v : Int) : bvs (zs.set k v) = (bvs zs).set k (bv v) := List.map_set
theorem bvs_getD (zs : List Int) (k : Nat) (h : k < zs.length) : (bvs zs).getD k 0#32 = bv (zs.getD k 0) := by
  unfold bvs
  rw [List.getD_eq_getElem?_getD, List.getElem?_map, List.getD_eq_getElem?_getD, List.getElem?_eq_getElem h]
  rfl
/-- One turned bit of numbers. -/
theorem more_turned (zs : List Int) (t n : Nat) (hn : zs.length = n) (ht : t < 8 * n) (hr : ∀ z ∈ zs, 0 ≤ z ∧ z < 256) (s : BitVec 32) :
    more s (bvs (zs.set (t / 8) (bits .xor .u8 (zs.getD (t / 8) 0) (2 ^ (t % 8))))) = more s (bvs zs) ^^^ mvn (8 * n - t) 1#32 := by
  have hk : t / 8 < zs.length := by omega
  have hz := getD_range (p := fun x => 0 ≤ x ∧ x < 256) hr (t / 8) hk
  have hb := bit_shl (t % 8) (Nat.mod_lt _ (by decide))
  rw [bvs_set, bv_xor8 hz hb.2, hb.1, ← bvs_getD zs (t / 8) hk, ← turn_set _ _ (by rw [bvs_len, hn]; exact ht), more_turn _ _ _ (by rw [bvs_len, hn]; exact ht), bvs_len, hn]
theorem shr_odd (Y : BitVec 32) (i : Nat) : (nv Y / 2 ^ i % 2 = 1) ↔ Y.getLsbD i = true := by
  rw [shr_nv, nv_odd, BitVec.getLsbD_ushiftRight, Nat.add_zero]
theorem turned_ne {s : BitVec 32} {xs zs : List Int} {Y : BitVec 32} {N : Nat} (h : more (s ^^^ 4294967295#32) (bvs zs) = more (s ^^^ 4294967295#32) (bvs xs) ^^^ mvn N Y) (hY : Y ≠ 0#32) : nv (crcOf s (bvs zs)) ≠ nv (crcOf s (bvs xs)) := by
  intro he
  have h1 := nv_inj he
  unfold crcOf at h1
  rw [h] at h1
  apply hY
  apply mvn_eq_zero N
  have h2 : ∀ a d f : BitVec 32, (a ^^^ d) ^^^ f = a ^^^ f → d = 0#32 := by
    intro a d f h
    have h3 : a ^^^ ((a ^^^ d) ^^^ f) ^^^ f = a ^^^ (a ^^^ f) ^^^ f := by rw [h]
    rw [← BitVec.xor_assoc, ← BitVec.xor_assoc, ← BitVec.xor_assoc, BitVec.xor_self, BitVec.zero_xor, BitVec.zero_xor, BitVec.xor_assoc, BitVec.xor_self, BitVec.xor_zero] at h3
    exact h3
  exact h2 _ _ _ h1
end Go.Proofs.YtinmmhbiomcdoaaGreatDoor

/-
  A disk on lists: steps (bytes put to the end, or a cut), what a file holds with so many units done, its need; a disk and what its calls come to. No Go function is spoken of. No conditions.
-/
namespace Go.Proofs.YtinmmhbiomcdoaaGreatDoor
open Go.RowKit

inductive StV where
  | put (xs : List Int)
  | cut (n : Nat)
def StV.units : StV → Nat
  | .put xs => xs.length
  | .cut _ => 1
/-- A step done to bytes, with u of its units. -/
def StV.act (s : StV) (b : List Int) (u : Nat) : List Int := match s with
  | .put xs => b ++ xs.take u
  | .cut n => if u = 0 then b else b.take n
def StV.all (s : StV) (b : List Int) : List Int := s.act b s.units
theorem StV.all_put (xs b : List Int) : (StV.put xs).all b = b ++ xs := by simp [StV.all, StV.act, StV.units]
theorem StV.all_cut (n : Nat) (b : List Int) : (StV.cut n).all b = b.take n := by simp [StV.all, StV.act, StV.units]
theorem StV.act_zero (s : StV) (b : List Int) : s.act b 0 = b := by cases s <;> simp [StV.act]
def allL (K : List Int) (S : List StV) : List Int := S.foldl (fun b s => s.all b) K
def unitsL : List StV → Nat
  | [] => 0
  | s :: r => s.units + unitsL r
def doneL : List Int → List StV → Nat → List Int
  | b, [], _ => b
  | b, s :: r, u => doneL (s.act b (min u s.units)) r (u - s.units)
def needF : List Int → Nat → List StV → Nat
  | _, m, [] => m
  | b, m, s :: r => needF (s.all b) (max m (s.all b).length) r
def needL (K : List Int) (S : List StV) : Nat := needF K K.length S
def StV.ok (s : StV) (b : List Int) : Prop := match s with
  | .put _ => True
  | .cut n => n ≤ b.length
def okF : List Int → List StV → Prop
  | _, [] => True
  | b, s :: r => s.ok b ∧ okF (s.all b) r

theorem allL_snoc (K : List Int) (S : List StV) (s : StV) : allL K (S ++ [s]) = s.all (allL K S) := by simp [allL]
theorem allL_cons (K : List Int) (S : List StV) (s : StV) : allL K (s :: S) = allL (s.all K) S := rfl
theorem unitsL_append : ∀ (A B : List StV), unitsL (A ++ B) = unitsL A + unitsL B
  | [], B => by simp [unitsL]
  | s :: r, B => by simp only [List.cons_append, unitsL, unitsL_append r B]; omega
theorem unitsL_snoc (S : List StV) (s : StV) : unitsL (S ++ [s]) = unitsL S + s.units := by rw [unitsL_append]; simp [unitsL]
theorem unitsL_take (S : List StV) (i : Nat) (s : StV) (h : S[i]? = some s) : unitsL (S.take (i + 1)) = unitsL (S.take i) + s.units := by
  obtain ⟨hi, he⟩ := List.getElem?_eq_some_iff.1 h
  rw [List.take_succ_eq_append_getElem hi, unitsL_snoc, he]
theorem unitsL_take_le (S : List StV) (i : Nat) : unitsL (S.take i) ≤ unitsL S := by
  have h := congrArg unitsL (List.take_append_drop i S)
  rw [unitsL_append] at h
  omega
theorem doneL_snoc : ∀ (S : List StV) (K : List Int) (s : StV) (u : Nat), doneL K (S ++ [s]) u = s.act (doneL K S u) (min (u - unitsL S) s.units)
  | [], K, s, u => by simp [doneL, unitsL]
  | t :: r, K, s, u => by
    show doneL (t.act K (min u t.units)) (r ++ [s]) (u - t.units) = _
    rw [doneL_snoc r]
    show s.act (doneL _ r (u - t.units)) (min (u - t.units - unitsL r) s.units) = s.act (doneL _ r (u - t.units)) (min (u - (t.units + unitsL r)) s.units)
    rw [Nat.sub_sub]
theorem doneL_zero : ∀ (S : List StV) (K : List Int), doneL K S 0 = K
  | [], _ => rfl
  | s :: r, K => by
    show doneL (s.act K (min 0 s.units)) r (0 - s.units) = K
    rw [Nat.zero_min, StV.act_zero, Nat.zero_sub, doneL_zero r]
theorem doneL_append : ∀ (A B : List StV) (K : List Int) (u : Nat), doneL K (A ++ B) u = doneL (doneL K A u) B (u - unitsL A)
  | [], B, K, u => by simp [doneL, unitsL]
  | t :: r, B, K, u => by
    show doneL (t.act K (min u t.units)) (r ++ B) (u - t.units) = _
    rw [doneL_append r]
    show _ = doneL (doneL _ r (u - t.units)) B (u - (t.units + unitsL r))
    rw [Nat.sub_sub]
theorem doneL_stop (S : List StV) (i : Nat) (K : List Int) (u : Nat) (h : u ≤ unitsL (S.take i)) : doneL K S u = doneL K (S.take i) u := by
  have h1 := doneL_append (S.take i) (S.drop i) K u
  rw [List.take_append_drop, show u - unitsL (S.take i) = 0 by omega, doneL_zero] at h1
  exact h1
theorem doneL_all : ∀ (S : List StV) (K : List Int) (u : Nat), unitsL S ≤ u → doneL K S u = allL K S
  | [], _, _, _ => rfl
  | s :: r, K, u, h => by
    have h' : s.units + unitsL r ≤ u := h
    show doneL (s.act K (min u s.units)) r (u - s.units) = allL (s.act K s.units) r
    rw [Nat.min_eq_right (by omega)]
    exact doneL_all r _ _ (by omega)
theorem doneL_take (S : List StV) (i : Nat) (s : StV) (h : S[i]? = some s) (K : List Int) (u : Nat) : doneL K (S.take (i + 1)) u = s.act (doneL K (S.take i) u) (min (u - unitsL (S.take i)) s.units) := by
  obtain ⟨hi, he⟩ := List.getElem?_eq_some_iff.1 h
  rw [List.take_succ_eq_append_getElem hi, doneL_snoc, he]
theorem allL_take (S : List StV) (i : Nat) (s : StV) (h : S[i]? = some s) (K : List Int) : allL K (S.take (i + 1)) = s.all (allL K (S.take i)) := by
  obtain ⟨hi, he⟩ := List.getElem?_eq_some_iff.1 h
  rw [List.take_succ_eq_append_getElem hi, allL_snoc, he]
theorem okF_snoc : ∀ (S : List StV) (K : List Int) (s : StV), okF K (S ++ [s]) ↔ okF K S ∧ s.ok (allL K S)
  | [], K, s => by simp [okF, allL]
  | t :: r, K, s => by
    show (t.ok K ∧ okF (t.all K) (r ++ [s])) ↔ (t.ok K ∧ okF (t.all K) r) ∧ s.ok (allL (t.all K) r)
    rw [okF_snoc r, and_assoc]
theorem okF_take : ∀ (S : List StV) (K : List Int) (i : Nat), okF K S → okF K (S.take i)
  | [], _, i, _ => by simp [okF]
  | _ :: _, _, 0, _ => trivial
  | _ :: r, _, i + 1, h => ⟨h.1, okF_take r _ i h.2⟩
theorem okF_get (S : List StV) (K : List Int) (i : Nat) (s : StV) (h : okF K S) (hi : S[i]? = some s) : s.ok (allL K (S.take i)) := by
  obtain ⟨h1, he⟩ := List.getElem?_eq_some_iff.1 hi
  have h2 := okF_take S K (i + 1) h
  rw [List.take_succ_eq_append_getElem h1, okF_snoc, he] at h2
  exact h2.2
/-- Where a cut is done, the bytes are long enough. -/
theorem cut_fits (S : List StV) (K : List Int) (i n u : Nat) (h : okF K S) (hi : S[i]? = some (.cut n)) (hu : unitsL (S.take i) < u) : n ≤ (doneL K (S.take i) u).length := by
  rw [doneL_all _ _ _ (by omega)]
  exact okF_get S K i _ h hi
theorem needF_snoc : ∀ (S : List StV) (b : List Int) (m : Nat) (s : StV), needF b m (S ++ [s]) = max (needF b m S) (allL b (S ++ [s])).length
  | [], _, _, _ => rfl
  | _ :: r, _, _, s => needF_snoc r _ _ s
theorem needL_snoc (K : List Int) (S : List StV) (s : StV) : needL K (S ++ [s]) = max (needL K S) (s.all (allL K S)).length := by
  unfold needL
  rw [needF_snoc, allL_snoc]
theorem needF_le : ∀ (S : List StV) (b : List Int) (m : Nat), m ≤ needF b m S
  | [], _, _ => Nat.le_refl _
  | _ :: r, _, _ => Nat.le_trans (Nat.le_max_left _ _) (needF_le r _ _)
theorem doneF_le : ∀ (S : List StV) (b : List Int) (m u : Nat), b.length ≤ m → (doneL b S u).length ≤ needF b m S
  | [], _, _, _, h => h
  | s :: r, b, m, u, h => by
    show (doneL (s.act b (min u s.units)) r (u - s.units)).length ≤ needF (s.all b) (max m (s.all b).length) r
    by_cases hu : s.units ≤ u
    · rw [Nat.min_eq_right hu]
      exact doneF_le r _ _ _ (Nat.le_max_right _ _)
    · rw [show u - s.units = 0 by omega, doneL_zero, Nat.min_eq_left (by omega)]
      refine Nat.le_trans ?_ (needF_le r _ _)
      cases s with
      | put xs =>
        have := StV.all_put xs b
        simp only [StV.units] at hu
        have h2 : ((StV.put xs).act b u).length ≤ ((StV.put xs).all b).length := by
          rw [this]
          simp only [StV.act, List.length_append, List.length_take]
          omega
        exact Nat.le_trans h2 (Nat.le_max_right _ _)
      | cut n =>
        obtain rfl : u = 0 := by simp only [StV.units] at hu; omega
        rw [StV.act_zero]
        exact Nat.le_trans h (Nat.le_max_left _ _)
theorem doneL_le (K : List Int) (S : List StV) (u : Nat) : (doneL K S u).length ≤ needL K S := doneF_le S K K.length u (Nat.le_refl _)
theorem allL_le (K : List Int) (S : List StV) : (allL K S).length ≤ needL K S := by
  rw [← doneL_all S K _ (Nat.le_refl _)]
  exact doneL_le K S _
theorem kept_le (K : List Int) (S : List StV) : K.length ≤ needL K S := needF_le S K K.length
theorem needL_take_succ (K : List Int) (S : List StV) (i : Nat) (hi : i < S.length) : needL K (S.take (i + 1)) = max (needL K (S.take i)) (allL K (S.take (i + 1))).length := by
  rw [List.take_succ_eq_append_getElem hi, needL_snoc, allL_snoc]
theorem needL_take_le (K : List Int) (S : List StV) (i : Nat) : needL K (S.take i) ≤ needL K S := by
  by_cases hi : i < S.length
  · have h1 := needL_take_succ K S i hi
    have h2 := needL_take_le K S (i + 1)
    have h3 := Nat.le_max_left (needL K (S.take i)) (allL K (S.take (i + 1))).length
    omega
  · rw [List.take_of_length_le (by omega)]
    exact Nat.le_refl _
termination_by S.length - i
theorem needL_nil (K : List Int) : needL K [] = K.length := rfl
theorem allL_nil (K : List Int) : allL K [] = K := rfl

/-- What is kept of a file, and its steps. -/
structure FlV where
  K : List Int
  S : List StV
def FlV.held (v : FlV) : List Int := allL v.K v.S
def FlV.need (v : FlV) : Nat := needL v.K v.S
def FlV.units (v : FlV) : Nat := unitsL v.S
def FlV.step (v : FlV) (s : StV) : FlV := ⟨v.K, v.S ++ [s]⟩
def FlV.settle (v : FlV) (u : Nat) : FlV := ⟨doneL v.K v.S u, []⟩
structure FlV.Ok (v : FlV) (T : Nat) : Prop where
  ok : okF v.K v.S
  len : v.S.length ≤ T
  un : v.units ≤ T * 65536
  need : v.need ≤ 65536
theorem FlV.Ok.more {v : FlV} {T T' : Nat} (h : v.Ok T) (ht : T ≤ T') : v.Ok T' := ⟨h.ok, Nat.le_trans h.len ht, Nat.le_trans h.un (Nat.mul_le_mul_right _ ht), h.need⟩
theorem FlV.settle_ok {v : FlV} {T : Nat} (h : v.Ok T) (u : Nat) : (v.settle u).Ok T :=
  ⟨trivial, Nat.zero_le _, Nat.zero_le _, Nat.le_trans (doneL_le v.K v.S u) h.need⟩
theorem FlV.settle_need {v : FlV} (u : Nat) : (v.settle u).need ≤ v.need := doneL_le v.K v.S u
theorem FlV.settle_held {v : FlV} (u : Nat) : (v.settle u).held = doneL v.K v.S u := rfl
theorem FlV.held_le (v : FlV) : v.held.length ≤ v.need := allL_le v.K v.S
theorem FlV.step_need (v : FlV) (s : StV) : (v.step s).need = max v.need (s.all v.held).length := needL_snoc v.K v.S s
theorem FlV.step_held (v : FlV) (s : StV) : (v.step s).held = s.all v.held := allL_snoc v.K v.S s
theorem FlV.step_units (v : FlV) (s : StV) : (v.step s).units = v.units + s.units := unitsL_snoc v.S s
theorem FlV.step_ok {v : FlV} {T : Nat} (h : v.Ok T) (s : StV) (hs : s.ok v.held) (hn : (s.all v.held).length ≤ 65536) (hu : s.units ≤ 65536) : (v.step s).Ok (T + 1) := by
  refine ⟨(okF_snoc v.S v.K s).2 ⟨h.ok, hs⟩, by have := h.len; show (v.S ++ [s]).length ≤ _; rw [List.length_append]; simp; omega, ?_, ?_⟩
  · rw [FlV.step_units]; have := h.un; omega
  · rw [FlV.step_need]; have := h.need; omega

/-- A disk: room, fuse, whether it is down, files. -/
structure DkV where
  room : Int
  fuse : Int
  down : Bool
  f0 : FlV
  f1 : FlV
  f2 : FlV
def DkV.f (D : DkV) (i : Nat) : FlV := if i = 0 then D.f0 else if i = 1 then D.f1 else D.f2
def DkV.set (D : DkV) (i : Nat) (v : FlV) : DkV := if i = 0 then { D with f0 := v } else if i = 1 then { D with f1 := v } else { D with f2 := v }
def DkV.used (D : DkV) : Nat := D.f0.need + D.f1.need + D.f2.need
def DkV.burn (D : DkV) : DkV := if D.fuse = 0 then D else { D with fuse := D.fuse - 1, down := decide (D.fuse - 1 = 0) }
def DkV.ans (D : DkV) : Int := if D.down = true then 18 else 0
structure DkV.Ok (D : DkV) (T : Nat) : Prop where
  room : 1 ≤ D.room ∧ D.room ≤ 65536
  fuse : 0 ≤ D.fuse ∧ D.fuse < 9223372036854775808
  used : (D.used : Int) ≤ D.room
  o0 : D.f0.Ok T
  o1 : D.f1.Ok T
  o2 : D.f2.Ok T
theorem DkV.Ok.more {D : DkV} {T T' : Nat} (h : D.Ok T) (ht : T ≤ T') : D.Ok T' := ⟨h.room, h.fuse, h.used, h.o0.more ht, h.o1.more ht, h.o2.more ht⟩
theorem DkV.Ok.f {D : DkV} {T : Nat} (h : D.Ok T) (i : Nat) : (D.f i).Ok T := by
  unfold DkV.f
  split
  · exact h.o0
  · split
    · exact h.o1
    · exact h.o2
theorem DkV.set_used (D : DkV) (i : Nat) (v : FlV) : (D.set i v).used + (D.f i).need = D.used + v.need := by
  unfold DkV.set DkV.f DkV.used
  split
  · simp only; omega
  · split
    · simp only; omega
    · simp only; omega
theorem DkV.set_ok {D : DkV} {T : Nat} (h : D.Ok T) (i : Nat) (v : FlV) (hv : v.Ok T) (hu : ((D.set i v).used : Int) ≤ D.room) : (D.set i v).Ok T := by
  unfold DkV.set at hu ⊢
  split at hu
  · rw [if_pos (by assumption)]
    exact ⟨h.room, h.fuse, hu, hv, h.o1, h.o2⟩
  · rw [if_neg (by assumption)]
    split at hu
    · rw [if_pos (by assumption)]
      exact ⟨h.room, h.fuse, hu, h.o0, hv, h.o2⟩
    · rw [if_neg (by assumption)]
      exact ⟨h.room, h.fuse, hu, h.o0, h.o1, hv⟩
theorem DkV.burn_ok {D : DkV} {T : Nat} (h : D.Ok T) : D.burn.Ok T := by
  have hf := h.fuse
  unfold DkV.burn
  split
  · exact h
  · exact ⟨h.room, ⟨by simp only; omega, by simp only; omega⟩, h.used, h.o0, h.o1, h.o2⟩
def noFile (i : Int) : Prop := i < 0 ∨ 2 < i
instance (i : Int) : Decidable (noFile i) := inferInstanceAs (Decidable (_ ∨ _))
def apD (D : DkV) (file : Int) (b : List Int) : DkV × Int :=
  if noFile file then (D, 1) else if D.down = true then (D, 18) else
  if D.room < ((D.set file.toNat ((D.f file.toNat).step (.put b))).used : Int) then (D, 17) else
  ((D.set file.toNat ((D.f file.toNat).step (.put b))).burn, (D.set file.toNat ((D.f file.toNat).step (.put b))).burn.ans)
def ctD (D : DkV) (file n : Int) : DkV × Int :=
  if noFile file ∨ n < 0 ∨ ((D.f file.toNat).held.length : Int) < n then (D, 1) else if D.down = true then (D, 18) else
  ((D.set file.toNat ((D.f file.toNat).step (.cut n.toNat))).burn, (D.set file.toNat ((D.f file.toNat).step (.cut n.toNat))).burn.ans)
def syD (D : DkV) (file : Int) : DkV × Int :=
  if noFile file then (D, 1) else if D.down = true then (D, 18) else
  if D.burn.down = true then (D.burn, 18) else (D.burn.set file.toNat ⟨(D.f file.toNat).held, []⟩, 0)
def armD (D : DkV) (n : Int) : DkV := { D with fuse := max n 0 }
/-- How many units a crash leaves of a file. -/
def leftU (v : FlV) (us : List Int) (i : Nat) : Nat := if i < us.length then (us.getD i 0 % ((v.units : Int) + 1)).toNat else 0
def crD (D : DkV) (us : List Int) : DkV := { D with fuse := 0, down := false, f0 := D.f0.settle (leftU D.f0 us 0), f1 := D.f1.settle (leftU D.f1 us 1), f2 := D.f2.settle (leftU D.f2 us 2) }
theorem leftU_le (v : FlV) (us : List Int) (i : Nat) : leftU v us i ≤ v.units := by
  unfold leftU
  split
  · have h1 := Int.emod_lt_of_pos (us.getD i 0) (show (0 : Int) < (v.units : Int) + 1 by omega)
    omega
  · exact Nat.zero_le _
theorem armD_ok {D : DkV} {T : Nat} (h : D.Ok T) (n : Int) (hn : n < 9223372036854775808) : (armD D n).Ok T :=
  ⟨h.room, ⟨by unfold armD; simp only; omega, by unfold armD; simp only; omega⟩, h.used, h.o0, h.o1, h.o2⟩
theorem crD_ok {D : DkV} {T : Nat} (h : D.Ok T) (us : List Int) : (crD D us).Ok T := by
  refine ⟨h.room, ⟨Int.le_refl _, show (0 : Int) < 9223372036854775808 by decide⟩, ?_, FlV.settle_ok h.o0 _, FlV.settle_ok h.o1 _, FlV.settle_ok h.o2 _⟩
  have h0 := h.used
  have h1 := FlV.settle_need (v := D.f0) (leftU D.f0 us 0)
  have h2 := FlV.settle_need (v := D.f1) (leftU D.f1 us 1)
  have h3 := FlV.settle_need (v := D.f2) (leftU D.f2 us 2)
  unfold DkV.used at h0 ⊢
  show ((D.f0.settle _).need + (D.f1.settle _).need + (D.f2.settle _).need : Nat) ≤ D.room
  omega
theorem cut_len (n : Nat) (b : List Int) : ((StV.cut n).all b).length ≤ b.length := by rw [StV.all_cut, List.length_take]; omega
theorem put_len (xs b : List Int) : ((StV.put xs).all b).length = b.length + xs.length := by rw [StV.all_put, List.length_append]
theorem apD_ok {D : DkV} {T : Nat} (h : D.Ok T) (file : Int) (b : List Int) : (apD D file b).1.Ok (T + 1) := by
  have hm := h.more (Nat.le_succ T)
  unfold apD
  split
  · exact hm
  split
  · exact hm
  split
  · exact hm
  rename_i hr
  have hu := DkV.set_used D file.toNat ((D.f file.toNat).step (.put b))
  have h1 := FlV.step_need (D.f file.toNat) (.put b)
  have h2 := put_len b (D.f file.toNat).held
  have h3 := h.room
  have h4 : (D.set file.toNat ((D.f file.toNat).step (.put b))).used = D.used + ((D.f file.toNat).step (.put b)).need - (D.f file.toNat).need := by omega
  have h6 : (D.f file.toNat).need ≤ D.used := by
    unfold DkV.f DkV.used
    split
    · omega
    · split <;> omega
  refine DkV.burn_ok (DkV.set_ok hm _ _ (FlV.step_ok (h.f file.toNat) _ trivial (by omega) (by simp only [StV.units]; omega)) (by omega))
theorem ctD_ok {D : DkV} {T : Nat} (h : D.Ok T) (file n : Int) : (ctD D file n).1.Ok (T + 1) := by
  have hm := h.more (Nat.le_succ T)
  unfold ctD
  split
  · exact hm
  split
  · exact hm
  rename_i hr _
  have hu := DkV.set_used D file.toNat ((D.f file.toNat).step (.cut n.toNat))
  have h1 := FlV.step_need (D.f file.toNat) (.cut n.toNat)
  have h2 := cut_len n.toNat (D.f file.toNat).held
  have h3 := FlV.held_le (D.f file.toNat)
  have h4 := (h.f file.toNat).need
  have h5 := h.used
  refine DkV.burn_ok (DkV.set_ok hm _ _ (FlV.step_ok (h.f file.toNat) _ ?_ (by omega) (by simp [StV.units])) (by omega))
  show n.toNat ≤ _
  omega
theorem syD_ok {D : DkV} {T : Nat} (h : D.Ok T) (file : Int) : (syD D file).1.Ok T := by
  unfold syD
  split
  · exact h
  split
  · exact h
  split
  · exact DkV.burn_ok h
  have hb := DkV.burn_ok h
  have hf : D.burn.f file.toNat = D.f file.toNat := by unfold DkV.burn; split <;> rfl
  have h0 := (h.f file.toNat).need
  have h1 := FlV.held_le (D.f file.toNat)
  have hu := DkV.set_used D.burn file.toNat ⟨(D.f file.toNat).held, []⟩
  have h2 : (⟨(D.f file.toNat).held, []⟩ : FlV).need = (D.f file.toNat).held.length := rfl
  rw [hf] at hu
  have h3 := hb.used
  exact DkV.set_ok hb _ _ ⟨trivial, Nat.zero_le _, Nat.zero_le _, by rw [h2]; omega⟩ (by omega)
end Go.Proofs.YtinmmhbiomcdoaaGreatDoor

/-
  Whether two arrays of numbers are the same: they are just if the lists are. No Go function is spoken of here. (After the library's Derived/Stop/BytesEq, which says it of bytes as such.)
-/
namespace Go.Proofs.YtinmmhbiomcdoaaGreatDoor
open Go.RowKit

theorem all_range_ints : ∀ (xs ys : List Int), xs.length = ys.length → ((List.range xs.length).all fun i => xs.getD i 0 == ys.getD i 0) = (xs == ys)
  | [], [], _ => rfl
  | x :: xs, y :: ys, h => by
    rw [List.length_cons, List.range_succ_eq_map, List.all_cons, List.all_map]
    simp only [List.getD_cons_zero, Function.comp_def, List.getD_cons_succ, all_range_ints xs ys (by simpa using h)]
    rfl
  | [], _ :: _, h => by simp at h
  | _ :: _, [], h => by simp at h
theorem run_equalIn_ints {P : Program} (w : World) (d : Nat) (t e : TypeId) (n : Nat) (k : IntKind) (ht : P.underlying t = some (.array n e)) (he : P.underlying e = some (.int k)) (hs : (P.info? e).map (·.size) = some 1)
    (xs ys : List Int) (hx : xs.length = n) (hy : ys.length = n) :
    (Op.equalIn (d + 2) t (.agg (xs.map (Value.int k)).toArray) (.agg (ys.map (Value.int k)).toArray)).run P w = .ok (xs == ys) w := by
  have hsz : ∀ w, (sizeOf e).run P w = .ok 1 w := by
    intro w
    cases hq : P.info? e with
    | none => simp [hq] at hs
    | some i => simp [sizeOf, typeInfo, hq, (by simpa [hq] using hs : i.size = 1)]
  rw [← all_range_ints xs ys (hx.trans hy.symm), hx, List.range_eq_range', Op.equalIn]
  simp only [Sem.run_bind, run_underlying ht, Result.andThen_ok, hsz, Std.Legacy.Range.forIn_eq_forIn_range', Std.Legacy.Range.size, Nat.sub_zero, Nat.add_sub_cancel, Nat.div_one]
  have hl : ∀ i ∈ List.range' 0 n 1, i < n := fun i hi => by simpa using (List.mem_range'_1.1 hi).2
  generalize List.range' 0 n 1 = l at hl ⊢
  induction l with
  | nil => simp
  | cons i l ih =>
    have hi : i < n := hl i (by simp)
    have px : (part e (xs.map (Value.int k)).toArray (i * 1)).run P w = .ok (.int k (xs.getD i 0)) w := by
      simp [part, isAgg, run_underlying he, List.getD, List.getElem?_eq_getElem (show i < xs.length by omega)]
    have py : (part e (ys.map (Value.int k)).toArray (i * 1)).run P w = .ok (.int k (ys.getD i 0)) w := by
      simp [part, isAgg, run_underlying he, List.getD, List.getElem?_eq_getElem (show i < ys.length by omega)]
    have pe := run_equalIn_int (P := P) w d e k k (xs.getD i 0) (ys.getD i 0) he
    simp only [List.forIn_cons, Sem.run_bind, px, py, pe, Result.andThen_ok, List.all_cons]
    cases hb : (xs.getD i 0 == ys.getD i 0)
    · simp
    · simp only [Bool.not_true, Bool.false_eq_true, if_false, Sem.run_pure, Result.andThen_ok, Bool.true_and]
      exact ih fun j hj => hl j (by simp [hj])
end Go.Proofs.YtinmmhbiomcdoaaGreatDoor

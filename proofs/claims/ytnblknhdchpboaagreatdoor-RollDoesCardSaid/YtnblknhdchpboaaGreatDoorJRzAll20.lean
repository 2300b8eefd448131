/-
  Texts of stages that were proved on their own, joined: FrMath, RyMath, RyKp. Each begins with its own words.
-/
import Derived.Test.YtnblknhdchpboaaGreatDoorJRzAll17
import Derived.Test.YtnblknhdchpboaaGreatDoorJRzAll19
import Derived.Test.YtnblknhdchpboaaGreatDoorJRzAll6

/-
  Frames on lists of numbers (layer 19): a body's frame, what the first frame of bytes is, the frames one behind the other. No Go function is spoken of.
-/
namespace Go.Proofs.YtnblknhdchpboaaGreatDoor
open Go.RowKit

/-- The sum of a body's frame. -/
def sumF (b : List Int) : Int := nv (crcOf 0#32 (bvs (beL (b.length : Int) 4 ++ b)))
theorem sumF_range (b : List Int) : 0 ≤ sumF b ∧ sumF b < 4294967296 := ⟨nv_lo _, nv_hi _⟩
/-- A body's frame. -/
def frB (b : List Int) : List Int := beL (b.length : Int) 4 ++ (beL (sumF b) 4 ++ b)
theorem frB_len (b : List Int) : (frB b).length = 8 + b.length := by
  unfold frB
  rw [List.length_append, List.length_append, beL_len, beL_len]
  omega
theorem frB_range {b : List Int} (h : ∀ x ∈ b, 0 ≤ x ∧ x < 256) : ∀ x ∈ frB b, 0 ≤ x ∧ x < 256 := by
  intro x hx
  unfold frB at hx
  rcases List.mem_append.1 hx with h1 | h1
  · exact beL_range _ _ x h1
  · rcases List.mem_append.1 h1 with h1 | h1
    · exact beL_range _ _ x h1
    · exact h x h1
/-- What One tells of bytes: a body, a size, an error. -/
def oneF (xs : List Int) : List Int × Nat × Int :=
  if xs.length < 4 then ([], 0, 2)
  else if be (xs.take 4) < 1 ∨ 65536 < be (xs.take 4) then ([], 0, 4)
  else if (xs.length : Int) < 8 + be (xs.take 4) then ([], 0, 2)
  else if be ((xs.drop 4).take 4) = sumF ((xs.drop 8).take (be (xs.take 4)).toNat) then ((xs.drop 8).take (be (xs.take 4)).toNat, 8 + (be (xs.take 4)).toNat, 0)
  else ([], 0, 9)
theorem oneF_bad {xs : List Int} (h : (oneF xs).2.2 ≠ 0) : (oneF xs).1 = [] ∧ (oneF xs).2.1 = 0 := by
  unfold oneF at h ⊢
  split
  · exact ⟨rfl, rfl⟩
  · split
    · exact ⟨rfl, rfl⟩
    · split
      · exact ⟨rfl, rfl⟩
      · split
        · rename_i h1 h2 h3 h4
          rw [if_neg h1, if_neg h2, if_neg h3, if_pos h4] at h
          exact absurd rfl h
        · exact ⟨rfl, rfl⟩
theorem oneF_ok {xs : List Int} (h : (oneF xs).2.2 = 0) : (oneF xs).2.1 = 8 + (oneF xs).1.length ∧ 1 ≤ (oneF xs).1.length ∧ (oneF xs).1.length ≤ 65536 ∧ (oneF xs).2.1 ≤ xs.length ∧ (oneF xs).1 = (xs.drop 8).take (oneF xs).1.length := by
  unfold oneF at h ⊢
  split
  · rename_i h1
    rw [if_pos h1] at h
    cases h
  · rename_i h1
    rw [if_neg h1] at h
    split
    · rename_i h2
      rw [if_pos h2] at h
      cases h
    · rename_i h2
      rw [if_neg h2] at h
      split
      · rename_i h3
        rw [if_pos h3] at h
        cases h
      · rename_i h3
        rw [if_neg h3] at h
        split
        · have hl : ((xs.drop 8).take (be (xs.take 4)).toNat).length = (be (xs.take 4)).toNat := by rw [List.length_take, List.length_drop]; omega
          refine ⟨?_, ?_, ?_, ?_, ?_⟩
          · show 8 + (be (xs.take 4)).toNat = 8 + ((xs.drop 8).take (be (xs.take 4)).toNat).length
            rw [hl]
          · show 1 ≤ ((xs.drop 8).take (be (xs.take 4)).toNat).length
            rw [hl]; omega
          · show ((xs.drop 8).take (be (xs.take 4)).toNat).length ≤ 65536
            rw [hl]; omega
          · show 8 + (be (xs.take 4)).toNat ≤ xs.length
            omega
          · show (xs.drop 8).take (be (xs.take 4)).toNat = (xs.drop 8).take ((xs.drop 8).take (be (xs.take 4)).toNat).length
            rw [hl]
        · rename_i h4
          rw [if_neg h4] at h
          cases h
theorem pow256_4 : (256 : Int) ^ 4 = 4294967296 := by decide
theorem be_len4 (n : Nat) (h : n ≤ 65536) : be (beL (n : Int) 4) = n := be_beL 4 n (by omega) (by rw [pow256_4]; omega)
theorem be_sum4 (b : List Int) : be (beL (sumF b) 4) = sumF b := be_beL 4 _ (sumF_range b).1 (by rw [pow256_4]; exact (sumF_range b).2)
theorem frB_take4 (b r : List Int) : (frB b ++ r).take 4 = beL (b.length : Int) 4 := by
  unfold frB
  rw [List.append_assoc, List.take_append_of_le_length (by rw [beL_len]; exact Nat.le_refl _), List.take_of_length_le (by rw [beL_len]; exact Nat.le_refl _)]
theorem frB_mid4 (b r : List Int) : ((frB b ++ r).drop 4).take 4 = beL (sumF b) 4 := by
  unfold frB
  rw [List.append_assoc, List.drop_append_of_le_length (by rw [beL_len]; exact Nat.le_refl _), List.drop_of_length_le (by rw [beL_len]; exact Nat.le_refl _), List.nil_append, List.append_assoc, List.take_append_of_le_length (by rw [beL_len]; exact Nat.le_refl _), List.take_of_length_le (by rw [beL_len]; exact Nat.le_refl _)]
theorem frB_drop8 (b r : List Int) : (frB b ++ r).drop 8 = b ++ r := by
  unfold frB
  have e : beL (b.length : Int) 4 ++ (beL (sumF b) 4 ++ b) ++ r = (beL (b.length : Int) 4 ++ beL (sumF b) 4) ++ (b ++ r) := by simp
  rw [e, List.drop_append_of_le_length (by rw [List.length_append, beL_len, beL_len]; exact Nat.le_refl _), List.drop_of_length_le (by rw [List.length_append, beL_len, beL_len]; exact Nat.le_refl _), List.nil_append]
theorem one_fr (b r : List Int) (h1 : 1 ≤ b.length) (h2 : b.length ≤ 65536) : oneF (frB b ++ r) = (b, 8 + b.length, 0) := by
  have hl : (frB b ++ r).length = 8 + b.length + r.length := by rw [List.length_append, frB_len]
  have hb : (b ++ r).take b.length = b := by rw [List.take_append_of_le_length (Nat.le_refl _), List.take_of_length_le (Nat.le_refl _)]
  unfold oneF
  rw [frB_take4, be_len4 _ h2, frB_mid4, be_sum4, frB_drop8, Int.toNat_natCast, hb, if_neg (by omega), if_neg (by omega), if_neg (by omega), if_pos rfl]
/-- The place behind k frames, as far as there are any. -/
def atF (xs : List Int) : Nat → Nat
  | 0 => 0
  | k + 1 => atF xs k + (oneF (xs.drop (atF xs k))).2.1
def bodyF (xs : List Int) (k : Nat) : List Int := (oneF (xs.drop (atF xs k))).1
def errF (xs : List Int) (k : Nat) : Int := (oneF (xs.drop (atF xs k))).2.2
/-- Bytes begin with K frames, and no more. -/
structure Fr (xs : List Int) (K : Nat) : Prop where
  ok : ∀ k, k < K → errF xs k = 0
  stop : errF xs K ≠ 0
theorem atF_le {xs : List Int} {m : Nat} (h : ∀ k, k < m → errF xs k = 0) : ∀ k, k ≤ m → 9 * k ≤ atF xs k ∧ atF xs k ≤ xs.length := by
  intro k
  induction k with
  | zero => intro _; exact ⟨Nat.le_refl _, Nat.zero_le _⟩
  | succ k ih =>
    intro hk
    have h1 := ih (by omega)
    obtain ⟨e1, e2, _, e4, _⟩ := oneF_ok (h k (by omega))
    rw [List.length_drop] at e4
    show 9 * (k + 1) ≤ atF xs k + (oneF (xs.drop (atF xs k))).2.1 ∧ atF xs k + (oneF (xs.drop (atF xs k))).2.1 ≤ xs.length
    omega
theorem atF_succ {xs : List Int} {k : Nat} (h : errF xs k = 0) : atF xs (k + 1) = atF xs k + (8 + (bodyF xs k).length) := by
  obtain ⟨e1, _⟩ := oneF_ok h
  show atF xs k + (oneF (xs.drop (atF xs k))).2.1 = _
  rw [e1]
  rfl
theorem fr_from (xs : List Int) : ∀ (n m : Nat), (∀ k, k < m → errF xs k = 0) → xs.length < n + 9 * m → ∃ K, Fr xs K := by
  intro n
  induction n with
  | zero =>
    intro m h hl
    have := atF_le h m (Nat.le_refl _)
    omega
  | succ n ih =>
    intro m h hl
    by_cases he : errF xs m = 0
    · refine ih (m + 1) (fun k hk => ?_) (by omega)
      by_cases hkm : k = m
      · rw [hkm]; exact he
      · exact h k (by omega)
    · exact ⟨m, h, he⟩
theorem fr_ex (xs : List Int) : ∃ K, Fr xs K := fr_from xs (xs.length + 1) 0 (fun k hk => by omega) (by omega)
theorem Fr.at {xs : List Int} {K : Nat} (h : Fr xs K) {k : Nat} (hk : k ≤ K) : 9 * k ≤ atF xs k ∧ atF xs k ≤ xs.length := atF_le h.ok k hk
theorem Fr.body {xs : List Int} {K : Nat} (h : Fr xs K) {k : Nat} (hk : k < K) : 1 ≤ (bodyF xs k).length ∧ (bodyF xs k).length ≤ 65536 ∧ atF xs (k + 1) = atF xs k + (8 + (bodyF xs k).length) ∧ atF xs (k + 1) ≤ xs.length := by
  obtain ⟨_, e2, e3, _, _⟩ := oneF_ok (h.ok k hk)
  exact ⟨e2, e3, atF_succ (h.ok k hk), (h.at hk).2⟩
theorem bodyF_range {xs : List Int} (hr : ∀ x ∈ xs, 0 ≤ x ∧ x < 256) (k : Nat) : ∀ x ∈ bodyF xs k, 0 ≤ x ∧ x < 256 := by
  by_cases h : errF xs k = 0
  · obtain ⟨_, _, _, _, e5⟩ := oneF_ok h
    intro x hx
    unfold bodyF at hx
    rw [e5] at hx
    exact hr x (List.mem_of_mem_drop (List.mem_of_mem_drop (List.mem_of_mem_take hx)))
  · intro x hx
    unfold bodyF at hx
    rw [(oneF_bad h).1] at hx
    cases hx
/-- The first k bodies. -/
def bodiesF (xs : List Int) (k : Nat) : List (List Int) := (List.range k).map (bodyF xs)
theorem bodiesF_succ (xs : List Int) (k : Nat) : bodiesF xs (k + 1) = bodiesF xs k ++ [bodyF xs k] := by simp [bodiesF, List.range_succ]
theorem bodiesF_len (xs : List Int) (k : Nat) : (bodiesF xs k).length = k := by simp [bodiesF]
theorem bodiesF_at (xs : List Int) (k i : Nat) (h : i < k) : (bodiesF xs k)[i]? = some (bodyF xs i) := by simp [bodiesF, h]

/-- Frames one behind the other, and a beginning of one more. -/
theorem torn_drop (L : List (List Int)) (t : List Int) (k : Nat) : ((L.map frB).flatten ++ t).drop ((L.take k).map frB).flatten.length = ((L.drop k).map frB).flatten ++ t := by
  have e : (L.map frB).flatten = ((L.take k).map frB).flatten ++ ((L.drop k).map frB).flatten := by rw [← List.flatten_append, ← List.map_append, List.take_append_drop]
  rw [e, List.append_assoc, List.drop_append_of_le_length (Nat.le_refl _), List.drop_of_length_le (Nat.le_refl _), List.nil_append]
theorem torn_one (L : List (List Int)) (t : List Int) (hL : ∀ b ∈ L, 1 ≤ b.length ∧ b.length ≤ 65536) (k : Nat) (hk : k < L.length) : oneF (((L.drop k).map frB).flatten ++ t) = (L[k], 8 + L[k].length, 0) := by
  have h := hL L[k] (List.getElem_mem _)
  rw [List.drop_eq_getElem_cons hk, List.map_cons, List.flatten_cons, List.append_assoc]
  exact one_fr _ _ h.1 h.2
theorem torn_snoc (L : List (List Int)) (k : Nat) (hk : k < L.length) : ((L.take (k + 1)).map frB).flatten.length = ((L.take k).map frB).flatten.length + (8 + L[k].length) := by
  have e : L.take (k + 1) = L.take k ++ [L[k]] := by rw [List.take_add_one, List.getElem?_eq_getElem hk]; rfl
  rw [e, List.map_append, List.flatten_append, List.length_append]
  simp [frB_len]
theorem torn_at (L : List (List Int)) (t : List Int) (hL : ∀ b ∈ L, 1 ≤ b.length ∧ b.length ≤ 65536) : ∀ k, k ≤ L.length → atF ((L.map frB).flatten ++ t) k = ((L.take k).map frB).flatten.length := by
  intro k
  induction k with
  | zero => intro _; rfl
  | succ k ih =>
    intro hk
    have h1 := ih (by omega)
    show atF _ k + (oneF (((L.map frB).flatten ++ t).drop (atF _ k))).2.1 = _
    rw [h1, torn_drop, torn_one L t hL k (by omega), torn_snoc L k (by omega)]
theorem torn_fr (L : List (List Int)) (t : List Int) (hL : ∀ b ∈ L, 1 ≤ b.length ∧ b.length ≤ 65536) (ht : (oneF t).2.2 ≠ 0) :
    Fr ((L.map frB).flatten ++ t) L.length ∧ bodiesF ((L.map frB).flatten ++ t) L.length = L ∧ atF ((L.map frB).flatten ++ t) L.length = (L.map frB).flatten.length := by
  have hA := torn_at L t hL
  have hall : ((L.take L.length).map frB).flatten = (L.map frB).flatten := by rw [List.take_of_length_le (Nat.le_refl _)]
  refine ⟨⟨fun k hk => ?_, ?_⟩, ?_, ?_⟩
  · unfold errF
    rw [hA k (by omega), torn_drop, torn_one L t hL k hk]
  · unfold errF
    rw [hA _ (Nat.le_refl _), torn_drop, List.drop_of_length_le (Nat.le_refl _)]
    exact ht
  · apply List.ext_getElem?
    intro i
    by_cases hi : i < L.length
    · rw [bodiesF_at _ _ _ hi, List.getElem?_eq_getElem hi]
      unfold bodyF
      rw [hA i (by omega), torn_drop, torn_one L t hL i hi]
    · rw [List.getElem?_eq_none (by rw [bodiesF_len]; omega), List.getElem?_eq_none (by omega)]
  · rw [hA _ (Nat.le_refl _), hall]
end Go.Proofs.YtnblknhdchpboaaGreatDoor

/-
  A roll on lists (layer 20): the bodies of a file, its tail, and what the roll's calls come to over a disk of lists. No Go function is spoken of. No conditions.
-/
namespace Go.Proofs.YtnblknhdchpboaaGreatDoor
open Go.RowKit

/-! ### The frames that bytes begin with -/
theorem Fr.uniq {xs : List Int} {K K' : Nat} (h : Fr xs K) (h' : Fr xs K') : K = K' := by
  rcases Nat.lt_trichotomy K K' with hl | he | hg
  · exact absurd (h'.ok K hl) h.stop
  · exact he
  · exact absurd (h.ok K' hg) h'.stop
/-- How many frames bytes begin with. -/
noncomputable def numF (xs : List Int) : Nat := Classical.choose (fr_ex xs)
theorem numF_fr (xs : List Int) : Fr xs (numF xs) := Classical.choose_spec (fr_ex xs)
theorem numF_eq {xs : List Int} {K : Nat} (h : Fr xs K) : numF xs = K := (numF_fr xs).uniq h
/-- How many bytes they have, and the bodies. -/
noncomputable def goodF (xs : List Int) : Nat := atF xs (numF xs)
noncomputable def allF (xs : List Int) : List (List Int) := bodiesF xs (numF xs)
theorem goodF_le (xs : List Int) : goodF xs ≤ xs.length := ((numF_fr xs).at (Nat.le_refl _)).2
theorem allF_len (xs : List Int) : (allF xs).length = numF xs := bodiesF_len _ _
theorem numF_le (xs : List Int) : 9 * numF xs ≤ xs.length := Nat.le_trans ((numF_fr xs).at (Nat.le_refl _)).1 (goodF_le xs)
theorem allF_range {xs : List Int} (hr : ∀ x ∈ xs, 0 ≤ x ∧ x < 256) : ∀ p ∈ allF xs, ∀ y ∈ p, 0 ≤ y ∧ y < 256 := by
  intro p hp
  obtain ⟨k, _, rfl⟩ := List.mem_map.1 hp
  exact bodyF_range hr k
theorem good_torn (L : List (List Int)) (t : List Int) (hL : ∀ b ∈ L, 1 ≤ b.length ∧ b.length ≤ 65536) (ht : (oneF t).2.2 ≠ 0) :
    goodF ((L.map frB).flatten ++ t) = (L.map frB).flatten.length ∧ allF ((L.map frB).flatten ++ t) = L ∧ numF ((L.map frB).flatten ++ t) = L.length := by
  obtain ⟨h1, h2, h3⟩ := torn_fr L t hL ht
  have h := numF_eq h1
  exact ⟨by unfold goodF; rw [h, h3], by unfold allF; rw [h, h2], h⟩
theorem oneF_nil : oneF [] = ([], 0, 2) := by unfold oneF; rfl
theorem good_whole (L : List (List Int)) (hL : ∀ b ∈ L, 1 ≤ b.length ∧ b.length ≤ 65536) :
    goodF (L.map frB).flatten = (L.map frB).flatten.length ∧ allF (L.map frB).flatten = L ∧ numF (L.map frB).flatten = L.length := by
  have h := good_torn L [] hL (by rw [oneF_nil]; decide)
  rw [List.append_nil] at h
  exact h
/-! ### The roll's calls -/
/-- What the file holds. -/
def heldR (D : DkV) (z : Int) : List Int := (D.f z.toNat).held
/-- Cut, and then synced. -/
def keD (D : DkV) (z n : Int) : DkV × Int := if (ctD D z n).2 = 0 then syD (ctD D z n).1 z else ctD D z n
/-- What Open does to the file. -/
noncomputable def mdD (D : DkV) (z : Int) : DkV × Int :=
  if goodF (heldR D z) < (heldR D z).length then keD D z (goodF (heldR D z) : Nat)
  else if 0 < (D.f z.toNat).units then syD D z else (D, 0)
/-- What Append does. -/
def prD (D : DkV) (z : Int) (b : List Int) : DkV × Int :=
  if b.length < 1 ∨ 65536 < b.length then (D, 1) else if (apD D z (frB b)).2 = 0 then syD (apD D z (frB b)).1 z else apD D z (frB b)
theorem keD_ok {D : DkV} {T : Nat} (h : D.Ok T) (z n : Int) : (keD D z n).1.Ok (T + 1) := by
  unfold keD
  split
  · exact syD_ok (ctD_ok h z n) z
  · exact ctD_ok h z n
theorem mdD_ok {D : DkV} {T : Nat} (h : D.Ok T) (z : Int) : (mdD D z).1.Ok (T + 1) := by
  unfold mdD
  split
  · exact keD_ok h z _
  · split
    · exact (syD_ok h z).more (Nat.le_succ T)
    · exact h.more (Nat.le_succ T)
theorem prD_ok {D : DkV} {T : Nat} (h : D.Ok T) (z : Int) (b : List Int) : (prD D z b).1.Ok (T + 1) := by
  unfold prD
  split
  · exact h.more (Nat.le_succ T)
  · split
    · exact syD_ok (apD_ok h z _) z
    · exact apD_ok h z _
/-- Without a fuse nothing goes down. -/
theorem burn_none {D : DkV} (h : D.fuse = 0) : D.burn = D := by unfold DkV.burn; rw [if_pos h]
theorem ctD_none {D : DkV} (hf : D.fuse = 0) (hd : D.down = false) {z n : Int} (hz : 0 ≤ z ∧ z < 3) (hn : 0 ≤ n) (hn' : n ≤ (heldR D z).length) :
    ctD D z n = (D.set z.toNat ((D.f z.toNat).step (.cut n.toNat)), 0) := by
  have hh := DkV.set_head D z.toNat ((D.f z.toNat).step (.cut n.toNat))
  have hb := burn_none (D := D.set z.toNat ((D.f z.toNat).step (.cut n.toNat))) (by rw [hh.2.1]; exact hf)
  unfold heldR at hn'
  unfold ctD
  rw [if_neg (by unfold noFile; omega), if_neg (by rw [hd]; decide), hb]
  unfold DkV.ans
  rw [if_neg (by rw [hh.2.2, hd]; decide)]
theorem syD_none {D : DkV} (hf : D.fuse = 0) (hd : D.down = false) {z : Int} (hz : 0 ≤ z ∧ z < 3) :
    syD D z = (D.set z.toNat ⟨heldR D z, []⟩, 0) := by
  unfold syD
  rw [if_neg (by unfold noFile; omega), if_neg (by rw [hd]; decide), burn_none hf, if_neg (by rw [hd]; decide)]
  rfl
theorem toNat_lt3 {z : Int} (hz : 0 ≤ z ∧ z < 3) : z.toNat < 3 := by omega
theorem set_set (D : DkV) (i : Nat) (u v : FlV) : (D.set i u).set i v = D.set i v := by
  unfold DkV.set
  split
  · rfl
  · split <;> rfl
/-- What a disk without a fuse is, behind Open. -/
theorem mdD_none {D : DkV} (hf : D.fuse = 0) (hd : D.down = false) {z : Int} (hz : 0 ≤ z ∧ z < 3) : (mdD D z).2 = 0 := by
  unfold mdD
  split
  · have hc := ctD_none hf hd hz (n := (goodF (heldR D z) : Nat)) (Int.natCast_nonneg _) (Int.ofNat_le.2 (goodF_le _))
    have hh := DkV.set_head D z.toNat ((D.f z.toNat).step (.cut (goodF (heldR D z) : Nat)))
    unfold keD
    rw [hc, if_pos rfl, syD_none (by rw [Int.toNat_natCast, hh.2.1]; exact hf) (by rw [Int.toNat_natCast, hh.2.2]; exact hd) hz]
  · split
    · rw [syD_none hf hd hz]
    · rfl

/-! ### What the files hold are bytes -/
def isByte (x : Int) : Prop := 0 ≤ x ∧ x < 256
def StV.By (s : StV) : Prop := match s with
  | .put xs => ∀ x ∈ xs, isByte x
  | .cut _ => True
structure FlV.By (v : FlV) : Prop where
  k : ∀ x ∈ v.K, isByte x
  s : ∀ s ∈ v.S, s.By
structure DkV.By (D : DkV) : Prop where
  b0 : D.f0.By
  b1 : D.f1.By
  b2 : D.f2.By
theorem DkV.By.f {D : DkV} (h : D.By) (i : Nat) : (D.f i).By := by
  unfold DkV.f
  split
  · exact h.b0
  · split
    · exact h.b1
    · exact h.b2
theorem act_by (s : StV) (hs : s.By) (b : List Int) (hb : ∀ x ∈ b, isByte x) (u : Nat) : ∀ x ∈ s.act b u, isByte x := by
  cases s with
  | put xs =>
    intro x hx
    rcases List.mem_append.1 hx with h | h
    · exact hb x h
    · exact hs x (List.mem_of_mem_take h)
  | cut n =>
    intro x hx
    unfold StV.act at hx
    dsimp only at hx
    split at hx
    · exact hb x hx
    · exact hb x (List.mem_of_mem_take hx)
theorem allL_by : ∀ (S : List StV) (K : List Int), (∀ x ∈ K, isByte x) → (∀ s ∈ S, s.By) → ∀ x ∈ allL K S, isByte x
  | [], _, hK, _ => hK
  | s :: r, K, hK, hS => allL_by r _ (act_by s (hS s (List.mem_cons_self ..)) K hK _) (fun t ht => hS t (List.mem_cons_of_mem _ ht))
theorem doneL_by : ∀ (S : List StV) (K : List Int) (u : Nat), (∀ x ∈ K, isByte x) → (∀ s ∈ S, s.By) → ∀ x ∈ doneL K S u, isByte x
  | [], _, _, hK, _ => hK
  | s :: r, K, _, hK, hS => doneL_by r _ _ (act_by s (hS s (List.mem_cons_self ..)) K hK _) (fun t ht => hS t (List.mem_cons_of_mem _ ht))
theorem FlV.By.held {v : FlV} (h : v.By) : ∀ x ∈ v.held, isByte x := allL_by v.S v.K h.k h.s
theorem FlV.By.step {v : FlV} (h : v.By) (s : StV) (hs : s.By) : (v.step s).By := ⟨h.k, fun t ht => by
  rcases List.mem_append.1 ht with h1 | h1
  · exact h.s t h1
  · rw [List.mem_singleton.1 h1]; exact hs⟩
theorem FlV.By.settle {v : FlV} (h : v.By) (u : Nat) : (v.settle u).By := ⟨doneL_by v.S v.K u h.k h.s, fun _ h => absurd h (List.not_mem_nil)⟩
theorem DkV.By.set {D : DkV} (h : D.By) (i : Nat) {v : FlV} (hv : v.By) : (D.set i v).By := by
  unfold DkV.set
  split
  · exact ⟨hv, h.b1, h.b2⟩
  · split
    · exact ⟨h.b0, hv, h.b2⟩
    · exact ⟨h.b0, h.b1, hv⟩
theorem DkV.By.burn {D : DkV} (h : D.By) : D.burn.By := by
  unfold DkV.burn
  split
  · exact h
  · exact ⟨h.b0, h.b1, h.b2⟩
theorem apD_by {D : DkV} (h : D.By) (z : Int) (b : List Int) (hb : ∀ x ∈ b, isByte x) : (apD D z b).1.By := by
  unfold apD
  split
  · exact h
  split
  · exact h
  split
  · exact h
  exact (h.set _ ((h.f _).step (.put b) hb)).burn
theorem ctD_by {D : DkV} (h : D.By) (z n : Int) : (ctD D z n).1.By := by
  unfold ctD
  split
  · exact h
  split
  · exact h
  exact (h.set _ ((h.f _).step (.cut n.toNat) trivial)).burn
theorem syD_by {D : DkV} (h : D.By) (z : Int) : (syD D z).1.By := by
  unfold syD
  split
  · exact h
  split
  · exact h
  split
  · exact h.burn
  exact h.burn.set _ ⟨(h.f _).held, fun _ h => absurd h (List.not_mem_nil)⟩
theorem armD_by {D : DkV} (h : D.By) (n : Int) : (armD D n).By := ⟨h.b0, h.b1, h.b2⟩
theorem crD_by {D : DkV} (h : D.By) (us : List Int) : (crD D us).By := ⟨h.b0.settle _, h.b1.settle _, h.b2.settle _⟩
theorem keD_by {D : DkV} (h : D.By) (z n : Int) : (keD D z n).1.By := by
  unfold keD
  split
  · exact syD_by (ctD_by h z n) z
  · exact ctD_by h z n
theorem mdD_by {D : DkV} (h : D.By) (z : Int) : (mdD D z).1.By := by
  unfold mdD
  split
  · exact keD_by h z _
  · split
    · exact syD_by h z
    · exact h
theorem prD_by {D : DkV} (h : D.By) (z : Int) (b : List Int) (hb : ∀ x ∈ b, isByte x) : (prD D z b).1.By := by
  unfold prD
  split
  · exact h
  · split
    · exact syD_by (apD_by h z _ (frB_range hb)) z
    · exact apD_by h z _ (frB_range hb)
theorem dk0_by (r : Int) : (dk0 r).By := ⟨⟨fun _ h => absurd h (List.not_mem_nil), fun _ h => absurd h (List.not_mem_nil)⟩, ⟨fun _ h => absurd h (List.not_mem_nil), fun _ h => absurd h (List.not_mem_nil)⟩, ⟨fun _ h => absurd h (List.not_mem_nil), fun _ h => absurd h (List.not_mem_nil)⟩⟩
end Go.Proofs.YtnblknhdchpboaaGreatDoor

/-
  A disk on lists of which one file alone holds anything: what its calls, and a roll's, come to; what a crash leaves of frames (P20.4). No Go function is spoken of.
-/
namespace Go.Proofs.YtnblknhdchpboaaGreatDoor
open Go.RowKit

/-- Room r, a fuse f, file z holds v, the others nothing. -/
def kpD (r f : Int) (d : Bool) (z : Nat) (v : FlV) : DkV := (⟨r, f, d, ⟨[], []⟩, ⟨[], []⟩, ⟨[], []⟩⟩ : DkV).set z v
theorem kp0 (r : Int) (z : Nat) : dk0 r = kpD r 0 false z ⟨[], []⟩ := by
  unfold kpD DkV.set
  split
  · rfl
  · split <;> rfl
section
variable {r f : Int} {d : Bool} {z : Nat} {v : FlV}
theorem kp_f (hz : z < 3) : (kpD r f d z v).f z = v := DkV.set_f _ z hz v
theorem kp_held (hz : z < 3) : heldR (kpD r f d z v) (z : Int) = v.held := by
  unfold heldR
  rw [Int.toNat_natCast, kp_f hz]
theorem kp_head : (kpD r f d z v).room = r ∧ (kpD r f d z v).fuse = f ∧ (kpD r f d z v).down = d := DkV.set_head _ z v
theorem kp_set (u : FlV) : (kpD r f d z v).set z u = kpD r f d z u := set_set _ z v u
theorem kp_used (hz : z < 3) : (kpD r f d z v).used = v.need := by
  have h0 : (⟨[], []⟩ : FlV).need = 0 := rfl
  unfold kpD DkV.set DkV.used
  match z, hz with
  | 0, _ => simp only [if_true, h0]; omega
  | 1, _ => simp only [if_true, h0, Nat.one_ne_zero, if_false]; omega
  | 2, _ => simp only [h0, show ¬ (2 : Nat) = 0 by decide, show ¬ (2 : Nat) = 1 by decide, if_false]; omega
theorem kp_burn : (kpD r f d z v).burn = if f = 0 then kpD r f d z v else kpD r (f - 1) (decide (f - 1 = 0)) z v := by
  unfold DkV.burn
  rw [kp_head.2.1]
  split
  · rfl
  · unfold kpD DkV.set
    split
    · rfl
    · split <;> rfl
theorem kp_ans : (kpD r f d z v).ans = if d = true then 18 else 0 := by
  unfold DkV.ans
  rw [kp_head.2.2]
theorem noFile_z (hz : z < 3) : ¬ noFile (z : Int) := by unfold noFile; omega
theorem kp_ap (hz : z < 3) (b : List Int) (hr : ((v.step (.put b)).need : Int) ≤ r) :
    apD (kpD r f false z v) (z : Int) b = if f = 0 then (kpD r 0 false z (v.step (.put b)), 0) else if f = 1 then (kpD r 0 true z (v.step (.put b)), 18) else (kpD r (f - 1) false z (v.step (.put b)), 0) := by
  unfold apD
  rw [if_neg (noFile_z hz), if_neg (by rw [kp_head.2.2]; decide), Int.toNat_natCast, kp_f hz, kp_set, kp_used hz, kp_head.1, if_neg (by omega), kp_burn]
  by_cases h0 : f = 0
  · subst h0
    rw [if_pos rfl, if_pos rfl, kp_ans, if_neg (by decide)]
  · rw [if_neg h0, if_neg h0, kp_ans]
    by_cases h1 : f = 1
    · subst h1
      rw [if_pos rfl, if_pos (by decide)]
      rfl
    · have hd : decide (f - 1 = 0) = false := decide_eq_false (by omega)
      rw [if_neg h1, hd, if_neg (by decide)]
theorem kp_sy (hz : z < 3) :
    syD (kpD r f false z v) (z : Int) = if f = 0 then (kpD r 0 false z ⟨v.held, []⟩, 0) else if f = 1 then (kpD r 0 true z v, 18) else (kpD r (f - 1) false z ⟨v.held, []⟩, 0) := by
  unfold syD
  rw [if_neg (noFile_z hz), if_neg (by rw [kp_head.2.2]; decide), Int.toNat_natCast, kp_f hz, kp_burn]
  by_cases h0 : f = 0
  · subst h0
    rw [if_pos rfl, if_pos rfl, if_neg (by rw [kp_head.2.2]; decide), kp_set]
  · rw [if_neg h0, if_neg h0]
    by_cases h1 : f = 1
    · subst h1
      rw [if_pos (by rw [kp_head.2.2]; decide), if_pos rfl]
      rfl
    · have hd : decide (f - 1 = 0) = false := decide_eq_false (by omega)
      rw [hd, if_neg (by rw [kp_head.2.2]; decide), if_neg h1, kp_set]
theorem kp_cr (hz : z < 3) (us : List Int) : crD (kpD r f d z v) us = kpD r 0 false z (v.settle (leftU v us z)) := by
  unfold crD kpD DkV.set
  match z, hz with
  | 0, _ => rfl
  | 1, _ => rfl
  | 2, _ => rfl
theorem kp_ok {T : Nat} (hz : z < 3) (hr : 1 ≤ r ∧ r ≤ 65536) (hf : 0 ≤ f ∧ f < 9223372036854775808) (hv : v.Ok T) (hn : (v.need : Int) ≤ r) : (kpD r f d z v).Ok T := by
  have h0 : (⟨r, f, d, ⟨[], []⟩, ⟨[], []⟩, ⟨[], []⟩⟩ : DkV).Ok T :=
    have he : (⟨[], []⟩ : FlV).Ok T := ⟨trivial, Nat.zero_le _, Nat.zero_le _, Nat.zero_le _⟩
    ⟨hr, hf, by show ((0 + 0 + 0 : Nat) : Int) ≤ r; omega, he, he, he⟩
  refine DkV.set_ok h0 z v hv ?_
  have := kp_used (r := r) (f := f) (d := d) (v := v) hz
  unfold kpD at this
  rw [this]
  exact hn
theorem kp_by (hv : v.By) : (kpD r f d z v).By := by
  have he : (⟨[], []⟩ : FlV).By := ⟨fun _ h => absurd h (List.not_mem_nil), fun _ h => absurd h (List.not_mem_nil)⟩
  exact DkV.By.set ⟨he, he, he⟩ z hv
end

/-! ### Whole frames, and one in flight -/
/-- The frames of bodies. -/
def flat (L : List (List Int)) : List Int := (L.map frB).flatten
theorem flat_snoc (L : List (List Int)) (b : List Int) : flat (L ++ [b]) = flat L ++ frB b := by simp [flat]
def Bodied (L : List (List Int)) : Prop := ∀ b ∈ L, 1 ≤ b.length ∧ b.length ≤ 65536
def whole (L : List (List Int)) : FlV := ⟨flat L, []⟩
theorem whole_held (L : List (List Int)) : (whole L).held = flat L := rfl
theorem whole_step (L : List (List Int)) (b : List Int) : (whole L).step (.put (frB b)) = ⟨flat L, [.put (frB b)]⟩ := rfl
theorem flight_held (K X : List Int) : (⟨K, [.put X]⟩ : FlV).held = K ++ X := by
  show (StV.put X).all K = _
  rw [StV.all_put]
theorem flight_need (K X : List Int) : (⟨K, [.put X]⟩ : FlV).need = K.length + X.length := by
  show max K.length ((StV.put X).all K).length = _
  rw [put_len]
  omega
/-- A body is appended, and synced. -/
theorem pr_kp {r f : Int} {z : Nat} (hz : z < 3) (L : List (List Int)) (b : List Int) (h1 : 1 ≤ b.length) (h2 : b.length ≤ 65536) (hr : ((flat L).length + (frB b).length : Nat) ≤ r) (hf : 0 ≤ f) :
    prD (kpD r f false z (whole L)) (z : Int) b = if f = 1 ∨ f = 2 then (kpD r 0 true z ⟨flat L, [.put (frB b)]⟩, 18) else (kpD r (max (f - 2) 0) false z (whole (L ++ [b])), 0) := by
  have hA := kp_ap (r := r) (f := f) hz (frB b) (v := whole L) (by rw [whole_step, flight_need]; exact hr)
  have hW : (⟨(⟨flat L, [.put (frB b)]⟩ : FlV).held, []⟩ : FlV) = whole (L ++ [b]) := by rw [flight_held]; unfold whole; rw [flat_snoc]
  rw [whole_step] at hA
  unfold prD
  rw [if_neg (by omega), hA]
  by_cases h0 : f = 0
  · subst h0
    rw [if_pos rfl, if_pos rfl, kp_sy hz, if_pos rfl, hW, if_neg (by omega)]
    rfl
  · rw [if_neg h0]
    by_cases h3 : f = 1
    · rw [if_pos h3, if_neg (show ¬ (18 : Int) = 0 by decide), if_pos (.inl h3)]
    · rw [if_neg h3, if_pos rfl, kp_sy hz, if_neg (by omega)]
      by_cases h4 : f = 2
      · rw [if_pos (by omega), if_pos (.inr h4)]
      · rw [if_neg (by omega), if_neg (by omega), hW, show f - 1 - 1 = max (f - 2) 0 by omega]
/-- Open where all frames are whole. -/
theorem md_whole {r f : Int} {z : Nat} (hz : z < 3) (L : List (List Int)) (hL : Bodied L) : mdD (kpD r f false z (whole L)) (z : Int) = (kpD r f false z (whole L), 0) := by
  have hg := (good_whole L hL).1
  unfold mdD
  rw [kp_held hz, whole_held, Int.toNat_natCast, kp_f hz]
  have h1 : ¬ goodF (flat L) < (flat L).length := by
    have : goodF (flat L) = (flat L).length := hg
    omega
  rw [if_neg h1, if_neg (by show ¬ 0 < 0; omega)]
theorem body_of {r f : Int} {d : Bool} {z : Nat} (hz : z < 3) (L : List (List Int)) (hL : Bodied L) : allF (heldR (kpD r f d z (whole L)) (z : Int)) = L ∧ numF (heldR (kpD r f d z (whole L)) (z : Int)) = L.length := by
  rw [kp_held hz, whole_held]
  exact ⟨(good_whole L hL).2.1, (good_whole L hL).2.2⟩
theorem whole_cr {r f : Int} {d : Bool} {z : Nat} (hz : z < 3) (L : List (List Int)) (us : List Int) : crD (kpD r f d z (whole L)) us = kpD r 0 false z (whole L) := by
  rw [kp_cr hz]
  rfl
end Go.Proofs.YtnblknhdchpboaaGreatDoor

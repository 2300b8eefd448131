/-
  Texts of stages that were proved on their own, joined: SlKeep, SlKeeps, SlCur, DkNil, VtMath, VtOks, VaMath, DfMem, VtParts, VtKp, VtKeep. Each begins with its own words.
-/
import Derived.Test.YtinmmhbiomcdoaaGreatDoorJVaLawN9
import Derived.Test.YtinmmhbiomcdoaaGreatDoorJVaLawN0
import Derived.Test.YtinmmhbiomcdoaaGreatDoorJVaLawN5
import Derived.Test.YtinmmhbiomcdoaaGreatDoorJVaLawN2
import Derived.Test.YtinmmhbiomcdoaaGreatDoorJVaLawN8
import Derived.Test.YtinmmhbiomcdoaaGreatDoorParts

/-
  The law SlotKeeps, on lists: two files of a disk of lists, by the fuse; what Puts and a crash leave of slots (P21.3). No Go function is spoken of.
-/
namespace Go.Proofs.YtinmmhbiomcdoaaGreatDoor
open Go.RowKit

/-- File z (1 or 2) holds v, the other one u, file 0 nothing. -/
def kz (z : Int) (r f : Int) (d : Bool) (v u : FlV) : DkV := if z = 1 then ⟨r, f, d, ⟨[], []⟩, v, u⟩ else ⟨r, f, d, ⟨[], []⟩, u, v⟩
section
variable {z r f : Int} {d : Bool} {v u : FlV}
theorem kz_swap (hz : z = 1 ∨ z = 2) : kz z r f d v u = kz (3 - z) r f d u v := by
  unfold kz
  rcases hz with rfl | rfl
  · rw [if_pos rfl, if_neg (by decide)]
  · rw [if_neg (by decide), if_pos (by decide)]
theorem kz_f (hz : z = 1 ∨ z = 2) : (kz z r f d v u).f z.toNat = v := by
  unfold kz
  rcases hz with rfl | rfl
  · rfl
  · rfl
theorem kz_held (hz : z = 1 ∨ z = 2) : heldR (kz z r f d v u) z = v.held := by
  unfold heldR
  rw [kz_f hz]
theorem kz_other (hz : z = 1 ∨ z = 2) : heldR (kz z r f d v u) (3 - z) = u.held := by
  rw [kz_swap hz]
  exact kz_held (by omega)
theorem kz_head : (kz z r f d v u).room = r ∧ (kz z r f d v u).fuse = f ∧ (kz z r f d v u).down = d := by
  unfold kz
  split <;> exact ⟨rfl, rfl, rfl⟩
theorem kz_set (hz : z = 1 ∨ z = 2) (x : FlV) : (kz z r f d v u).set z.toNat x = kz z r f d x u := by
  unfold kz
  rcases hz with rfl | rfl
  · rfl
  · rfl
theorem kz_used : (kz z r f d v u).used = v.need + u.need := by
  have h0 : (⟨[], []⟩ : FlV).need = 0 := rfl
  unfold kz
  split
  · show (⟨[], []⟩ : FlV).need + v.need + u.need = _
    omega
  · show (⟨[], []⟩ : FlV).need + u.need + v.need = _
    omega
theorem kz_burn : (kz z r f d v u).burn = if f = 0 then kz z r f d v u else kz z r (f - 1) (decide (f - 1 = 0)) v u := by
  unfold DkV.burn
  rw [kz_head.2.1]
  split
  · rfl
  · unfold kz
    split <;> rfl
theorem kz_ans : (kz z r f d v u).ans = if d = true then 18 else 0 := by
  unfold DkV.ans
  rw [kz_head.2.2]
theorem noFile_kz (hz : z = 1 ∨ z = 2) : ¬ noFile z := by unfold noFile; omega
theorem kz_ap (hz : z = 1 ∨ z = 2) (b : List Int) (hr : (((v.step (.put b)).need + u.need : Nat) : Int) ≤ r) :
    apD (kz z r f false v u) z b = if f = 0 then (kz z r 0 false (v.step (.put b)) u, 0) else if f = 1 then (kz z r 0 true (v.step (.put b)) u, 18) else (kz z r (f - 1) false (v.step (.put b)) u, 0) := by
  unfold apD
  rw [if_neg (noFile_kz hz), if_neg (by rw [kz_head.2.2]; decide), kz_f hz, kz_set hz, kz_used, kz_head.1, if_neg (by omega), kz_burn]
  by_cases h0 : f = 0
  · subst h0
    rw [if_pos rfl, if_pos rfl, kz_ans, if_neg (by decide)]
  · rw [if_neg h0, if_neg h0, kz_ans]
    by_cases h1 : f = 1
    · subst h1
      rw [if_pos rfl, if_pos (by decide)]
      rfl
    · have hd : decide (f - 1 = 0) = false := decide_eq_false (by omega)
      rw [if_neg h1, hd, if_neg (by decide)]
theorem kz_ct (hz : z = 1 ∨ z = 2) (n : Nat) (hn : n ≤ v.held.length) :
    ctD (kz z r f false v u) z (n : Int) = if f = 0 then (kz z r 0 false (v.step (.cut n)) u, 0) else if f = 1 then (kz z r 0 true (v.step (.cut n)) u, 18) else (kz z r (f - 1) false (v.step (.cut n)) u, 0) := by
  unfold ctD
  rw [kz_f hz, if_neg (by unfold noFile; omega), if_neg (by rw [kz_head.2.2]; decide), Int.toNat_natCast, kz_set hz, kz_burn]
  by_cases h0 : f = 0
  · subst h0
    rw [if_pos rfl, if_pos rfl, kz_ans, if_neg (by decide)]
  · rw [if_neg h0, if_neg h0, kz_ans]
    by_cases h1 : f = 1
    · subst h1
      rw [if_pos rfl, if_pos (by decide)]
      rfl
    · have hd : decide (f - 1 = 0) = false := decide_eq_false (by omega)
      rw [if_neg h1, hd, if_neg (by decide)]
theorem kz_sy (hz : z = 1 ∨ z = 2) :
    syD (kz z r f false v u) z = if f = 0 then (kz z r 0 false ⟨v.held, []⟩ u, 0) else if f = 1 then (kz z r 0 true v u, 18) else (kz z r (f - 1) false ⟨v.held, []⟩ u, 0) := by
  unfold syD
  rw [if_neg (noFile_kz hz), if_neg (by rw [kz_head.2.2]; decide), kz_f hz, kz_burn]
  by_cases h0 : f = 0
  · subst h0
    rw [if_pos rfl, if_pos rfl, if_neg (by rw [kz_head.2.2]; decide), kz_set hz]
  · rw [if_neg h0, if_neg h0]
    by_cases h1 : f = 1
    · subst h1
      rw [if_pos (by rw [kz_head.2.2]; decide), if_pos rfl]
      rfl
    · have hd : decide (f - 1 = 0) = false := decide_eq_false (by omega)
      rw [hd, if_neg (by rw [kz_head.2.2]; decide), if_neg h1, kz_set hz]
theorem kz_ct_down (hz : z = 1 ∨ z = 2) : (ctD (kz z r f true v u) z 0) = (kz z r f true v u, 18) := by
  unfold ctD
  rw [if_neg (by unfold noFile; omega), if_pos (by rw [kz_head.2.2])]
theorem kz_arm (n : Int) : armD (kz z r f d v u) n = kz z r (max n 0) d v u := by
  unfold armD kz
  split <;> rfl
theorem kz_cr (us : List Int) : ∃ a b, crD (kz z r f d v u) us = kz z r 0 false (v.settle a) (u.settle b) ∧ a ≤ v.units := by
  unfold crD kz
  split
  · exact ⟨_, _, rfl, leftU_le _ _ _⟩
  · exact ⟨_, _, rfl, leftU_le _ _ _⟩
theorem kz_ok {T : Nat} (hr : 1 ≤ r ∧ r ≤ 65536) (hf : 0 ≤ f ∧ f < 9223372036854775808) (hv : v.Ok T) (hu : u.Ok T) (hn : ((v.need + u.need : Nat) : Int) ≤ r) : (kz z r f d v u).Ok T := by
  have he : (⟨[], []⟩ : FlV).Ok T := ⟨trivial, Nat.zero_le _, Nat.zero_le _, Nat.zero_le _⟩
  have h0 : (⟨[], []⟩ : FlV).need = 0 := rfl
  unfold kz
  split
  · exact ⟨hr, hf, by show (((⟨[], []⟩ : FlV).need + v.need + u.need : Nat) : Int) ≤ r; omega, he, hv, hu⟩
  · exact ⟨hr, hf, by show (((⟨[], []⟩ : FlV).need + u.need + v.need : Nat) : Int) ≤ r; omega, he, hu, hv⟩
theorem kz_by (hv : v.By) (hu : u.By) : (kz z r f d v u).By := by
  have he : (⟨[], []⟩ : FlV).By := ⟨fun _ h => absurd h (List.not_mem_nil), fun _ h => absurd h (List.not_mem_nil)⟩
  unfold kz
  split
  · exact ⟨he, hv, hu⟩
  · exact ⟨he, hu, hv⟩
end

/-! ### Put, by the fuse -/
/-- The frame of a snapshot. -/
def frT (t : Int) (x : List Int) : List Int := frB (beL t 8 ++ x)
theorem frT_len (t : Int) (x : List Int) : (frT t x).length = 16 + x.length := by
  unfold frT
  rw [frB_len, List.length_append, beL_len]
  omega
theorem cut_held (K : List Int) : (⟨K, [.cut 0]⟩ : FlV).held = [] := by
  show (StV.cut 0).all K = _
  rw [StV.all_cut, List.take_zero]
theorem cut_need (K : List Int) : (⟨K, [.cut 0]⟩ : FlV).need = K.length := by
  show max K.length ((StV.cut 0).all K).length = _
  rw [StV.all_cut, List.take_zero]
  exact Nat.max_eq_left (Nat.zero_le _)
theorem cl_kz {z r f : Int} {K : List Int} {u : FlV} (hz : z = 1 ∨ z = 2) (hf : 0 ≤ f) :
    (∃ f', 0 ≤ f' ∧ f' ≤ f ∧ (f = 0 → f' = 0) ∧ clS (kz z r f false ⟨K, []⟩ u) z = (kz z r f' false ⟨[], []⟩ u, 0)) ∨ (0 < f ∧ clS (kz z r f false ⟨K, []⟩ u) z = (kz z r 0 true ⟨K, [.cut 0]⟩ u, 18)) := by
  have hh : (⟨K, []⟩ : FlV).held = K := rfl
  have hu : (⟨K, []⟩ : FlV).units = 0 := rfl
  have hst : ((⟨K, []⟩ : FlV).step (.cut 0)) = ⟨K, [.cut 0]⟩ := rfl
  unfold clS
  rw [kz_held hz, kz_f hz, hh, hu]
  by_cases h0 : 0 < K.length
  · rw [if_pos (.inl h0)]
    have hc := kz_ct (r := r) (f := f) (v := ⟨K, []⟩) (u := u) hz 0 (Nat.zero_le _)
    rw [hst] at hc
    have hc : ctD (kz z r f false ⟨K, []⟩ u) z 0 = _ := hc
    unfold keD
    rw [hc]
    by_cases h1 : f = 0
    · subst h1
      rw [if_pos rfl, if_pos rfl, kz_sy hz, if_pos rfl, cut_held]
      exact .inl ⟨0, by omega, by omega, fun _ => rfl, rfl⟩
    · rw [if_neg h1]
      by_cases h2 : f = 1
      · rw [if_pos h2, if_neg (show ¬ (18 : Int) = 0 by decide)]
        exact .inr ⟨by omega, rfl⟩
      · rw [if_neg h2, if_pos rfl, kz_sy hz, if_neg (by omega)]
        by_cases h3 : f - 1 = 1
        · rw [if_pos h3]
          exact .inr ⟨by omega, rfl⟩
        · rw [if_neg h3, cut_held]
          exact .inl ⟨f - 1 - 1, by omega, by omega, fun h => absurd h h1, rfl⟩
  · have hK : K = [] := List.length_eq_zero_iff.1 (by omega)
    subst hK
    rw [if_neg (by omega)]
    exact .inl ⟨f, hf, by omega, fun h => h, rfl⟩
theorem pr_kz {z r f : Int} {u : FlV} (hz : z = 1 ∨ z = 2) (hf : 0 ≤ f) (b : List Int) (h1 : 1 ≤ b.length) (h2 : b.length ≤ 65536) (hr : (((frB b).length + u.need : Nat) : Int) ≤ r) :
    (∃ f', 0 ≤ f' ∧ f' ≤ f ∧ (f = 0 → f' = 0) ∧ prD (kz z r f false ⟨[], []⟩ u) z b = (kz z r f' false ⟨frB b, []⟩ u, 0)) ∨ (0 < f ∧ prD (kz z r f false ⟨[], []⟩ u) z b = (kz z r 0 true ⟨[], [.put (frB b)]⟩ u, 18)) := by
  have hst : ((⟨[], []⟩ : FlV).step (.put (frB b))) = ⟨[], [.put (frB b)]⟩ := rfl
  have hA := kz_ap (r := r) (f := f) (v := ⟨[], []⟩) (u := u) hz (frB b) (by rw [hst, flight_need]; show (((0 + (frB b).length) + u.need : Nat) : Int) ≤ r; omega)
  have hW : (⟨[], [.put (frB b)]⟩ : FlV).held = frB b := by rw [flight_held, List.nil_append]
  rw [hst] at hA
  unfold prD
  rw [if_neg (by omega), hA]
  by_cases h0 : f = 0
  · subst h0
    rw [if_pos rfl, if_pos rfl, kz_sy hz, if_pos rfl, hW]
    exact .inl ⟨0, by omega, by omega, fun _ => rfl, rfl⟩
  · rw [if_neg h0]
    by_cases h3 : f = 1
    · rw [if_pos h3, if_neg (show ¬ (18 : Int) = 0 by decide)]
      exact .inr ⟨by omega, rfl⟩
    · rw [if_neg h3, if_pos rfl, kz_sy hz, if_neg (by omega)]
      by_cases h4 : f - 1 = 1
      · rw [if_pos h4]
        exact .inr ⟨by omega, rfl⟩
      · rw [if_neg h4, hW]
        exact .inl ⟨f - 1 - 1, by omega, by omega, fun h => absurd h h0, rfl⟩
end Go.Proofs.YtinmmhbiomcdoaaGreatDoor

/-
  The law SlotKeeps, on lists: behind some Puts, of which one may have let the disk go down, behind a crash, and Open. No Go function is spoken of.
-/
namespace Go.Proofs.YtinmmhbiomcdoaaGreatDoor
open Go.RowKit

def curB (t : Int) (last : List Int) : List Int := if t = 0 then [] else frT t last
theorem curB_len (t : Int) (last : List Int) : (curB t last).length ≤ 16 + last.length := by
  unfold curB
  split
  · exact Nat.zero_le _
  · rw [frT_len]; exact Nat.le_refl _
theorem frT_by (t : Int) {x : List Int} (h : ∀ y ∈ x, isByte y) : ∀ y ∈ frT t x, isByte y := by
  refine frB_range fun y hy => ?_
  rcases List.mem_append.1 hy with h1 | h1
  · exact beL_range _ _ y h1
  · exact h y h1
theorem curB_by (t : Int) {x : List Int} (h : ∀ y ∈ x, isByte y) : ∀ y ∈ curB t x, isByte y := by
  unfold curB
  split
  · exact fun _ h => absurd h (List.not_mem_nil)
  · exact frT_by t h
theorem ldF_frT {t : Int} (ht : 0 ≤ t ∧ t < 18446744073709551616) {x : List Int} (hx : x.length ≤ 65528) : ldF (frT t x) = (t, x) := by
  have h := ldF_put ht (x := x) (r := []) hx
  rw [List.append_nil] at h
  exact h
/-- Behind j Puts: t of them were answered OK, the last one with 'last'; where the disk went down in one, it was 'next'. Put goes to file z. -/
structure SkS (j : Nat) (z t : Int) (last next : List Int) (down : Bool) (D : DkV) (s : SlV) : Prop where
  fz : z = 1 ∨ z = 2
  fs : s = ⟨1, 2, if t = 0 then -1 else 3 - z, t, last⟩
  fn : t = 0 → z = 1 ∧ last = []
  ft : 0 ≤ t ∧ t ≤ j
  fl : last.length ≤ 1000
  fb : ∀ y ∈ last, isByte y
  st : ∃ pb : List Int, pb.length ≤ 1016 ∧ (∀ y ∈ pb, isByte y) ∧ ((ldF pb).1 < t ∨ pb = []) ∧
    ((down = false ∧ ∃ f, 0 ≤ f ∧ f < 40 ∧ D = kz z 65536 f false ⟨pb, []⟩ ⟨curB t last, []⟩) ∨
     (down = true ∧ next.length ≤ 1000 ∧ (∀ y ∈ next, isByte y) ∧ (D = kz z 65536 0 true ⟨pb, [.cut 0]⟩ ⟨curB t last, []⟩ ∨ D = kz z 65536 0 true ⟨[], [.put (frT (t + 1) next)]⟩ ⟨curB t last, []⟩)))
theorem SkS.to {j : Nat} {z t : Int} {last next : List Int} {down : Bool} {D : DkV} {s : SlV} (h : SkS j z t last next down D s) : s.to = z := by
  have h1 := h.fn
  have h2 := h.fz
  rw [h.fs]
  unfold SlV.to
  dsimp only
  by_cases h0 : t = 0
  · rw [if_pos h0, if_neg (by decide), (h1 h0).1]
  · rw [if_neg h0]
    rcases h2 with e | e
    · rw [e, if_neg (by decide)]
    · rw [e, if_pos (by decide)]
theorem SkS.ok {j : Nat} {z t : Int} {last next : List Int} {down : Bool} {D : DkV} {s : SlV} (h : SkS j z t last next down D s) : D.Ok 1 ∧ D.By := by
  obtain ⟨pb, p1, p2, _, hs⟩ := h.st
  have hc := curB_len t last
  have hl := h.fl
  have hcb := curB_by t h.fb
  have oc : (⟨curB t last, []⟩ : FlV).Ok 1 := ⟨trivial, Nat.zero_le _, Nat.zero_le _, by show (curB t last).length ≤ 65536; omega⟩
  have bc : (⟨curB t last, []⟩ : FlV).By := ⟨hcb, fun _ h => absurd h (List.not_mem_nil)⟩
  have nc : (⟨curB t last, []⟩ : FlV).need = (curB t last).length := rfl
  rcases hs with ⟨_, f, f0, f1, rfl⟩ | ⟨_, n1, n2, rfl | rfl⟩
  · exact ⟨kz_ok (by decide) (by omega) ⟨trivial, Nat.zero_le _, Nat.zero_le _, by show pb.length ≤ 65536; omega⟩ oc (by rw [nc]; show ((pb.length + _ : Nat) : Int) ≤ _; omega), kz_by ⟨p2, fun _ h => absurd h (List.not_mem_nil)⟩ bc⟩
  · exact ⟨kz_ok (by decide) (by decide) ⟨⟨Nat.zero_le _, trivial⟩, Nat.le_refl _, by show 1 + 0 ≤ _; omega, by rw [cut_need]; omega⟩ oc (by rw [nc, cut_need]; omega), kz_by ⟨p2, fun s hs => by rw [List.mem_singleton.1 hs]; trivial⟩ bc⟩
  · have hf := frT_len (t + 1) next
    exact ⟨kz_ok (by decide) (by decide) ⟨⟨trivial, trivial⟩, Nat.le_refl _, by rw [flight_units]; omega, by rw [flight_need]; show 0 + _ ≤ _; omega⟩ oc (by rw [nc, flight_need]; show ((0 + _ + _ : Nat) : Int) ≤ _; omega), kz_by ⟨fun _ h => absurd h (List.not_mem_nil), fun s hs => by rw [List.mem_singleton.1 hs]; exact frT_by _ n2⟩ bc⟩
theorem sk_start (F : Int) (h0 : 0 ≤ F) (h1 : F < 40) (next : List Int) : SkS 0 1 0 [] next false (kz 1 65536 F false ⟨[], []⟩ ⟨[], []⟩) ⟨1, 2, -1, 0, []⟩ :=
  ⟨.inl rfl, rfl, fun _ => ⟨rfl, rfl⟩, ⟨by omega, by omega⟩, Nat.zero_le _, fun _ h => absurd h (List.not_mem_nil), [], Nat.zero_le _, fun _ h => absurd h (List.not_mem_nil), .inr rfl, .inl ⟨rfl, F, h0, h1, rfl⟩⟩
/-- One more Put. -/
theorem sk_step {j : Nat} {z t : Int} {last next x : List Int} {down : Bool} {D : DkV} {s : SlV} (h : SkS j z t last next down D s) (hj : j ≤ 1000) (hx : x.length ≤ 1000) (hb : ∀ y ∈ x, isByte y) :
    ∃ D' s' e, ptS D s x = (D', s', e) ∧ ((e = 0 ∧ down = false ∧ SkS (j + 1) (3 - z) (t + 1) x next false D' s') ∨ (e = 18 ∧ down = false ∧ SkS (j + 1) z t last x true D' s') ∨ (e = 18 ∧ down = true ∧ SkS (j + 1) z t last next true D' s')) := by
  have hto := h.to
  have hz := h.fz
  have ht := h.ft
  have hl := h.fl
  have hc := curB_len t last
  obtain ⟨pb, p1, p2, p3, hs⟩ := h.st
  have hst : s.turn = t := by rw [h.fs]
  have hg : ¬ (65528 < x.length ∨ s.turn + 1 = 18446744073709551616) := by rw [hst]; omega
  have hnx : s.next x = beL (t + 1) 8 ++ x := by unfold SlV.next; rw [hst]
  have hnl : (beL (t + 1) 8 ++ x).length = 8 + x.length := by rw [List.length_append, beL_len]
  unfold ptS
  rw [if_neg hg, hto, hnx]
  rcases hs with ⟨d0, f, f0, f1, rfl⟩ | ⟨d1, n1, n2, hD⟩
  · subst d0
    rcases cl_kz (r := 65536) (f := f) (K := pb) (u := ⟨curB t last, []⟩) hz f0 with ⟨f', g0, g1, _, hcl⟩ | ⟨_, hcl⟩
    · rw [hcl]
      dsimp only
      rw [if_neg (by decide)]
      rcases pr_kz (r := 65536) (f := f') (u := ⟨curB t last, []⟩) hz g0 (beL (t + 1) 8 ++ x) (by omega) (by omega) (by rw [frB_len]; show ((8 + _ + (curB t last).length : Nat) : Int) ≤ _; omega) with ⟨f2, k0, k1, _, hpr⟩ | ⟨_, hpr⟩
      · rw [hpr]
        dsimp only
        rw [if_neg (by decide)]
        refine ⟨_, _, _, rfl, .inl ⟨rfl, rfl, ⟨by omega, ?_, fun e => by omega, ⟨by omega, by omega⟩, hx, hb, curB t last, by omega, curB_by t h.fb, ?_, .inl ⟨rfl, f2, k0, by omega, ?_⟩⟩⟩⟩
        · rw [h.fs]
          dsimp only
          rw [if_neg (by omega : ¬ t + 1 = 0), show 3 - (3 - z) = z by omega]
        · unfold curB
          split
          · exact .inr rfl
          · refine .inl ?_
            rw [ldF_frT ⟨by omega, by omega⟩ (by omega)]
            show t < t + 1
            omega
        · rw [kz_swap hz]
          unfold curB
          rw [if_neg (by omega : ¬ t + 1 = 0)]
          rfl
      · rw [hpr]
        dsimp only
        rw [if_pos (by decide)]
        exact ⟨_, _, _, rfl, .inr (.inl ⟨rfl, rfl, ⟨hz, h.fs, h.fn, ⟨ht.1, by omega⟩, hl, h.fb, pb, p1, p2, p3, .inr ⟨rfl, hx, hb, .inr rfl⟩⟩⟩)⟩
    · rw [hcl]
      dsimp only
      rw [if_pos (by decide)]
      exact ⟨_, _, _, rfl, .inr (.inl ⟨rfl, rfl, ⟨hz, h.fs, h.fn, ⟨ht.1, by omega⟩, hl, h.fb, pb, p1, p2, p3, .inr ⟨rfl, hx, hb, .inl rfl⟩⟩⟩)⟩
  · subst d1
    have hcl : clS D z = (D, 18) := by
      unfold clS
      rcases hD with rfl | rfl
      · rw [kz_f hz, if_pos (.inr (by show 0 < 1 + 0; omega))]
        unfold keD
        rw [kz_ct_down hz, if_neg (show ¬ (18 : Int) = 0 by decide)]
      · rw [kz_f hz, if_pos (.inr (by rw [flight_units, frT_len]; omega))]
        unfold keD
        rw [kz_ct_down hz, if_neg (show ¬ (18 : Int) = 0 by decide)]
    rw [hcl]
    dsimp only
    rw [if_pos (by decide)]
    exact ⟨_, _, _, rfl, .inr (.inr ⟨rfl, rfl, ⟨hz, h.fs, h.fn, ⟨ht.1, by omega⟩, hl, h.fb, pb, p1, p2, p3, .inr ⟨rfl, n1, n2, hD⟩⟩⟩)⟩
/-- Open of two files: which one is current. -/
theorem op_kz {z r f : Int} {d : Bool} {K C : List Int} (hz : z = 1 ∨ z = 2) :
    ((ldF C).1 < (ldF K).1 → opS (kz z r f d ⟨K, []⟩ ⟨C, []⟩) 1 2 = ⟨1, 2, z, (ldF K).1, (ldF K).2⟩ ∨ (ldF K).1 ≤ 0) ∧ ((ldF K).1 < (ldF C).1 → opS (kz z r f d ⟨K, []⟩ ⟨C, []⟩) 1 2 = ⟨1, 2, 3 - z, (ldF C).1, (ldF C).2⟩ ∨ (ldF C).1 ≤ 0) ∧
      ((ldF K).1 = 0 → (ldF C).1 = 0 → opS (kz z r f d ⟨K, []⟩ ⟨C, []⟩) 1 2 = ⟨1, 2, -1, 0, []⟩) := by
  have hh : (⟨K, []⟩ : FlV).held = K := rfl
  have hc : (⟨C, []⟩ : FlV).held = C := rfl
  have e1 := kz_held (z := z) (r := r) (f := f) (d := d) (v := ⟨K, []⟩) (u := ⟨C, []⟩) hz
  have e2 := kz_other (z := z) (r := r) (f := f) (d := d) (v := ⟨K, []⟩) (u := ⟨C, []⟩) hz
  rw [hh] at e1
  rw [hc] at e2
  unfold opS
  rcases hz with rfl | rfl
  · rw [show (3 : Int) - 1 = 2 by decide] at e2 ⊢
    rw [e1, e2]
    refine ⟨fun h => ?_, fun h => ?_, fun h h' => ?_⟩
    · rw [if_neg (by omega)]
      by_cases h0 : 0 < (ldF K).1
      · rw [if_pos h0]; exact .inl rfl
      · exact .inr (by omega)
    · rw [if_pos h]
      exact .inl rfl
    · rw [if_neg (by omega), if_neg (by omega)]
  · rw [show (3 : Int) - 2 = 1 by decide] at e2 ⊢
    rw [e1, e2]
    refine ⟨fun h => ?_, fun h => ?_, fun h h' => ?_⟩
    · rw [if_pos h]
      exact .inl rfl
    · rw [if_neg (by omega)]
      by_cases h0 : 0 < (ldF C).1
      · rw [if_pos h0]; exact .inl rfl
      · exact .inr (by omega)
    · rw [if_neg (by omega), if_neg (by omega)]
theorem put_ok21 {z : Int} {K C : List Int} {s : SlV} (hz : z = 1 ∨ z = 2) (hs : s.to = z) (ht : 0 ≤ s.turn ∧ s.turn ≤ 2000) (hC : C.length ≤ 1016) :
    ∃ D' s', ptS (kz z 65536 0 false ⟨K, []⟩ ⟨C, []⟩) s [] = (D', s', 0) := by
  unfold ptS
  rw [if_neg (by show ¬ (65528 < 0 ∨ _); omega), hs]
  rcases cl_kz (r := 65536) (f := 0) (K := K) (u := ⟨C, []⟩) hz (by omega) with ⟨f', g0, g1, g2, hcl⟩ | ⟨h0, _⟩
  · rw [hcl]
    dsimp only
    rw [if_neg (by decide)]
    have hl := next_len s []
    rcases pr_kz (r := 65536) (f := f') (u := ⟨C, []⟩) hz g0 (s.next []) (by omega) (by rw [hl]; show 8 + 0 ≤ _; omega) (by rw [frB_len, hl]; show ((8 + (8 + 0) + C.length : Nat) : Int) ≤ _; omega) with ⟨f2, _, _, _, hpr⟩ | ⟨h1, _⟩
    · rw [hpr]
      dsimp only
      rw [if_neg (by decide)]
      exact ⟨_, _, rfl⟩
    · have := g2 rfl; omega
  · omega
/-- Behind a crash, and Open. -/
theorem sk_end {j : Nat} {z t : Int} {last next : List Int} {down : Bool} {D : DkV} {s : SlV} (h : SkS j z t last next down D s) (hj : j ≤ 1000) (us : List Int) :
    ∃ D2 s2 D3 s3, crD D us = D2 ∧ D2.down = false ∧ opS D2 1 2 = s2 ∧ ptS D2 s2 [] = (D3, s3, 0) ∧ D2.Ok 1 ∧ D2.By ∧ ((s2.turn = t ∧ s2.body = last) ∨ (down = true ∧ s2.turn = t + 1 ∧ s2.body = next)) := by
  obtain ⟨hO, hB⟩ := h.ok
  have hO2 := crD_ok hO us
  have hB2 := crD_by hB us
  have hz := h.fz
  have ht := h.ft
  have hl := h.fl
  have hc := curB_len t last
  have hq : ldF (curB t last) = (t, last) := by
    unfold curB
    split
    · rename_i h0
      rw [ldF_nil, h0, (h.fn h0).2]
    · exact ldF_frT ⟨ht.1, by omega⟩ (by omega)
  have hz3 : 3 - z = 1 ∨ 3 - z = 2 := by omega
  have old : ∀ K, crD D us = kz z 65536 0 false ⟨K, []⟩ ⟨curB t last, []⟩ → K.length ≤ 1016 → (∀ y ∈ K, isByte y) → ((ldF K).1 < t ∨ (ldF K).1 = 0) →
      ∃ D2 s2 D3 s3, crD D us = D2 ∧ D2.down = false ∧ opS D2 1 2 = s2 ∧ ptS D2 s2 [] = (D3, s3, 0) ∧ D2.Ok 1 ∧ D2.By ∧ ((s2.turn = t ∧ s2.body = last) ∨ (down = true ∧ s2.turn = t + 1 ∧ s2.body = next)) := by
    intro K hcr hK hKb hlt
    rw [hcr] at hO2 hB2 ⊢
    obtain ⟨_, o2, o3⟩ := op_kz (r := 65536) (f := 0) (d := false) (K := K) (C := curB t last) hz
    rw [hq] at o2 o3
    by_cases h0 : t = 0
    · have hK0 : (ldF K).1 = 0 := by
        rcases hlt with h1 | h1
        · have := (ldF_ok hKb).1
          omega
        · exact h1
      have ho := o3 hK0 h0
      have hz1 := (h.fn h0).1
      obtain ⟨D3, s3, hp⟩ := put_ok21 (z := z) (K := K) (C := curB t last) (s := ⟨1, 2, -1, 0, []⟩) hz (by rw [hz1]; rfl) (by show (0 : Int) ≤ 0 ∧ (0 : Int) ≤ 2000; omega) (by omega)
      exact ⟨_, _, D3, s3, rfl, kz_head.2.2, ho, hp, hO2, hB2, .inl ⟨h0.symm, (h.fn h0).2.symm⟩⟩
    · have ho := (o2 (by rcases hlt with h1 | h1 <;> (show (ldF K).1 < t; omega))).resolve_right (by show ¬ t ≤ 0; omega)
      obtain ⟨D3, s3, hp⟩ := put_ok21 (z := z) (K := K) (C := curB t last) (s := ⟨1, 2, 3 - z, t, last⟩) hz (by
        unfold SlV.to
        dsimp only
        rcases hz with e | e
        · rw [e, if_neg (by decide)]
        · rw [e, if_pos (by decide)]) (by show 0 ≤ t ∧ t ≤ 2000; omega) (by omega)
      exact ⟨_, _, D3, s3, rfl, kz_head.2.2, ho, hp, hO2, hB2, .inl ⟨rfl, rfl⟩⟩
  obtain ⟨pb, p1, p2, p3, hs⟩ := h.st
  have hpb : (ldF pb).1 < t ∨ (ldF pb).1 = 0 := by
    rcases p3 with h1 | h1
    · exact .inl h1
    · rw [h1, ldF_nil]; exact .inr rfl
  rcases hs with ⟨_, f, f0, f1, rfl⟩ | ⟨hd, n1, n2, rfl | rfl⟩
  · obtain ⟨a, b, hcr, _⟩ := kz_cr (z := z) (r := 65536) (f := f) (d := false) (v := ⟨pb, []⟩) (u := ⟨curB t last, []⟩) us
    exact old pb hcr p1 p2 hpb
  · obtain ⟨a, b, hcr, _⟩ := kz_cr (z := z) (r := 65536) (f := 0) (d := true) (v := ⟨pb, [.cut 0]⟩) (u := ⟨curB t last, []⟩) us
    have e : (⟨pb, [.cut 0]⟩ : FlV).settle a = ⟨(StV.cut 0).act pb (min a 1), []⟩ := rfl
    rw [e] at hcr
    unfold StV.act at hcr
    dsimp only at hcr
    split at hcr
    · exact old pb hcr p1 p2 hpb
    · exact old _ hcr (by simp) (fun y hy => p2 y (List.mem_of_mem_take hy)) (.inr (by rw [List.take_zero, ldF_nil]))
  · obtain ⟨a, b, hcr, _⟩ := kz_cr (z := z) (r := 65536) (f := 0) (d := true) (v := ⟨[], [.put (frT (t + 1) next)]⟩) (u := ⟨curB t last, []⟩) us
    have e : (⟨[], [.put (frT (t + 1) next)]⟩ : FlV).settle a = ⟨(frT (t + 1) next).take (min a (frT (t + 1) next).length), []⟩ := rfl
    rw [e] at hcr
    have hf := frT_len (t + 1) next
    obtain ⟨w, hw⟩ : ∃ w, min a (frT (t + 1) next).length = w := ⟨_, rfl⟩
    rw [hw] at hcr
    by_cases hwl : w < 16 + next.length
    · have hld : ldF ((frT (t + 1) next).take w) = (0, []) := ldF_torn (by omega) w hwl
      exact old _ hcr (by rw [List.length_take]; omega) (fun y hy => frT_by (t + 1) n2 y (List.mem_of_mem_take hy)) (.inr (by rw [hld]))
    · rw [List.take_of_length_le (by omega)] at hcr
      have hld : ldF (frT (t + 1) next) = (t + 1, next) := ldF_frT ⟨by omega, by omega⟩ (by omega)
      rw [hcr] at hO2 hB2 ⊢
      obtain ⟨o1, _, _⟩ := op_kz (r := 65536) (f := 0) (d := false) (K := frT (t + 1) next) (C := curB t last) hz
      rw [hq, hld] at o1
      have ho := (o1 (by show t < t + 1; omega)).resolve_right (by show ¬ t + 1 ≤ 0; omega)
      have hp : ∃ D' s', ptS (kz z 65536 0 false ⟨frT (t + 1) next, []⟩ ⟨curB t last, []⟩) ⟨1, 2, z, t + 1, next⟩ [] = (D', s', 0) := by
        rw [kz_swap hz]
        exact put_ok21 hz3 (by
          unfold SlV.to
          dsimp only
          rcases hz with e | e
          · rw [e, if_pos rfl]; rfl
          · rw [e, if_neg (by decide)]; rfl) (by show 0 ≤ t + 1 ∧ t + 1 ≤ 2000; omega) (by omega)
      obtain ⟨D3, s3, hp⟩ := hp
      exact ⟨_, _, D3, s3, rfl, kz_head.2.2, ho, hp, hO2, hB2, .inr ⟨hd, rfl, rfl⟩⟩
end Go.Proofs.YtinmmhbiomcdoaaGreatDoor

/-
  Slots on lists (layer 21): what the current file has goes along with what is done to the disk; Puts without a fuse. No Go function is spoken of. No conditions.
-/
namespace Go.Proofs.YtinmmhbiomcdoaaGreatDoor
open Go.RowKit

theorem u64_id {x : Int} (h : 0 ≤ x ∧ x < 18446744073709551616) : x % 18446744073709551616 = x ∧ IntKind.u64.wrap x = x := by
  refine ⟨Int.emod_eq_of_lt h.1 h.2, ?_⟩
  simp [IntKind.wrap, IntKind.signed, IntKind.bits, Int.emod_eq_of_lt h.1 h.2]
/-- A whole first frame is not moved by what stands behind it. -/
theorem oneF_more {b : List Int} (h : (oneF b).2.2 = 0) (r : List Int) : oneF (b ++ r) = oneF b := by
  have hl : (b ++ r).length = b.length + r.length := List.length_append
  unfold oneF at h ⊢
  split at h
  · cases h
  rename_i c1
  split at h
  · cases h
  rename_i c2
  split at h
  · cases h
  rename_i c3
  split at h
  · rename_i c4
    have t4 : (b ++ r).take 4 = b.take 4 := List.take_append_of_le_length (by omega)
    have d4 : ((b ++ r).drop 4).take 4 = (b.drop 4).take 4 := by
      rw [List.drop_append_of_le_length (by omega), List.take_append_of_le_length (by rw [List.length_drop]; omega)]
    have d8 : ((b ++ r).drop 8).take (be (b.take 4)).toNat = (b.drop 8).take (be (b.take 4)).toNat := by
      rw [List.drop_append_of_le_length (by omega), List.take_append_of_le_length (by rw [List.length_drop]; omega)]
    rw [t4, d4, d8, hl, if_neg (by omega), if_neg c2, if_neg (by omega), if_pos c4, if_neg c1, if_neg c2, if_neg c3]
  · cases h
theorem ldF_more {b : List Int} (h : 0 < (ldF b).1) (r : List Int) : ldF (b ++ r) = ldF b := by
  by_cases h0 : (oneF b).2.2 ≠ 0 ∨ (oneF b).1.length < 8
  · unfold ldF at h
    rw [if_pos h0] at h
    exact absurd h (by decide)
  · unfold ldF
    rw [oneF_more (by omega) r]

/-! ### What files hold, behind each call -/
theorem burn_held (D : DkV) (z : Int) : heldR D.burn z = heldR D z := by
  unfold heldR DkV.burn
  split <;> rfl
theorem set_held (D : DkV) {y z : Int} (hy : 0 ≤ y ∧ y < 3) (hz : 0 ≤ z ∧ z < 3) (v : FlV) : heldR (D.set z.toNat v) y = if y = z then v.held else heldR D y := by
  have hc : (z = 0 ∨ z = 1 ∨ z = 2) ∧ (y = 0 ∨ y = 1 ∨ y = 2) := by omega
  obtain ⟨rfl | rfl | rfl, rfl | rfl | rfl⟩ := hc <;> rfl
theorem ap_held {D : DkV} {y z : Int} (hy : 0 ≤ y ∧ y < 3) (b : List Int) : heldR (apD D z b).1 y = heldR D y ∨ (y = z ∧ heldR (apD D z b).1 y = heldR D y ++ b) := by
  unfold apD
  split
  · exact .inl rfl
  rename_i hn
  have hz : 0 ≤ z ∧ z < 3 := by unfold noFile at hn; omega
  split
  · exact .inl rfl
  split
  · exact .inl rfl
  rw [burn_held, set_held D hy hz]
  by_cases h : y = z
  · refine .inr ⟨h, ?_⟩
    rw [if_pos h, FlV.step_held, StV.all_put, h]
    rfl
  · rw [if_neg h]; exact .inl rfl
theorem ap_held_ok {D : DkV} {z : Int} {b : List Int} (h : (apD D z b).2 = 0) : heldR (apD D z b).1 z = heldR D z ++ b := by
  unfold apD at h ⊢
  split
  · rename_i hn
    rw [if_pos hn] at h
    exact absurd h (show ¬ (1 : Int) = 0 by decide)
  rename_i hn
  rw [if_neg hn] at h
  have hz : 0 ≤ z ∧ z < 3 := by unfold noFile at hn; omega
  split
  · rename_i hd
    rw [if_pos hd] at h
    exact absurd h (show ¬ (18 : Int) = 0 by decide)
  rename_i hd
  rw [if_neg hd] at h
  split
  · rename_i hr
    rw [if_pos hr] at h
    exact absurd h (show ¬ (17 : Int) = 0 by decide)
  rw [burn_held, set_held D hz hz, if_pos rfl, FlV.step_held, StV.all_put]
  rfl
theorem ct_held {D : DkV} {y z n : Int} (hy : 0 ≤ y ∧ y < 3) (h : y ≠ z) : heldR (ctD D z n).1 y = heldR D y := by
  unfold ctD
  split
  · rfl
  rename_i hn
  have hz : 0 ≤ z ∧ z < 3 := by unfold noFile at hn; omega
  split
  · rfl
  rw [burn_held, set_held D hy hz, if_neg h]
theorem ct_held_ok {D : DkV} {z : Int} (h : (ctD D z 0).2 = 0) : heldR (ctD D z 0).1 z = [] := by
  unfold ctD at h ⊢
  split
  · rename_i hn
    rw [if_pos hn] at h
    exact absurd h (show ¬ (1 : Int) = 0 by decide)
  rename_i hn
  rw [if_neg hn] at h
  have hz : 0 ≤ z ∧ z < 3 := by unfold noFile at hn; omega
  split
  · rename_i hd
    rw [if_pos hd] at h
    exact absurd h (show ¬ (18 : Int) = 0 by decide)
  rw [burn_held, set_held D hz hz, if_pos rfl, FlV.step_held, StV.all_cut]
  exact List.take_zero
theorem sy_held {D : DkV} {y z : Int} (hy : 0 ≤ y ∧ y < 3) : heldR (syD D z).1 y = heldR D y := by
  unfold syD
  split
  · rfl
  rename_i hn
  have hz : 0 ≤ z ∧ z < 3 := by unfold noFile at hn; omega
  split
  · rfl
  split
  · exact burn_held D y
  rw [set_held _ hy hz]
  by_cases h : y = z
  · rw [if_pos h, h]; rfl
  · rw [if_neg h]; exact burn_held D y
theorem cl_held {D : DkV} {y z : Int} (hy : 0 ≤ y ∧ y < 3) (h : y ≠ z) : heldR (clS D z).1 y = heldR D y := by
  unfold clS
  split
  · unfold keD
    split
    · rw [sy_held hy, ct_held hy h]
    · exact ct_held hy h
  · rfl
theorem cl_held_ok {D : DkV} {z : Int} (hz : 0 ≤ z ∧ z < 3) (h : (clS D z).2 = 0) : heldR (clS D z).1 z = [] := by
  unfold clS at h ⊢
  by_cases h0 : 0 < (heldR D z).length ∨ 0 < (D.f z.toNat).units
  · rw [if_pos h0] at h ⊢
    unfold keD at h ⊢
    by_cases h1 : (ctD D z 0).2 = 0
    · rw [if_pos h1, sy_held hz]
      exact ct_held_ok h1
    · rw [if_neg h1] at h
      exact absurd h h1
  · rw [if_neg h0]
    exact List.length_eq_zero_iff.1 (by show (heldR D z).length = 0; omega)
theorem pr_held {D : DkV} {y z : Int} (hy : 0 ≤ y ∧ y < 3) (h : y ≠ z) (b : List Int) : heldR (prD D z b).1 y = heldR D y := by
  have ha : heldR (apD D z (frB b)).1 y = heldR D y := (ap_held hy (frB b)).resolve_right (fun e => h e.1)
  unfold prD
  split
  · rfl
  split
  · rw [sy_held hy, ha]
  · exact ha
theorem pr_held_ok {D : DkV} {z : Int} (hz : 0 ≤ z ∧ z < 3) {b : List Int} (h : (prD D z b).2 = 0) : heldR (prD D z b).1 z = heldR D z ++ frB b := by
  unfold prD at h ⊢
  split
  · rename_i h0
    rw [if_pos h0] at h
    exact absurd h (show ¬ (1 : Int) = 0 by decide)
  rename_i h0
  rw [if_neg h0] at h
  by_cases h1 : (apD D z (frB b)).2 = 0
  · rw [if_pos h1, sy_held hz]
    exact ap_held_ok h1
  · rw [if_neg h1] at h
    exact absurd h h1

/-! ### What the current file has -/
/-- What a file holds; no file holds nothing. -/
def readR (D : DkV) (z : Int) : List Int := if 0 ≤ z then heldR D z else []
theorem read_by {D : DkV} (h : D.By) (z : Int) : ∀ y ∈ readR D z, isByte y := by
  unfold readR
  split
  · exact (h.f _).held
  · exact fun _ h => absurd h (List.not_mem_nil)
theorem read_len {D : DkV} {T : Nat} (hO : D.Ok T) (z : Int) : (readR D z).length ≤ 65536 := by
  unfold readR
  split
  · exact Nat.le_trans (FlV.held_le _) (hO.f _).need
  · exact Nat.zero_le _
/-- What a file has: nothing, where its turn is 0. -/
def hasF (D : DkV) (z : Int) : Int × List Int := if 0 < (ldF (readR D z)).1 then ldF (readR D z) else (0, [])
theorem one_len (X : List Int) : (oneF X).1.length ≤ 65536 := by
  by_cases h : (oneF X).2.2 = 0
  · exact (oneF_ok h).2.2.1
  · rw [(oneF_bad h).1]; exact Nat.zero_le _
theorem has_of {D : DkV} {z : Int} {t : Int} {x : List Int} (ht : hasF D z = (t, x)) {BD : List Int} (hb : (oneF (readR D z)).1 = BD) (hr : ∀ y ∈ BD, isByte y) :
    (BD.length < 8 ∧ t = 0 ∧ x = []) ∨ (8 ≤ BD.length ∧ be (BD.take 8) = 0 ∧ t = 0 ∧ x = []) ∨ (8 ≤ BD.length ∧ 0 < be (BD.take 8) ∧ t = be (BD.take 8) ∧ x = BD.drop 8) := by
  unfold hasF at ht
  by_cases h8 : BD.length < 8
  · have h0 : ldF (readR D z) = (0, []) := by unfold ldF; rw [hb, if_pos (.inr h8)]
    rw [h0, if_neg (show ¬ (0 : Int) < 0 by decide)] at ht
    injection ht with e1 e2
    exact .inl ⟨h8, e1.symm, e2.symm⟩
  have hE : (oneF (readR D z)).2.2 = 0 := by
    by_cases h : (oneF (readR D z)).2.2 = 0
    · exact h
    · have h1 := (oneF_bad h).1
      rw [hb] at h1
      rw [h1] at h8
      exact absurd (show ([] : List Int).length < 8 by decide) h8
  have h0 : ldF (readR D z) = (be (BD.take 8), BD.drop 8) := by unfold ldF; rw [hb, if_neg (by omega)]
  have h1 := (be_range (BD.take 8) 8 (by rw [List.length_take]; omega) (fun y hy => hr y (List.mem_of_mem_take hy))).1
  rw [h0] at ht
  by_cases hp : 0 < be (BD.take 8)
  · rw [if_pos hp] at ht
    injection ht with e1 e2
    exact .inr (.inr ⟨by omega, hp, e1.symm, e2.symm⟩)
  · rw [if_neg hp] at ht
    injection ht with e1 e2
    exact .inr (.inl ⟨by omega, by omega, e1.symm, e2.symm⟩)
theorem has_turn {D : DkV} (hD : D.By) {z : Int} (hz : 0 ≤ z) : (hasF D z).1 = (ldF (heldR D z)).1 := by
  have h := (ldF_ok (b := heldR D z) (hD.f _).held).1
  unfold hasF readR
  rw [if_pos hz]
  by_cases hp : 0 < (ldF (heldR D z)).1
  · rw [if_pos hp]
  · rw [if_neg hp]
    show (0 : Int) = _
    omega
theorem has_range {D : DkV} (hD : D.By) (z : Int) : 0 ≤ (hasF D z).1 ∧ (hasF D z).1 < 18446744073709551616 := by
  have h := ldF_ok (b := readR D z) (read_by hD z)
  unfold hasF
  split
  · exact ⟨h.1, h.2.1⟩
  · exact ⟨Int.le_refl 0, show (0 : Int) < 18446744073709551616 by decide⟩
/-- What the slots say is what the current file has. -/
def Cur (D : DkV) (s : SlV) : Prop := 0 < s.turn → ldF (heldR D s.now) = (s.turn, s.body)
theorem SlV.Ok.now3 {s : SlV} (h : s.Ok) : s.now = -1 ∨ (0 ≤ s.now ∧ s.now < 3) := by
  have h1 := h.n
  have h2 := h.a
  have h3 := h.b
  omega
theorem SlV.Ok.cur {s : SlV} (h : s.Ok) (hp : 0 < s.turn) : 0 ≤ s.now ∧ s.now < 3 ∧ s.now ≠ s.to := by
  have h1 := h.n
  have h2 := h.a
  have h3 := h.b
  have h4 := h.ab
  unfold SlV.to
  split <;> omega
theorem has_cur {D : DkV} {s : SlV} (h : s.Ok) (hc : Cur D s) : hasF D s.now = (s.turn, s.body) := by
  by_cases hp : 0 < s.turn
  · have h1 := hc hp
    unfold hasF readR
    rw [if_pos (h.cur hp).1, h1, if_pos hp]
  · rcases h.n with ⟨h1, h2, h3⟩ | ⟨h1, _⟩
    · have e : readR D s.now = [] := by rw [h2]; rfl
      unfold hasF
      rw [e, ldF_nil, if_neg (by decide), h1, h3]
    · exact absurd h1 hp
theorem op_now {D : DkV} {a b : Int} {t u : Int} (ha : (ldF (heldR D a)).1 = t) (hb : (ldF (heldR D b)).1 = u) : (opS D a b).now = if t < u then b else if 0 < t then a else -1 := by
  subst ha; subst hb
  unfold opS
  split
  · rfl
  · split <;> rfl
theorem op_cur {D : DkV} {a b : Int} : Cur D (opS D a b) := by
  unfold opS
  split
  · exact fun _ => rfl
  · split
    · exact fun _ => rfl
    · intro hp
      exact absurd hp (show ¬ (0 : Int) < 0 by decide)
theorem Cur.moved {D D' : DkV} {s : SlV} (hc : Cur D s) (hs : s.Ok) (h : ∀ y, 0 ≤ y ∧ y < 3 → y = s.now → heldR D' y = heldR D y) : Cur D' s := by
  intro hp
  obtain ⟨h1, h2, _⟩ := hs.cur hp
  rw [h _ ⟨h1, h2⟩ rfl]
  exact hc hp
theorem ap_cur {D : DkV} {s : SlV} (hc : Cur D s) (hs : s.Ok) (z : Int) (b : List Int) : Cur (apD D z b).1 s := by
  intro hp
  obtain ⟨h1, h2, _⟩ := hs.cur hp
  have h := hc hp
  rcases ap_held (D := D) (z := z) ⟨h1, h2⟩ b with e | ⟨_, e⟩
  · rw [e]; exact h
  · rw [e, ldF_more (by rw [h]; exact hp), h]
theorem sy_cur {D : DkV} {s : SlV} (hc : Cur D s) (hs : s.Ok) (z : Int) : Cur (syD D z).1 s := hc.moved hs (fun _ hy _ => sy_held hy)
theorem arm_cur {D : DkV} {s : SlV} (hc : Cur D s) (n : Int) : Cur (armD D n) s := hc
theorem cl_cur {D : DkV} {s : SlV} (hc : Cur D s) (hs : s.Ok) : Cur (clS D s.to).1 s := by
  intro hp
  obtain ⟨h1, h2, h3⟩ := hs.cur hp
  rw [cl_held ⟨h1, h2⟩ h3]
  exact hc hp
theorem pr_cur {D : DkV} {s : SlV} (hc : Cur D s) (hs : s.Ok) (b : List Int) : Cur (prD D s.to b).1 s := by
  intro hp
  obtain ⟨h1, h2, h3⟩ := hs.cur hp
  rw [pr_held ⟨h1, h2⟩ h3]
  exact hc hp
theorem pt_cur {D : DkV} {s : SlV} (hc : Cur D s) (hs : s.Ok) (x : List Int) : Cur (ptS D s x).1 (ptS D s x).2.1 := by
  have ht := hs.to
  unfold ptS
  split
  · exact hc
  rename_i h0
  split
  · exact cl_cur hc hs
  rename_i h1
  split
  · exact pr_cur (cl_cur hc hs) hs _
  rename_i h2
  intro _
  have h1 : (clS D s.to).2 = 0 := by omega
  have h2 : (prD (clS D s.to).1 s.to (s.next x)).2 = 0 := by omega
  have ht3 := hs.t
  show ldF (heldR (prD (clS D s.to).1 s.to (s.next x)).1 s.to) = (s.turn + 1, x)
  rw [pr_held_ok ht h2, cl_held_ok ht h1, List.nil_append]
  have h := ldF_put (t := s.turn + 1) (x := x) (r := []) (by omega) (by omega)
  rw [List.append_nil] at h
  exact h

/-! ### Without a fuse -/
/-- A disk without a fuse, with room for three files of M bytes, of which none needs more. -/
structure Nf (M : Nat) (D : DkV) : Prop where
  f : D.fuse = 0
  d : D.down = false
  r : 3 * (M : Int) ≤ D.room
  n0 : D.f0.need ≤ M
  n1 : D.f1.need ≤ M
  n2 : D.f2.need ≤ M
theorem Nf.n {M : Nat} {D : DkV} (h : Nf M D) (i : Nat) : (D.f i).need ≤ M := by
  unfold DkV.f
  split
  · exact h.n0
  · split
    · exact h.n1
    · exact h.n2
theorem Nf.set {M : Nat} {D : DkV} (h : Nf M D) (i : Nat) {v : FlV} (hv : v.need ≤ M) : Nf M (D.set i v) := by
  unfold DkV.set
  split
  · exact ⟨h.f, h.d, h.r, hv, h.n1, h.n2⟩
  · split
    · exact ⟨h.f, h.d, h.r, h.n0, hv, h.n2⟩
    · exact ⟨h.f, h.d, h.r, h.n0, h.n1, hv⟩
theorem Nf.used {M : Nat} {D : DkV} (h : Nf M D) : (D.used : Int) ≤ D.room := by
  have h0 := h.n0
  have h1 := h.n1
  have h2 := h.n2
  have h3 := h.r
  unfold DkV.used
  omega
theorem sy_nf {M : Nat} {D : DkV} (h : Nf M D) {z : Int} (hz : 0 ≤ z ∧ z < 3) : ∃ D', syD D z = (D', 0) ∧ Nf M D' := by
  refine ⟨_, syD_none h.f h.d hz, h.set _ ?_⟩
  show (heldR D z).length ≤ M
  exact Nat.le_trans (FlV.held_le _) (h.n _)
theorem ct_nf {M : Nat} {D : DkV} (h : Nf M D) {z : Int} (hz : 0 ≤ z ∧ z < 3) : ∃ D', ctD D z 0 = (D', 0) ∧ Nf M D' := by
  refine ⟨_, ctD_none h.f h.d hz (Int.le_refl 0) (Int.natCast_nonneg _), h.set _ ?_⟩
  have h1 := h.n z.toNat
  have h2 := cut_len (0 : Int).toNat (D.f z.toNat).held
  have h3 := FlV.held_le (D.f z.toNat)
  rw [FlV.step_need]
  omega
theorem cl_nf {M : Nat} {D : DkV} (h : Nf M D) {z : Int} (hz : 0 ≤ z ∧ z < 3) : ∃ D', clS D z = (D', 0) ∧ Nf M D' ∧ heldR D' z = [] := by
  have key : ∃ D', clS D z = (D', 0) ∧ Nf M D' := by
    unfold clS
    split
    · obtain ⟨D1, e1, n1⟩ := ct_nf h hz
      obtain ⟨D2, e2, n2⟩ := sy_nf n1 hz
      unfold keD
      rw [e1]
      dsimp only
      rw [if_pos rfl, e2]
      exact ⟨D2, rfl, n2⟩
    · exact ⟨D, rfl, h⟩
  obtain ⟨D', e, n⟩ := key
  have hh := cl_held_ok (D := D) hz (by rw [e])
  rw [e] at hh
  exact ⟨D', e, n, hh⟩
theorem ap_nf {M : Nat} {D : DkV} (h : Nf M D) {z : Int} (hz : 0 ≤ z ∧ z < 3) (h0 : heldR D z = []) {b : List Int} (hb : b.length ≤ M) : ∃ D', apD D z b = (D', 0) ∧ Nf M D' := by
  have hv : ((D.f z.toNat).step (.put b)).need ≤ M := by
    have h1 := h.n z.toNat
    have h2 := put_len b (D.f z.toNat).held
    have h3 : (D.f z.toNat).held.length = 0 := by
      have : (heldR D z).length = 0 := by rw [h0]; rfl
      exact this
    rw [FlV.step_need]
    omega
  have hn := h.set z.toNat hv
  have hh := DkV.set_head D z.toNat ((D.f z.toNat).step (.put b))
  have hu := hn.used
  rw [hh.1] at hu
  refine ⟨_, ?_, hn⟩
  unfold apD
  rw [if_neg (by unfold noFile; omega), if_neg (by rw [h.d]; decide), if_neg (by omega), burn_none hn.f]
  unfold DkV.ans
  rw [if_neg (by rw [hn.d]; decide)]
theorem pr_nf {M : Nat} {D : DkV} (h : Nf M D) {z : Int} (hz : 0 ≤ z ∧ z < 3) (h0 : heldR D z = []) {b : List Int} (h1 : 1 ≤ b.length) (hb : 8 + b.length ≤ M) (hm : b.length ≤ 65536) : ∃ D', prD D z b = (D', 0) ∧ Nf M D' := by
  obtain ⟨D1, e1, n1⟩ := ap_nf h hz h0 (b := frB b) (by rw [frB_len]; omega)
  obtain ⟨D2, e2, n2⟩ := sy_nf n1 hz
  unfold prD
  rw [if_neg (by omega), e1]
  dsimp only
  rw [if_pos rfl, e2]
  exact ⟨D2, rfl, n2⟩
theorem pt_nf {M : Nat} {D : DkV} {s : SlV} (h : Nf M D) (hs : s.Ok) {x : List Int} (hx : 16 + x.length ≤ M) (hx2 : x.length ≤ 65528) (ht : s.turn + 1 ≠ 18446744073709551616) :
    ∃ D', ptS D s x = (D', { s with now := s.to, turn := s.turn + 1, body := x }, 0) ∧ Nf M D' := by
  obtain ⟨D1, e1, n1, h1⟩ := cl_nf h hs.to
  have hl := next_len s x
  obtain ⟨D2, e2, n2⟩ := pr_nf n1 hs.to h1 (b := s.next x) (by omega) (by omega) (by omega)
  unfold ptS
  rw [if_neg (by omega), e1]
  dsimp only
  rw [if_neg (by decide), e2]
  dsimp only
  rw [if_neg (by decide)]
  exact ⟨D2, rfl, n2⟩
end Go.Proofs.YtinmmhbiomcdoaaGreatDoor

/-
  The law DiskNil: what a nil disk, and one that no call made, answers. New memory alone is written. No conditions.
-/
namespace Go.Proofs.YtinmmhbiomcdoaaGreatDoor
open Go.RowKit

/-- A disk that no call made. -/
def Dead (w : World) (p : Option Addr) : Prop := p = none ∨ ∃ g, p = some ⟨g, 0, none⟩ ∧ w.cell? ⟨g, 0, none⟩ = some (.int .i64 0)
theorem Dead.keep {w w' : World} {p : Option Addr} (h : Dead w p) (hb : Below w.heap.size w w') : Dead w' p := by
  rcases h with h | ⟨g, h, hc⟩
  · exact .inl h
  · exact .inr ⟨g, h, by rw [hb.cell (World.block_lt_of_cell? w _ hc)]; exact hc⟩

set_option maxRecDepth 100000 in
set_option maxHeartbeats 1000000 in
theorem nMade {w : World} {p : Option Addr} (h : Dead w p) :
    Calls Tryz.prog 49 #[.pointer p] w fun q w' => q = .returned (.bool false) ∧ w = w' := by
  rcases h with rfl | ⟨g, rfl, hc⟩
  · go_enter Tryz.func49, Tryz.ntmps49
    go_wp2
    go_ret
    exact ⟨rfl, rfl⟩
  · go_enter Tryz.func49, Tryz.ntmps49
    go_wp2
    go_ret
    exact ⟨rfl, rfl⟩

set_option maxRecDepth 100000 in
set_option maxHeartbeats 1000000 in
theorem nFind {w : World} {p : Option Addr} (h : Dead w p) (i : Int) :
    Calls Tryz.prog 59 #[.pointer p, .int .i64 i] w fun q w' => q = .returned (.tuple #[.pointer none, .int .i64 7]) ∧ w = w' := by
  have hM := nMade h
  clear h
  go_enter Tryz.func59, Tryz.ntmps59
  go_wp2_with fail
  refine hM.mono ?_
  rintro q w1 ⟨rfl, rfl⟩
  go_wp2
  go_ret2
  exact ⟨rfl, rfl⟩

set_option maxRecDepth 100000 in
set_option maxHeartbeats 1000000 in
theorem nAppend {w : World} {p : Option Addr} (h : Dead w p) (i : Int) (a : Option Addr) (n c : Nat) :
    Calls Tryz.prog 26 #[.pointer p, .int .i64 i, .slice a n c] w fun q w' => q = .returned (.int .i64 7) ∧ w = w' := by
  have hM := nFind h i
  clear h
  go_enter Tryz.func26, Tryz.ntmps26
  go_wp2_with fail
  refine hM.mono ?_
  rintro q w1 ⟨rfl, rfl⟩
  go_wp2
  go_ret
  exact ⟨rfl, rfl⟩

set_option maxRecDepth 100000 in
set_option maxHeartbeats 1000000 in
theorem nCut {w : World} {p : Option Addr} (h : Dead w p) (i k : Int) :
    Calls Tryz.prog 127 #[.pointer p, .int .i64 i, .int .i64 k] w fun q w' => q = .returned (.int .i64 7) ∧ w = w' := by
  have hM := nFind h i
  clear h
  go_enter Tryz.func127, Tryz.ntmps127
  go_wp2_with fail
  refine hM.mono ?_
  rintro q w1 ⟨rfl, rfl⟩
  go_wp2
  go_ret
  exact ⟨rfl, rfl⟩

set_option maxRecDepth 100000 in
set_option maxHeartbeats 1000000 in
theorem nSync {w : World} {p : Option Addr} (h : Dead w p) (i : Int) :
    Calls Tryz.prog 85 #[.pointer p, .int .i64 i] w fun q w' => q = .returned (.int .i64 7) ∧ w = w' := by
  have hM := nFind h i
  clear h
  go_enter Tryz.func85, Tryz.ntmps85
  go_wp2_with fail
  refine hM.mono ?_
  rintro q w1 ⟨rfl, rfl⟩
  go_wp2
  go_ret
  exact ⟨rfl, rfl⟩

set_option maxRecDepth 100000 in
set_option maxHeartbeats 1000000 in
theorem nUsed {w : World} {p : Option Addr} (h : Dead w p) :
    Calls Tryz.prog 98 #[.pointer p] w fun q w' => q = .returned (.int .i64 0) ∧ w = w' := by
  have hM := nMade h
  clear h
  go_enter Tryz.func98, Tryz.ntmps98
  go_wp2_with fail
  refine hM.mono ?_
  rintro q w1 ⟨rfl, rfl⟩
  go_wp2
  go_ret
  exact ⟨rfl, rfl⟩

set_option maxRecDepth 100000 in
set_option maxHeartbeats 1000000 in
theorem nRoom {w : World} {p : Option Addr} (h : Dead w p) :
    Calls Tryz.prog 109 #[.pointer p] w fun q w' => q = .returned (.int .i64 0) ∧ w = w' := by
  have hM := nMade h
  clear h
  go_enter Tryz.func109, Tryz.ntmps109
  go_wp2_with fail
  refine hM.mono ?_
  rintro q w1 ⟨rfl, rfl⟩
  go_wp2
  go_ret
  exact ⟨rfl, rfl⟩

set_option maxRecDepth 100000 in
set_option maxHeartbeats 1000000 in
theorem nDown {w : World} {p : Option Addr} (h : Dead w p) :
    Calls Tryz.prog 22 #[.pointer p] w fun q w' => q = .returned (.bool true) ∧ w = w' := by
  have hM := nMade h
  clear h
  go_enter Tryz.func22, Tryz.ntmps22
  go_wp2_with fail
  refine hM.mono ?_
  rintro q w1 ⟨rfl, rfl⟩
  go_wp2
  go_ret
  exact ⟨rfl, rfl⟩

set_option maxRecDepth 100000 in
set_option maxHeartbeats 1000000 in
theorem nArm {w : World} {p : Option Addr} (h : Dead w p) (n : Int) :
    Calls Tryz.prog 16 #[.pointer p, .int .i64 n] w fun q w' => q = .returned (.tuple #[]) ∧ w = w' := by
  have hM := nMade h
  clear h
  go_enter Tryz.func16, Tryz.ntmps16
  go_wp2_with fail
  refine hM.mono ?_
  rintro q w1 ⟨rfl, rfl⟩
  go_wp2
  (try simp only [Exit.inBlock, Exit.then])
  first
    | go_end0
    | refine bodyPost_ret (results_none rfl _ _ _) rfl ?_
  first
    | exact ⟨rfl, rfl⟩
    | rfl

set_option maxRecDepth 100000 in
set_option maxHeartbeats 1000000 in
theorem nCrash {w : World} {p : Option Addr} (h : Dead w p) (a : Option Addr) (n c : Nat) :
    Calls Tryz.prog 18 #[.pointer p, .slice a n c] w fun q w' => q = .returned (.tuple #[]) ∧ w = w' := by
  have hM := nMade h
  clear h
  go_enter Tryz.func18, Tryz.ntmps18
  go_wp2_with fail
  refine hM.mono ?_
  rintro q w1 ⟨rfl, rfl⟩
  go_wp2
  (try simp only [Exit.inBlock, Exit.then])
  first
    | go_end0
    | refine bodyPost_ret (results_none rfl _ _ _) rfl ?_
  first
    | exact ⟨rfl, rfl⟩
    | rfl

set_option maxRecDepth 100000 in
set_option maxHeartbeats 1000000 in
theorem nLook {w : World} {p : Option Addr} (h : Dead w p) (i : Int) :
    Calls Tryz.prog 97 #[.pointer p, .int .i64 i] w fun q w' => q = .returned (.agg flZ.toArray) ∧ Below w.heap.size w w' := by
  obtain ⟨zs, hzs⟩ : ∃ zs, flZ = zs := ⟨_, rfl⟩
  have hz := zeroFl
  have hbt := built_fl0
  have h1 := flZ_one
  have hl : flZ.length = 5 := rfl
  rw [hzs] at hz hbt h1 hl ⊢
  have hZ := Blk.new w 89 zs
  have hB := below1 w (.cells zs.toArray 89)
  have hF := nFind (h.keep hB) i
  obtain ⟨W, hW⟩ : ∃ W, w.alloc (.cells zs.toArray 89) = W := ⟨_, rfl⟩
  rw [hW] at hZ hB hF
  have hWH := Lib.hid hW
  have hrow : IsRow Tryz.prog 89 zs.length := by rw [hl]; exact rowFl
  clear hzs h hW
  go_enter Tryz.func97, Tryz.ntmps97
  go_wp2_with (with_reducible refine wpList_alloc_blk rfl 89 rfl hz ?_
               refine RowKit.Hid.out ?_)
  refine Lib.hid ?_
  rw [hWH.out]
  go_wp2_with fail
  refine hF.mono ?_
  rintro q w1 ⟨rfl, rfl⟩
  go_wp2_with (with_reducible refine build_row rfl 89 #[] rfl (cells := zs.toArray) ?_ ?_
               (refine Eq.trans (congrArg _ ?_) hbt; kernel_rfl)
               refine RowKit.Hid.out ?_)
  refine Lib.hid ?_
  refine store_row rfl 89 (.tmp 4) _ rfl rfl rfl hZ rowFl hl hl h1 ?_
  intro w2 hb2 hg2
  have hB2 := hB.grown hg2 hB.size (fun q hq => by injection hq with hq; rw [← hq]; exact Nat.le_refl _)
  clear hZ hg2
  go_wp2
  refine bodyPost_ret (results_blk rfl rfl hb2 hrow) rfl ?_
  exact ⟨rfl, hB2⟩

set_option maxRecDepth 100000 in
set_option maxHeartbeats 1000000 in
theorem pClone_none (w : World) : Calls Tryz.prog 43 #[.slice none 0 0] w fun q w' => q = .returned (.slice none 0 0) ∧ w = w' := by
  have heq := pNone 0
  go_enter Tryz.func43, Tryz.ntmps43
  go_wp2
  go_ret
  exact ⟨rfl, rfl⟩

set_option maxRecDepth 100000 in
set_option maxHeartbeats 1000000 in
theorem nRead {w : World} {p : Option Addr} (h : Dead w p) (i : Int) :
    Calls Tryz.prog 54 #[.pointer p, .int .i64 i] w fun q w' => q = .returned (.slice none 0 0) ∧ Below w.heap.size w w' := by
  have hL := nLook h i
  have hf : ∀ wx, (Instr.field 89 (.agg flZ.toArray) 2).run Tryz.prog wx = .ok (.slice none 0 0) wx := fun wx => by kernel_rfl
  obtain ⟨Cs, hCs⟩ : ∃ Cs, flZ.toArray = Cs := ⟨_, rfl⟩
  rw [hCs] at hf hL
  clear h hCs
  have hC := fun w' => pClone_none w'
  go_enter Tryz.func54, Tryz.ntmps54
  go_wp2_with fail
  refine hL.mono ?_
  rintro q w1 ⟨rfl, hB⟩
  go_wp2_with fail
  refine (hC w1).mono ?_
  rintro q w2 ⟨rfl, rfl⟩
  go_wp2
  go_ret
  exact ⟨rfl, hB⟩

set_option maxRecDepth 100000 in
set_option maxHeartbeats 1000000 in
theorem nKept {w : World} {p : Option Addr} (h : Dead w p) (i : Int) :
    Calls Tryz.prog 56 #[.pointer p, .int .i64 i] w fun q w' => q = .returned (.slice none 0 0) ∧ Below w.heap.size w w' := by
  have hL := nLook h i
  have hf : ∀ wx, (Instr.field 89 (.agg flZ.toArray) 0).run Tryz.prog wx = .ok (.slice none 0 0) wx := fun wx => by kernel_rfl
  obtain ⟨Cs, hCs⟩ : ∃ Cs, flZ.toArray = Cs := ⟨_, rfl⟩
  rw [hCs] at hf hL
  clear h hCs
  have hC := fun w' => pClone_none w'
  go_enter Tryz.func56, Tryz.ntmps56
  go_wp2_with fail
  refine hL.mono ?_
  rintro q w1 ⟨rfl, hB⟩
  go_wp2_with fail
  refine (hC w1).mono ?_
  rintro q w2 ⟨rfl, rfl⟩
  go_wp2
  go_ret
  exact ⟨rfl, hB⟩

set_option maxRecDepth 100000 in
set_option maxHeartbeats 1000000 in
theorem nSize {w : World} {p : Option Addr} (h : Dead w p) (i : Int) :
    Calls Tryz.prog 58 #[.pointer p, .int .i64 i] w fun q w' => q = .returned (.int .i64 0) ∧ Below w.heap.size w w' := by
  have hL := nLook h i
  have hf : ∀ wx, (Instr.field 89 (.agg flZ.toArray) 2).run Tryz.prog wx = .ok (.slice none 0 0) wx := fun wx => by kernel_rfl
  obtain ⟨Cs, hCs⟩ : ∃ Cs, flZ.toArray = Cs := ⟨_, rfl⟩
  rw [hCs] at hf hL
  clear h hCs
  go_enter Tryz.func58, Tryz.ntmps58
  go_wp2_with fail
  refine hL.mono ?_
  rintro q w1 ⟨rfl, hB⟩
  go_wp2
  go_ret
  exact ⟨rfl, hB⟩

set_option maxRecDepth 100000 in
set_option maxHeartbeats 1000000 in
theorem nUnits {w : World} {p : Option Addr} (h : Dead w p) (i : Int) :
    Calls Tryz.prog 126 #[.pointer p, .int .i64 i] w fun q w' => q = .returned (.int .i64 0) ∧ Below w.heap.size w w' := by
  have hL := nLook h i
  have hf : ∀ wx, (Instr.field 89 (.agg flZ.toArray) 4).run Tryz.prog wx = .ok (.int .i64 0) wx := fun wx => by kernel_rfl
  obtain ⟨Cs, hCs⟩ : ∃ Cs, flZ.toArray = Cs := ⟨_, rfl⟩
  rw [hCs] at hf hL
  clear h hCs
  go_enter Tryz.func126, Tryz.ntmps126
  go_wp2_with fail
  refine hL.mono ?_
  rintro q w1 ⟨rfl, hB⟩
  go_wp2
  go_ret
  exact ⟨rfl, hB⟩

end Go.Proofs.YtinmmhbiomcdoaaGreatDoor

/-
  A vault on lists (layer 22): what Open, Put and Compact come to over a disk of lists. No Go function is spoken of. No conditions.
-/
namespace Go.Proofs.YtinmmhbiomcdoaaGreatDoor
open Go.RowKit

/-- A vault: slots, the last number, is there a snapshot, which, and the records behind it. -/
structure VtV where
  s : SlV
  last : Int
  some : Bool
  body : List Int
  after : List (List Int)
/-- Bodies of the roll, gone through from a last number and records on: the error, the last number, the records. -/
def goV : Int → List (List Int) → List (List Int) → Int × Int × List (List Int)
  | l, acc, [] => (0, l, acc)
  | l, acc, b :: r => if b.length < 9 then (4, l, acc) else if be (b.take 8) ≤ l then goV l acc r else if be (b.take 8) ≠ l + 1 then (4, l, acc) else goV (be (b.take 8)) (acc ++ [b.drop 8]) r
theorem goV_cons (l : Int) (acc : List (List Int)) (b : List Int) (r : List (List Int)) : goV l acc (b :: r) = if b.length < 9 then (4, l, acc) else if be (b.take 8) ≤ l then goV l acc r else if be (b.take 8) ≠ l + 1 then (4, l, acc) else goV (be (b.take 8)) (acc ++ [b.drop 8]) r := rfl
/-- What Open makes of slots and of the roll's bodies: the vault, the error. -/
def mkV (s : SlV) (L : List (List Int)) : VtV × Int :=
  if 0 < s.turn then
    if s.body.length < 8 then (⟨s, 0, false, [], []⟩, 4)
    else (⟨s, (goV (be (s.body.take 8)) [] L).2.1, true, s.body.drop 8, (goV (be (s.body.take 8)) [] L).2.2⟩, (goV (be (s.body.take 8)) [] L).1)
  else (⟨s, (goV 0 [] L).2.1, false, [], (goV 0 [] L).2.2⟩, (goV 0 [] L).1)
/-- What Open does: the disk, the vault, the error. -/
noncomputable def opV (D : DkV) : DkV × VtV × Int :=
  if D.down = true then (D, ⟨⟨0, 0, 0, 0, []⟩, 0, false, [], []⟩, 18)
  else if (mdD D 0).2 ≠ 0 then ((mdD D 0).1, ⟨opS D 1 2, 0, false, [], []⟩, (mdD D 0).2)
  else ((mdD D 0).1, (mkV (opS D 1 2) (allF (heldR (mdD D 0).1 0))).1, (mkV (opS D 1 2) (allF (heldR (mdD D 0).1 0))).2)
/-- The body of the next record. -/
def VtV.next (v : VtV) (x : List Int) : List Int := beL (v.last + 1) 8 ++ x
/-- The body of a snapshot. -/
def VtV.snap (v : VtV) (x : List Int) : List Int := beL v.last 8 ++ x
/-- What Put does. -/
def ptV (D : DkV) (v : VtV) (x : List Int) : DkV × VtV × Int :=
  if x.length < 1 ∨ 60000 < x.length ∨ 18446744073709551614 ≤ v.last then (D, v, 1)
  else if (prD D 0 (v.next x)).2 ≠ 0 then ((prD D 0 (v.next x)).1, v, (prD D 0 (v.next x)).2)
  else ((prD D 0 (v.next x)).1, { v with last := v.last + 1, after := v.after ++ [x] }, 0)
/-- What Compact does. -/
def coV (D : DkV) (v : VtV) (x : List Int) : DkV × VtV × Int :=
  if 60000 < x.length then (D, v, 1)
  else if (ptS D v.s (v.snap x)).2.2 ≠ 0 then ((ptS D v.s (v.snap x)).1, { v with s := (ptS D v.s (v.snap x)).2.1 }, (ptS D v.s (v.snap x)).2.2)
  else ((keD (ptS D v.s (v.snap x)).1 0 0).1, { v with s := (ptS D v.s (v.snap x)).2.1, some := true, body := x, after := [] }, (keD (ptS D v.s (v.snap x)).1 0 0).2)

/-! ### Records with their numbers -/
/-- Records' bodies, numbered from the one behind m on. -/
def nums : Int → List (List Int) → List (List Int)
  | _, [] => []
  | m, r :: R => (beL (m + 1) 8 ++ r) :: nums (m + 1) R
theorem nums_len : ∀ (R : List (List Int)) (m : Int), (nums m R).length = R.length
  | [], _ => rfl
  | _ :: R, m => by show (nums (m + 1) R).length + 1 = R.length + 1; rw [nums_len R]
theorem nums_snoc : ∀ (R : List (List Int)) (m : Int) (x : List Int), nums m (R ++ [x]) = nums m R ++ [beL (m + R.length + 1) 8 ++ x]
  | [], m, x => by
    show [beL (m + 1) 8 ++ x] = [] ++ [beL (m + ((0 : Nat) : Int) + 1) 8 ++ x]
    rw [show m + ((0 : Nat) : Int) + 1 = m + 1 by omega]
    rfl
  | r :: R, m, x => by
    show (beL (m + 1) 8 ++ r) :: nums (m + 1) (R ++ [x]) = (beL (m + 1) 8 ++ r) :: (nums (m + 1) R ++ [beL (m + ((R.length + 1 : Nat) : Int) + 1) 8 ++ x])
    rw [nums_snoc R, show m + 1 + (R.length : Int) + 1 = m + ((R.length + 1 : Nat) : Int) + 1 by omega]
/-- How many bytes records take in the roll. -/
def recs (R : List (List Int)) : Nat := (R.map (fun r => 16 + r.length)).sum
theorem recs_snoc (R : List (List Int)) (x : List Int) : recs (R ++ [x]) = recs R + (16 + x.length) := by unfold recs; simp
theorem recs_len (R : List (List Int)) : 16 * R.length ≤ recs R := by
  induction R with
  | nil => exact Nat.zero_le _
  | cons r R ih =>
    show 16 * (R.length + 1) ≤ (16 + r.length) + recs R
    omega
theorem flat_nums : ∀ (R : List (List Int)) (m : Int), (flat (nums m R)).length = recs R
  | [], _ => rfl
  | r :: R, m => by
    have h := flat_nums R (m + 1)
    show (frB (beL (m + 1) 8 ++ r) ++ flat (nums (m + 1) R)).length = (16 + r.length) + recs R
    rw [List.length_append, h, frB_len, List.length_append, beL_len]
    omega
/-- Records that may be. -/
def Recs (R : List (List Int)) : Prop := ∀ r ∈ R, 1 ≤ r.length ∧ r.length ≤ 60000
theorem Recs.snoc {R : List (List Int)} (h : Recs R) {x : List Int} (h1 : 1 ≤ x.length) (h2 : x.length ≤ 60000) : Recs (R ++ [x]) := by
  intro r hr
  rcases List.mem_append.1 hr with hr | hr
  · exact h r hr
  · rw [List.mem_singleton.1 hr]; exact ⟨h1, h2⟩
theorem nums_bodied : ∀ (R : List (List Int)) (m : Int), Recs R → Bodied (nums m R)
  | [], _, _ => fun _ h => absurd h (List.not_mem_nil)
  | r :: R, m, h => by
    intro b hb
    rcases List.mem_cons.1 hb with hb | hb
    · have h1 := h r (List.mem_cons_self ..)
      rw [hb, List.length_append, beL_len]
      omega
    · exact nums_bodied R (m + 1) (fun x hx => h x (List.mem_cons_of_mem _ hx)) b hb
theorem nums_by : ∀ (R : List (List Int)) (m : Int), (∀ r ∈ R, ∀ y ∈ r, isByte y) → ∀ b ∈ nums m R, ∀ y ∈ b, isByte y
  | [], _, _ => fun _ h => absurd h (List.not_mem_nil)
  | r :: R, m, h => by
    intro b hb y hy
    rcases List.mem_cons.1 hb with hb | hb
    · rw [hb] at hy
      rcases List.mem_append.1 hy with h1 | h1
      · exact beL_range _ _ y h1
      · exact h r (List.mem_cons_self ..) y h1
    · exact nums_by R (m + 1) (fun x hx => h x (List.mem_cons_of_mem _ hx)) b hb y hy
theorem flat_by {L : List (List Int)} (h : ∀ b ∈ L, ∀ y ∈ b, isByte y) : ∀ y ∈ flat L, isByte y := by
  intro y hy
  obtain ⟨f, hf, hy⟩ := List.mem_flatten.1 hy
  obtain ⟨b, hb, rfl⟩ := List.mem_map.1 hf
  exact frB_range (h b hb) y hy
theorem take8 (n : Int) (x : List Int) : (beL n 8 ++ x).take 8 = beL n 8 ∧ (beL n 8 ++ x).drop 8 = x := by
  have hl := beL_len n 8
  constructor
  · rw [List.take_append_of_le_length (by omega), List.take_of_length_le (by omega)]
  · rw [List.drop_append_of_le_length (by omega), List.drop_of_length_le (by omega), List.nil_append]
theorem be8 {n : Int} (h : 0 ≤ n ∧ n < 18446744073709551616) : be (beL n 8) = n := be_beL 8 n h.1 (by rw [show (256 : Int) ^ 8 = 18446744073709551616 by decide]; exact h.2)
/-- Records that are the next ones. -/
theorem goV_nums : ∀ (R : List (List Int)) (l : Int) (acc rest : List (List Int)), Recs R → 0 ≤ l → l + R.length < 18446744073709551616 → goV l acc (nums l R ++ rest) = goV (l + R.length) (acc ++ R) rest
  | [], l, acc, rest, _, _, _ => by
    show goV l acc rest = goV (l + ((0 : Nat) : Int)) (acc ++ []) rest
    rw [List.append_nil, show l + ((0 : Nat) : Int) = l by omega]
  | r :: R, l, acc, rest, h, h0, h1 => by
    have hr := (h r (List.mem_cons_self ..)).1
    have hc : ((r :: R).length : Int) = (R.length : Int) + 1 := by rw [List.length_cons]; omega
    have ht := take8 (l + 1) r
    have hl : (beL (l + 1) 8 ++ r).length = 8 + r.length := by rw [List.length_append, beL_len]
    have hn : be (beL (l + 1) 8) = l + 1 := be8 ⟨by omega, by omega⟩
    show goV l acc ((beL (l + 1) 8 ++ r) :: (nums (l + 1) R ++ rest)) = _
    have ih := goV_nums R (l + 1) (acc ++ [r]) rest (fun x hx => h x (List.mem_cons_of_mem _ hx)) (by omega) (by omega)
    rw [goV_cons]
    rw [if_neg (by omega), ht.1, ht.2, hn, if_neg (by omega), if_neg (by omega), ih, List.append_assoc, hc]
    rw [show l + 1 + (R.length : Int) = l + ((R.length : Int) + 1) by omega]
    rfl
/-- Records that the snapshot has. -/
theorem goV_over : ∀ (R : List (List Int)) (m l : Int) (acc rest : List (List Int)), Recs R → 0 ≤ m → m + R.length ≤ l → l < 18446744073709551616 → goV l acc (nums m R ++ rest) = goV l acc rest
  | [], _, _, _, _, _, _, _, _ => rfl
  | r :: R, m, l, acc, rest, h, h0, h1, h2 => by
    have hr := (h r (List.mem_cons_self ..)).1
    have hc : ((r :: R).length : Int) = (R.length : Int) + 1 := by rw [List.length_cons]; omega
    have ht := take8 (m + 1) r
    have hl : (beL (m + 1) 8 ++ r).length = 8 + r.length := by rw [List.length_append, beL_len]
    have hn : be (beL (m + 1) 8) = m + 1 := be8 ⟨by omega, by omega⟩
    show goV l acc ((beL (m + 1) 8 ++ r) :: (nums (m + 1) R ++ rest)) = _
    have ih := goV_over R (m + 1) l acc rest (fun x hx => h x (List.mem_cons_of_mem _ hx)) (by omega) (by omega) h2
    rw [goV_cons]
    rw [if_neg (by omega), ht.1, hn, if_pos (by omega), ih]
end Go.Proofs.YtinmmhbiomcdoaaGreatDoor

/-
  A vault on lists (layer 22): what stays behind its calls: a disk that stands well, and bytes. No Go function is spoken of.
-/
namespace Go.Proofs.YtinmmhbiomcdoaaGreatDoor
open Go.RowKit

theorem opV_ok {D : DkV} {T : Nat} (h : D.Ok T) : (opV D).1.Ok (T + 1) := by
  have h1 := mdD_ok h 0
  unfold opV
  split
  · exact h.more (Nat.le_succ T)
  split
  · exact h1
  · exact h1
theorem opV_by {D : DkV} (h : D.By) : (opV D).1.By := by
  have h1 := mdD_by h 0
  unfold opV
  split
  · exact h
  split
  · exact h1
  · exact h1
theorem vnext_by (v : VtV) {x : List Int} (h : ∀ y ∈ x, isByte y) : ∀ y ∈ v.next x, isByte y := by
  intro y hy
  rcases List.mem_append.1 hy with h1 | h1
  · exact beL_range _ _ y h1
  · exact h y h1
theorem vsnap_by (v : VtV) {x : List Int} (h : ∀ y ∈ x, isByte y) : ∀ y ∈ v.snap x, isByte y := by
  intro y hy
  rcases List.mem_append.1 hy with h1 | h1
  · exact beL_range _ _ y h1
  · exact h y h1
theorem vnext_len (v : VtV) (x : List Int) : (v.next x).length = 8 + x.length := by unfold VtV.next; rw [List.length_append, beL_len]
theorem vsnap_len (v : VtV) (x : List Int) : (v.snap x).length = 8 + x.length := by unfold VtV.snap; rw [List.length_append, beL_len]
theorem ptV_ok {D : DkV} {T : Nat} (h : D.Ok T) (v : VtV) (x : List Int) : (ptV D v x).1.Ok (T + 1) := by
  have h1 := prD_ok h 0 (v.next x)
  unfold ptV
  split
  · exact h.more (Nat.le_succ T)
  split
  · exact h1
  · exact h1
theorem ptV_by {D : DkV} (h : D.By) (v : VtV) {x : List Int} (hx : ∀ y ∈ x, isByte y) : (ptV D v x).1.By := by
  have h1 := prD_by h 0 (v.next x) (vnext_by v hx)
  unfold ptV
  split
  · exact h
  split
  · exact h1
  · exact h1
theorem coV_ok {D : DkV} {T : Nat} (h : D.Ok T) (v : VtV) (x : List Int) : (coV D v x).1.Ok (T + 3) := by
  have h1 := ptS_ok h v.s (v.snap x)
  have h2 := keD_ok h1 0 0
  unfold coV
  split
  · exact h.more (by omega)
  split
  · exact h1.more (by omega)
  · exact h2
theorem coV_by {D : DkV} (h : D.By) (v : VtV) {x : List Int} (hx : ∀ y ∈ x, isByte y) : (coV D v x).1.By := by
  have h1 := ptS_by h v.s (vsnap_by v hx)
  have h2 := keD_by h1 0 0
  unfold coV
  split
  · exact h
  split
  · exact h1
  · exact h2
end Go.Proofs.YtinmmhbiomcdoaaGreatDoor

/-
  A vault on lists, beside a disk (layer 22): what stands behind each call: the slots' own words, and what the snapshot is. No Go function is spoken of.
-/
namespace Go.Proofs.YtinmmhbiomcdoaaGreatDoor
open Go.RowKit

theorem be8_lim22 {xs : List Int} (hr : ∀ x ∈ xs, isByte x) (k : Nat) (hk : k ≤ 8) : 0 ≤ be (xs.take k) ∧ be (xs.take k) < 18446744073709551616 := by
  have h1 := be_fold (xs.take k) 0 (fun x hx => hr x (List.mem_of_mem_take hx)) (Int.le_refl 0)
  refine ⟨h1.1, Int.lt_of_lt_of_le h1.2 ?_⟩
  have hl : (xs.take k).length ≤ 8 := by rw [List.length_take]; omega
  rw [Int.zero_add, Int.one_mul]
  have : ∀ k, k ≤ 8 → (256 : Int) ^ k ≤ 18446744073709551616 := by decide
  exact this _ hl
/-- A vault that stands over the disk D. -/
structure VtOk (D : DkV) (v : VtV) : Prop where
  s : v.s.Ok
  ab : v.s.a = 1 ∧ v.s.b = 2
  c : Cur D v.s
  l : 0 ≤ v.last ∧ v.last < 18446744073709551616
  m : v.some = decide (0 < v.s.turn)
  b1 : 0 < v.s.turn → 8 ≤ v.s.body.length ∧ v.body = v.s.body.drop 8
  b0 : ¬ 0 < v.s.turn → v.body = []
  n : 9 * v.after.length ≤ (heldR D 0).length

theorem ke_held {D : DkV} {y z n : Int} (hy : 0 ≤ y ∧ y < 3) (h : y ≠ z) : heldR (keD D z n).1 y = heldR D y := by
  unfold keD
  split
  · rw [sy_held hy, ct_held hy h]
  · exact ct_held hy h
theorem md_held {D : DkV} {y z : Int} (hy : 0 ≤ y ∧ y < 3) (h : y ≠ z) : heldR (mdD D z).1 y = heldR D y := by
  unfold mdD
  split
  · exact ke_held hy h
  split
  · exact sy_held hy
  · rfl
theorem Cur.roll {D D' : DkV} {s : SlV} (hc : Cur D s) (hs : s.Ok) (hab : s.a = 1 ∧ s.b = 2) (h : ∀ y, 0 ≤ y ∧ y < 3 → y ≠ 0 → heldR D' y = heldR D y) : Cur D' s := by
  refine hc.moved hs (fun y hy hn => h y hy ?_)
  have := hs.n
  omega
theorem goV_range : ∀ (L : List (List Int)) (l : Int) (acc : List (List Int)), 0 ≤ l ∧ l < 18446744073709551616 → (∀ b ∈ L, ∀ y ∈ b, isByte y) → 0 ≤ (goV l acc L).2.1 ∧ (goV l acc L).2.1 < 18446744073709551616
  | [], _, _, h, _ => h
  | b :: r, l, acc, h, hb => by
    have hr := fun l acc h => goV_range r l acc h (fun x hx => hb x (List.mem_cons_of_mem _ hx))
    have h8 := be8_lim22 (hb b (List.mem_cons_self ..)) 8 (Nat.le_refl _)
    rw [goV_cons]
    split
    · exact h
    split
    · exact hr _ _ h
    split
    · exact h
    · exact hr _ _ h8
theorem goV_len : ∀ (L : List (List Int)) (l : Int) (acc : List (List Int)), (goV l acc L).2.2.length ≤ acc.length + L.length
  | [], _, _ => Nat.le_refl _
  | b :: r, l, acc => by
    have h1 := goV_len r l acc
    have h2 := goV_len r (be (b.take 8)) (acc ++ [b.drop 8])
    rw [List.length_append, List.length_singleton] at h2
    rw [goV_cons, List.length_cons]
    split
    · show acc.length ≤ _; omega
    split
    · omega
    split
    · show acc.length ≤ _; omega
    · omega
theorem sy_len0 (D : DkV) : (heldR (syD D 0).1 0).length = (heldR D 0).length := by rw [sy_held (by decide)]
theorem ap_len0 (D : DkV) (b : List Int) : (heldR D 0).length ≤ (heldR (apD D 0 b).1 0).length := by
  rcases ap_held (D := D) (y := 0) (z := 0) (by decide) b with h | ⟨_, h⟩
  · rw [h]; exact Nat.le_refl _
  · rw [h, List.length_append]; omega
theorem pr_len0 (D : DkV) (b : List Int) : (heldR D 0).length ≤ (heldR (prD D 0 b).1 0).length := by
  unfold prD
  split
  · exact Nat.le_refl _
  split
  · rw [sy_len0]; exact ap_len0 D _
  · exact ap_len0 D _
theorem pt_len0 {D : DkV} {s : SlV} {x : List Int} (hs : s.to ≠ 0) : heldR (ptS D s x).1 0 = heldR D 0 := by
  have h1 : heldR (clS D s.to).1 0 = heldR D 0 := cl_held (by decide) (fun e => hs e.symm)
  have h2 : ∀ b, heldR (prD (clS D s.to).1 s.to b).1 0 = heldR D 0 := fun b => (pr_held (by decide) (fun e => hs e.symm) b).trans h1
  unfold ptS
  split
  · rfl
  split
  · exact h1
  split
  · exact h2 _
  · exact h2 _
theorem to_ne0 {s : SlV} (hab : s.a = 1 ∧ s.b = 2) : s.to ≠ 0 := by
  unfold SlV.to
  split
  · rw [hab.2]; decide
  · rw [hab.1]; decide
theorem pt_err_s {D : DkV} {s : SlV} {x : List Int} (h : (ptS D s x).2.2 ≠ 0) : (ptS D s x).2.1 = s := by
  unfold ptS at h ⊢
  split
  · rfl
  rename_i h0
  rw [if_neg h0] at h
  split
  · rfl
  rename_i h1
  rw [if_neg h1] at h
  split
  · rfl
  · rename_i h2
    rw [if_neg h2] at h
    exact absurd rfl h
theorem pt_ok_s {D : DkV} {s : SlV} {x : List Int} (h : (ptS D s x).2.2 = 0) : (ptS D s x).2.1 = ⟨s.a, s.b, s.to, s.turn + 1, x⟩ := by
  unfold ptS at h ⊢
  split
  · rename_i h0
    rw [if_pos h0] at h
    exact absurd (show (1 : Int) = 0 from h) (by decide)
  rename_i h0
  rw [if_neg h0] at h
  split
  · rename_i h1
    rw [if_pos h1] at h
    exact absurd h h1
  rename_i h1
  rw [if_neg h1] at h
  split
  · rename_i h2
    rw [if_pos h2] at h
    exact absurd h h2
  · rfl
theorem mk_vok {D : DkV} {s : SlV} {L : List (List Int)} {v : VtV} (h9 : 9 * L.length ≤ (heldR D 0).length) (hs : s.Ok) (hab : s.a = 1 ∧ s.b = 2) (hc : Cur D s) (hL : ∀ b ∈ L, ∀ y ∈ b, isByte y) (hb : ∀ y ∈ s.body, isByte y) (h : mkV s L = (v, 0)) : VtOk D v ∧ v.s = s := by
  unfold mkV at h
  split at h
  · rename_i ht
    split at h
    · injection h with _ h
      exact absurd h (by decide)
    · rename_i h8
      injection h with h1 h2
      subst h1
      exact ⟨⟨hs, hab, hc, goV_range L _ [] (be8_lim22 hb 8 (Nat.le_refl _)) hL, (decide_eq_true ht).symm, fun _ => ⟨by show 8 ≤ s.body.length; omega, rfl⟩, fun h => absurd ht h, by have := goV_len L (be (s.body.take 8)) []; show 9 * (goV (be (s.body.take 8)) [] L).2.2.length ≤ _; have h0 : ([] : List (List Int)).length = 0 := rfl; omega⟩, rfl⟩
  · rename_i ht
    injection h with h1 h2
    subst h1
    exact ⟨⟨hs, hab, hc, goV_range L 0 [] ⟨by decide, by decide⟩ hL, (decide_eq_false ht).symm, fun h => absurd h ht, fun _ => rfl, by have := goV_len L 0 []; show 9 * (goV 0 [] L).2.2.length ≤ _; have h0 : ([] : List (List Int)).length = 0 := rfl; omega⟩, rfl⟩
theorem op_ab22 (D : DkV) : (opS D 1 2).a = 1 ∧ (opS D 1 2).b = 2 := by
  unfold opS
  split
  · exact ⟨rfl, rfl⟩
  · split <;> exact ⟨rfl, rfl⟩
theorem op_vok {D D' : DkV} {v : VtV} (hD : D.By) (h : opV D = (D', v, 0)) : VtOk D' v ∧ D.down = false := by
  unfold opV at h
  split at h
  · injection h with _ h
    injection h with _ h
    exact absurd h (by decide)
  rename_i hd
  split at h
  · rename_i hm
    injection h with _ h
    injection h with _ h
    exact absurd h hm
  injection h with h1 h2
  injection h2 with h2 h3
  have hs := opS_ok hD (a := 1) (b := 2) (by decide) (by decide) (by decide)
  have hab := op_ab22 D
  refine ⟨(mk_vok (by rw [← h1, allF_len]; exact numF_le _) hs hab (op_cur.roll hs hab (fun y hy hn => by rw [← h1]; exact md_held hy hn)) (allF_range ?_) hs.bb (Prod.ext h2 h3)).1, by simpa using hd⟩
  exact ((mdD_by hD 0).f _).held
theorem pt_vok {D D' : DkV} {v v' : VtV} {x : List Int} {e : Int} (hv : VtOk D v) (h : ptV D v x = (D', v', e)) : VtOk D' v' := by
  unfold ptV at h
  split at h
  · injection h with h1 h
    injection h with h2 h3
    rw [← h1, ← h2]
    exact hv
  rename_i hA
  have hcu := hv.c.roll hv.s hv.ab (D' := (prD D 0 (v.next x)).1) (fun y hy hn => pr_held hy hn _)
  split at h
  · injection h with h1 h
    injection h with h2 h3
    rw [← h1, ← h2]
    exact ⟨hv.s, hv.ab, hcu, hv.l, hv.m, hv.b1, hv.b0, Nat.le_trans hv.n (pr_len0 D _)⟩
  · rename_i he0
    have he0 : (prD D 0 (v.next x)).2 = 0 := Decidable.not_not.1 he0
    have hlen := pr_held_ok (by decide) he0
    have hn := hv.n
    injection h with h1 h
    injection h with h2 h3
    rw [← h1, ← h2]
    exact ⟨hv.s, hv.ab, hcu, by have := hv.l; show 0 ≤ v.last + 1 ∧ v.last + 1 < _; omega, hv.m, hv.b1, hv.b0, by
      have hl2 : (heldR D 0 ++ frB (v.next x)).length = (heldR D 0).length + (8 + (8 + x.length)) := by rw [List.length_append, frB_len, vnext_len]
      have hl3 : (v.after ++ [x]).length = v.after.length + 1 := by rw [List.length_append, List.length_singleton]
      show 9 * (v.after ++ [x]).length ≤ _
      rw [hlen, hl2, hl3]
      omega⟩
theorem co_vok {D D' : DkV} {v v' : VtV} {x : List Int} {e : Int} (hv : VtOk D v) (hx : ∀ y ∈ x, isByte y) (h : coV D v x = (D', v', e)) : VtOk D' v' := by
  unfold coV at h
  split at h
  · injection h with h1 h
    injection h with h2 h3
    rw [← h1, ← h2]
    exact hv
  have hs := ptS_sl (D := D) hv.s (vsnap_by v hx)
  have hc := pt_cur hv.c hv.s (v.snap x)
  split at h
  · rename_i he
    have hse := pt_err_s he
    injection h with h1 h
    injection h with h2 h3
    rw [hse] at hc h2
    rw [← h1, ← h2]
    exact ⟨hv.s, hv.ab, hc, hv.l, hv.m, hv.b1, hv.b0, by rw [pt_len0 (to_ne0 hv.ab)]; exact hv.n⟩
  · rename_i he
    have he : (ptS D v.s (v.snap x)).2.2 = 0 := Decidable.not_not.1 he
    have hse := pt_ok_s he
    injection h with h1 h
    injection h with h2 h3
    rw [hse] at hc hs h2
    have hcu := hc.roll hs hv.ab (D' := (keD (ptS D v.s (v.snap x)).1 0 0).1) (fun y hy hn => ke_held hy hn)
    have htp : 0 < v.s.turn + 1 := by have := hv.s.t; omega
    have hd : (v.snap x).drop 8 = x := (take8 v.last x).2
    rw [← h1, ← h2]
    exact ⟨hs, hv.ab, hcu, hv.l, (decide_eq_true htp).symm, fun _ => ⟨by show 8 ≤ (v.snap x).length; rw [vsnap_len]; omega, hd.symm⟩, fun h => absurd htp h, Nat.zero_le _⟩
theorem VtOk.few {D : DkV} {v : VtV} {T : Nat} (h : VtOk D v) (hO : D.Ok T) : v.after.length ≤ 100000 := by
  have h1 := h.n
  have h2 : (heldR D 0).length ≤ 65536 := Nat.le_trans (FlV.held_le _) (hO.f _).need
  omega
theorem VtOk.arm {D : DkV} {v : VtV} (h : VtOk D v) (n : Int) : VtOk (armD D n) v := ⟨h.s, h.ab, arm_cur h.c n, h.l, h.m, h.b1, h.b0, h.n⟩
end Go.Proofs.YtinmmhbiomcdoaaGreatDoor

/-
  The document's disk in memory (layer 18): its steps, files and a disk as values; R: the blocks that they lie in. No Go function is spoken of. No conditions.
-/
namespace Go.Proofs.YtinmmhbiomcdoaaGreatDoor
open Go.RowKit

def stC (s : StV) (a : Option Addr) (c : Nat) : List Value := match s with
  | .put xs => [.bool false, .int .i64 0, .slice a xs.length c]
  | .cut n => [.bool true, .int .i64 (n : Int), .slice none 0 0]
/-- A slice in R. -/
def InR (R : Nat → Prop) (a : Option Addr) (n : Nat) : Prop := ∀ x, a = some x → 0 < n → R x.block
def RStep (R : Nat → Prop) (w : World) (vals : List Value) (s : StV) : Prop := ∃ a c, vals = stC s a c ∧ (match s with | .put xs => Ints .u8 w a xs.length c xs ∧ InR R a xs.length | .cut _ => True)
def RSteps (R : Nat → Prop) (w : World) (a : Option Addr) (c : Nat) (S : List StV) : Prop :=
  S.length ≤ c ∧ (S.length = 0 ∨ ∃ b off, a = some ⟨b, off, none⟩ ∧ R b ∧ ∀ (i : Nat) (s : StV), S[i]? = some s → ∃ vals, w.rangeAt b (off + i * 3) vals ∧ RStep R w vals s)
def rfC (ka : Option Addr) (kn kc : Nat) (sa : Option Addr) (sn sc : Nat) : List Value := [.slice ka kn kc, .slice sa sn sc]
def RFile (R : Nat → Prop) (w : World) (cs : List Value) (v : FlV) : Prop :=
  ∃ ka kc sa sc, cs = rfC ka v.K.length kc sa v.S.length sc ∧ Ints .u8 w ka v.K.length kc v.K ∧ InR R ka v.K.length ∧ RSteps R w sa sc v.S
def ddC (c0 c1 c2 : List Value) (D : DkV) : List Value := c0 ++ (c1 ++ (c2 ++ [.int .i64 D.room, .int .i64 D.fuse, .bool D.down]))
def RDisk (R : Nat → Prop) (w : World) (cs : List Value) (D : DkV) : Prop := ∃ c0 c1 c2, cs = ddC c0 c1 c2 D ∧ RFile R w c0 D.f0 ∧ RFile R w c1 D.f1 ∧ RFile R w c2 D.f2

/-! ### What stays -/
theorem ints_inR {R : Nat → Prop} {k : IntKind} {w w' : World} {a : Option Addr} {n c : Nat} {xs : List Int} (h : Ints k w a n c xs) (hr : InR R a n) (hk : ∀ b, R b → b < w.heap.size → w'.heap[b]? = w.heap[b]?) : Ints k w' a n c xs := by
  refine ⟨h.1, h.2.1, ?_⟩
  rcases h.2.2 with h0 | ⟨b, off, ha, hc⟩
  · exact .inl h0
  · by_cases hn : n = 0
    · exact .inl hn
    · refine .inr ⟨b, off, ha, fun i hi => ?_⟩
      have h1 := hc i hi
      have h2 := hk b (hr _ ha (by omega)) (World.block_lt_of_cell? w _ h1)
      unfold World.cell? at h1 ⊢
      rw [h2]
      exact h1
theorem RStep.same {R R' : Nat → Prop} {w w' : World} {vals : List Value} {s : StV} (h : RStep R w vals s) (hk : ∀ b, R b → b < w.heap.size → w'.heap[b]? = w.heap[b]?) (hr : ∀ b, R b → R' b) : RStep R' w' vals s := by
  obtain ⟨a, c, hv, hs⟩ := h
  refine ⟨a, c, hv, ?_⟩
  cases s with
  | put xs => exact ⟨ints_inR hs.1 hs.2 hk, fun x hx hn => hr _ (hs.2 x hx hn)⟩
  | cut n => trivial
theorem RSteps.same {R R' : Nat → Prop} {w w' : World} {a : Option Addr} {c : Nat} {S : List StV} (h : RSteps R w a c S) (hk : ∀ b, R b → b < w.heap.size → w'.heap[b]? = w.heap[b]?) (hr : ∀ b, R b → R' b) : RSteps R' w' a c S := by
  refine ⟨h.1, ?_⟩
  rcases h.2 with h0 | ⟨b, off, ha, hb, hc⟩
  · exact .inl h0
  · refine .inr ⟨b, off, ha, hr b hb, fun i s hs => ?_⟩
    obtain ⟨vals, h1, h2⟩ := hc i s hs
    refine ⟨vals, fun j v hj => ?_, h2.same hk hr⟩
    have h3 := h1 j v hj
    have h4 := hk b hb (World.block_lt_of_cell? w _ h3)
    unfold World.cell? at h3 ⊢
    rw [h4]
    exact h3
theorem RFile.same {R R' : Nat → Prop} {w w' : World} {cs : List Value} {v : FlV} (h : RFile R w cs v) (hk : ∀ b, R b → b < w.heap.size → w'.heap[b]? = w.heap[b]?) (hr : ∀ b, R b → R' b) : RFile R' w' cs v := by
  obtain ⟨ka, kc, sa, sc, hc, h1, h2, h3⟩ := h
  exact ⟨ka, kc, sa, sc, hc, ints_inR h1 h2 hk, fun x hx hn => hr _ (h2 x hx hn), h3.same hk hr⟩
theorem RDisk.same {R R' : Nat → Prop} {w w' : World} {cs : List Value} {D : DkV} (h : RDisk R w cs D) (hk : ∀ b, R b → b < w.heap.size → w'.heap[b]? = w.heap[b]?) (hr : ∀ b, R b → R' b) : RDisk R' w' cs D := by
  obtain ⟨c0, c1, c2, hc, h0, h1, h2⟩ := h
  exact ⟨c0, c1, c2, hc, h0.same hk hr, h1.same hk hr, h2.same hk hr⟩
theorem RSteps.keep {R : Nat → Prop} {w w' : World} {a : Option Addr} {c : Nat} {S : List StV} (h : RSteps R w a c S) (hb : Below w.heap.size w w') : RSteps R w' a c S := h.same (fun b _ hl => hb.block b hl) (fun _ h => h)
theorem RFile.keep {R : Nat → Prop} {w w' : World} {cs : List Value} {v : FlV} (h : RFile R w cs v) (hb : Below w.heap.size w w') : RFile R w' cs v := h.same (fun b _ hl => hb.block b hl) (fun _ h => h)
theorem RDisk.keep {R : Nat → Prop} {w w' : World} {cs : List Value} {D : DkV} (h : RDisk R w cs D) (hb : Below w.heap.size w w') : RDisk R w' cs D := h.same (fun b _ hl => hb.block b hl) (fun _ h => h)
theorem RDisk.wide {R R' : Nat → Prop} {w : World} {cs : List Value} {D : DkV} (h : RDisk R w cs D) (hr : ∀ b, R b → R' b) : RDisk R' w cs D := h.same (fun _ _ _ => rfl) hr
theorem RFile.wide {R R' : Nat → Prop} {w : World} {cs : List Value} {v : FlV} (h : RFile R w cs v) (hr : ∀ b, R b → R' b) : RFile R' w cs v := h.same (fun _ _ _ => rfl) hr
theorem RSteps.get {R : Nat → Prop} {w : World} {a : Option Addr} {c : Nat} {S : List StV} (h : RSteps R w a c S) (j : Nat) (hj : j < S.length) : ∃ b off s A C, a = some ⟨b, off, none⟩ ∧ S[j]? = some s ∧ w.rangeAt b (off + j * 3) (stC s A C) ∧ RStep R w (stC s A C) s := by
  rcases h.2 with h0 | ⟨b, off, ha, hb, hc⟩
  · omega
  · obtain ⟨vals, h1, h2⟩ := hc j _ (List.getElem?_eq_getElem hj)
    obtain ⟨A, C, hv, h3⟩ := h2
    subst hv
    exact ⟨b, off, _, A, C, ha, List.getElem?_eq_getElem hj, h1, A, C, rfl, h3⟩
theorem RSteps.take {R : Nat → Prop} {w : World} {a : Option Addr} {c : Nat} {S : List StV} (h : RSteps R w a c S) (j : Nat) : RSteps R w a c (S.take j) := by
  have hl : (S.take j).length ≤ S.length := by rw [List.length_take]; omega
  refine ⟨Nat.le_trans hl h.1, ?_⟩
  rcases h.2 with h0 | ⟨b, off, ha, hb, hc⟩
  · exact .inl (by omega)
  · refine .inr ⟨b, off, ha, hb, fun i s hs => hc i s ?_⟩
    have hi := (List.getElem?_eq_some_iff.1 hs).1
    rw [List.length_take] at hi
    rw [List.getElem?_take_of_lt (by omega)] at hs
    exact hs
theorem RSteps.empty {R : Nat → Prop} {w : World} (a : Option Addr) (c : Nat) : RSteps R w a c [] := ⟨Nat.zero_le _, .inl rfl⟩
/-- A block known whole is none that holds a row of other elements. -/
theorem ne_row {w : World} {B : Nat} {e t : TypeId} {size : Nat} {v : Value} {n : Nat} {vs cs : List Value} {g : Nat} (h : w.ownsRow B e size v n vs) (hk : Blk w g t cs) (ht : t ≠ e) : some g ≠ v.ownBlock := by
  intro hg
  rcases h.2 with ⟨rfl, _⟩ | ⟨g', cap, cur, rfl, _, hb, _⟩
  · cases hg
  · injection hg with hg
    have hg' : g = g' := hg
    subst hg'
    unfold Blk at hk
    rw [hk] at hb
    injection hb with hb
    injection hb with _ hb
    exact ht hb
theorem own_stay9x {w w' : World} {b : Nat} {e : TypeId} {v : Value} {n : Nat} {xs : List Value} (h : w.ownsRow b e 1 v n xs) (hb : Below w.heap.size w w') : w'.ownsRow b e 1 v n xs := own_same h (fun q hq => hb.block q (h.lt q hq).2)
theorem rowRf : IsRow Tryz.prog 37 2 := by
  refine ⟨?_, by kernel_rfl⟩
  have h : (Tryz.prog.underlying 37).map (·.isRow) = some true := by kernel_rfl
  cases hq : Tryz.prog.underlying 37 with
  | none => simp [hq] at h
  | some d => rw [hq] at h; simp at h; exact ⟨d, rfl, h⟩
theorem rowRs : IsRow Tryz.prog 124 3 := by
  refine ⟨?_, by kernel_rfl⟩
  have h : (Tryz.prog.underlying 124).map (·.isRow) = some true := by kernel_rfl
  cases hq : Tryz.prog.underlying 124 with
  | none => simp [hq] at h
  | some d => rw [hq] at h; simp at h; exact ⟨d, rfl, h⟩
theorem rowDd : IsRow Tryz.prog 40 9 := by
  refine ⟨?_, by kernel_rfl⟩
  have h : (Tryz.prog.underlying 40).map (·.isRow) = some true := by kernel_rfl
  cases hq : Tryz.prog.underlying 40 with
  | none => simp [hq] at h
  | some d => rw [hq] at h; simp at h; exact ⟨d, rfl, h⟩
theorem stC_len (s : StV) (a : Option Addr) (c : Nat) : (stC s a c).length = 3 := by cases s <;> rfl
theorem stC_one (s : StV) (a : Option Addr) (c : Nat) : ∀ u ∈ stC s a c, u.oneCell' = true := by
  intro u hu
  cases s with
  | put xs =>
    simp only [stC, List.mem_cons, List.not_mem_nil, or_false] at hu
    rcases hu with rfl | rfl | rfl <;> rfl
  | cut n =>
    simp only [stC, List.mem_cons, List.not_mem_nil, or_false] at hu
    rcases hu with rfl | rfl | rfl <;> rfl

set_option maxRecDepth 100000 in
set_option maxHeartbeats 1000000 in
theorem fUnits_any {R : Nat → Prop} {w : World} {cs : List Value} {v : FlV} (h : RFile R w cs v) (hU : (unitsL v.S : Int) < 4611686018427387904) (hN : v.S.length < 4611686018427387904) :
    Calls Tryz.prog 52 #[.agg cs.toArray] w fun q w' => q = .returned (.int .i64 (unitsL v.S : Nat)) ∧ Below w.heap.size w w' := by
  obtain ⟨ka, kc, sa, sc, hcs, _, _, hS⟩ := h
  have hb1 := Blk.new w 37 cs
  have hB1 := below1 w (.cells cs.toArray 37)
  obtain ⟨W, hW⟩ : ∃ W, w.alloc (.cells cs.toArray 37) = W := ⟨_, rfl⟩
  rw [hW] at hb1 hB1
  obtain ⟨G, hG⟩ : ∃ G, w.heap.size = G := ⟨_, rfl⟩
  rw [hG] at hb1
  have e1 := hb1.cell 1
  rw [hcs] at e1
  have e1' : W.cell? ⟨G, 1, none⟩ = some (.slice sa v.S.length sc) := e1
  have hSW := hS.keep hB1
  obtain ⟨N, hNN⟩ : ∃ N, v.S.length = N := ⟨_, rfl⟩
  rw [hNN] at e1' hN
  have hNH := Lib.hid hNN
  have hGH := Lib.hid hG
  have hUH := Lib.hid hU
  clear e1 hcs hNN hb1 hU
  go_enter Tryz.func52, Tryz.ntmps52
  go_wp2_with ((with_reducible refine box_row rfl 37 (.tmp 0) rfl cs rfl ?_); refine RowKit.Hid.out ?_)
  refine Lib.hid ?_
  (try rw [hW])
  (try rw [hG])
  clear hW hG
  go_wp2_with fail
  go_loopw [3, 4] (fun n i wr => ∃ j : Nat, j ≤ N ∧ i = .int .i64 j ∧ n = .int .i64 ((unitsL (v.S.take j) : Nat) : Int) ∧ wr = W) (fun _ i _ => N - (intOf i).toNat)
  case atStart => exact ⟨0, Nat.zero_le _, rfl, rfl, rfl⟩
  case round =>
    obtain ⟨j, hj, rfl, rfl, hwr⟩ := hrel
    subst hwr
    by_cases hlt : j < N
    · have hji : (j : Int) < (N : Int) := by omega
      obtain ⟨b, off, s, A, C, rfl, hSj, hr, _⟩ := hSW.get j (by rw [hNH.out]; exact hlt)
      have hun := unitsL_take v.S j s hSj
      have hul := unitsL_take_le v.S (j + 1)
      have d0 := hr 0
      have d2 := hr 2
      obtain ⟨U, hU⟩ : ∃ U, unitsL (v.S.take j) = U := ⟨_, rfl⟩
      rw [hU] at hun ⊢
      have hunH := Lib.hid hun
      have hltH := Lib.hid hlt
      have hwj : wrap64 ((j : Int) + 1) = (j : Int) + 1 := by unfold wrap64; omega
      cases s with
      | put xs =>
        have d0' : wr.cell? ⟨b, off + j * 3, none⟩ = some (.bool false) := d0 _ rfl
        have d2' : wr.cell? ⟨b, off + j * 3 + 2, none⟩ = some (.slice A xs.length C) := d2 _ rfl
        have hwu : wrap64 ((U : Int) + (xs.length : Int)) = (U : Int) + (xs.length : Int) := by
          have := hUH.out
          have h9 : (StV.put xs).units = xs.length := rfl
          unfold wrap64; omega
        clear hr d0 d2 hun hul hU hlt hj hSj
        go_wp2
        exact ⟨⟨j + 1, by have := hltH.out; omega, by congr 1, by have := hunH.out; rw [this, hwu]; rfl, by trivial⟩, by simp only [intOf]; have := hltH.out; omega⟩
      | cut k =>
        have d0' : wr.cell? ⟨b, off + j * 3, none⟩ = some (.bool true) := d0 _ rfl
        have hwu : wrap64 ((U : Int) + 1) = (U : Int) + 1 := by
          have := hUH.out
          have h9 : (StV.cut k).units = 1 := rfl
          unfold wrap64; omega
        clear hr d0 d2 hun hul hU hlt hj hSj
        go_wp2
        exact ⟨⟨j + 1, by have := hltH.out; omega, by congr 1, by have := hunH.out; rw [this, hwu]; rfl, by trivial⟩, by simp only [intOf]; have := hltH.out; omega⟩
    · obtain rfl : j = N := by omega
      have hji : ¬ (j : Int) < (j : Int) := by omega
      rw [List.take_of_length_le (by rw [hNH.out]; exact Nat.le_refl _)]
      clear hlt hj
      go_wp2
      go_ret
      exact ⟨rfl, hB1⟩
end Go.Proofs.YtinmmhbiomcdoaaGreatDoor

/-
  A slice of slices of bytes, all of it on blocks of R. No Go function is spoken of. (Cut out of the document's vault in memory.)
-/
namespace Go.Proofs.YtinmmhbiomcdoaaGreatDoor
open Go.RowKit

/-! ### Records -/
/-- A slice of slices of bytes, all of it on blocks of R. -/
def PartsR (R : Nat → Prop) (w : World) (a : Option Addr) (n c : Nat) (ps : List (List Int)) : Prop :=
  ps.length = n ∧ n ≤ c ∧ (n = 0 ∨ ∃ b off, a = some ⟨b, off, none⟩ ∧ R b ∧ ∀ i, i < n → ∃ A m k, w.cell? ⟨b, off + i, none⟩ = some (.slice A m k) ∧ Ints .u8 w A m k (ps.getD i []) ∧ InR R A m)
theorem PartsR.parts {R : Nat → Prop} {w : World} {a : Option Addr} {n c : Nat} {ps : List (List Int)} (h : PartsR R w a n c ps) : Parts w a n c ps := by
  refine ⟨h.1, h.2.1, ?_⟩
  rcases h.2.2 with h0 | ⟨b, off, ha, _, hc⟩
  · exact .inl h0
  · exact .inr ⟨b, off, ha, fun i hi => by obtain ⟨A, m, k, h1, h2, _⟩ := hc i hi; exact ⟨A, m, k, h1, h2⟩⟩
theorem PartsR.same {R R' : Nat → Prop} {w w' : World} {a : Option Addr} {n c : Nat} {ps : List (List Int)} (h : PartsR R w a n c ps) (hk : ∀ b, R b → b < w.heap.size → w'.heap[b]? = w.heap[b]?) (hr : ∀ b, R b → R' b) : PartsR R' w' a n c ps := by
  refine ⟨h.1, h.2.1, ?_⟩
  rcases h.2.2 with h0 | ⟨b, off, ha, hb, hc⟩
  · exact .inl h0
  · refine .inr ⟨b, off, ha, hr b hb, fun i hi => ?_⟩
    obtain ⟨A, m, k, h1, h2, h3⟩ := hc i hi
    have hl := hk b hb (World.block_lt_of_cell? w _ h1)
    refine ⟨A, m, k, ?_, ints_inR h2 h3 hk, fun y hy h0 => hr _ (h3 y hy h0)⟩
    unfold World.cell? at h1 ⊢
    rw [hl]
    exact h1
theorem partsR_nil (R : Nat → Prop) (w : World) (c : Nat) : PartsR R w none 0 c [] := ⟨rfl, Nat.zero_le _, .inl rfl⟩
end Go.Proofs.YtinmmhbiomcdoaaGreatDoor

/-
  Three files of a disk of lists, by the fuse: file 0 (a roll's) and two more (slots'); append and sync, cut and sync, Put of slots, a crash. No Go function is spoken of.
-/
namespace Go.Proofs.YtinmmhbiomcdoaaGreatDoor
open Go.RowKit

/-- File 0 holds w, file z (1 or 2) v, the other one u. -/
def k3 (z r f : Int) (d : Bool) (w v u : FlV) : DkV := if z = 1 then ⟨r, f, d, w, v, u⟩ else ⟨r, f, d, w, u, v⟩
section
variable {z r f : Int} {d : Bool} {w v u : FlV}
theorem k3_swap (hz : z = 1 ∨ z = 2) : k3 z r f d w v u = k3 (3 - z) r f d w u v := by
  unfold k3
  rcases hz with rfl | rfl
  · rw [if_pos rfl, if_neg (by decide)]
  · rw [if_neg (by decide), if_pos (by decide)]
theorem k3_f0 : (k3 z r f d w v u).f 0 = w := by
  unfold k3
  split <;> rfl
theorem k3_fz (hz : z = 1 ∨ z = 2) : (k3 z r f d w v u).f z.toNat = v := by
  unfold k3
  rcases hz with rfl | rfl
  · rfl
  · rfl
theorem k3_held0 : heldR (k3 z r f d w v u) 0 = w.held := by
  show ((k3 z r f d w v u).f 0).held = _
  rw [k3_f0]
theorem k3_heldz (hz : z = 1 ∨ z = 2) : heldR (k3 z r f d w v u) z = v.held := by
  unfold heldR
  rw [k3_fz hz]
theorem k3_head : (k3 z r f d w v u).room = r ∧ (k3 z r f d w v u).fuse = f ∧ (k3 z r f d w v u).down = d := by
  unfold k3
  split <;> exact ⟨rfl, rfl, rfl⟩
theorem k3_set0 (x : FlV) : (k3 z r f d w v u).set 0 x = k3 z r f d x v u := by
  unfold k3
  split <;> rfl
theorem k3_setz (hz : z = 1 ∨ z = 2) (x : FlV) : (k3 z r f d w v u).set z.toNat x = k3 z r f d w x u := by
  unfold k3
  rcases hz with rfl | rfl
  · rfl
  · rfl
theorem k3_used : (k3 z r f d w v u).used = w.need + v.need + u.need := by
  unfold k3
  split
  · rfl
  · show w.need + u.need + v.need = _
    omega
theorem k3_burn : (k3 z r f d w v u).burn = if f = 0 then k3 z r f d w v u else k3 z r (f - 1) (decide (f - 1 = 0)) w v u := by
  unfold DkV.burn
  rw [k3_head.2.1]
  split
  · rfl
  · unfold k3
    split <;> rfl
theorem k3_ans : (k3 z r f d w v u).ans = if d = true then 18 else 0 := by
  unfold DkV.ans
  rw [k3_head.2.2]
theorem k3_arm (n : Int) : armD (k3 z r f d w v u) n = k3 z r (max n 0) d w v u := by
  unfold armD k3
  split <;> rfl
theorem k3_cr (us : List Int) : ∃ a b c, crD (k3 z r f d w v u) us = k3 z r 0 false (w.settle a) (v.settle b) (u.settle c) := by
  unfold crD k3
  split
  · exact ⟨_, _, _, rfl⟩
  · exact ⟨_, _, _, rfl⟩
theorem k3_ok {T : Nat} (hr : 1 ≤ r ∧ r ≤ 65536) (hf : 0 ≤ f ∧ f < 9223372036854775808) (hw : w.Ok T) (hv : v.Ok T) (hu : u.Ok T) (hn : ((w.need + v.need + u.need : Nat) : Int) ≤ r) : (k3 z r f d w v u).Ok T := by
  unfold k3
  split
  · exact ⟨hr, hf, hn, hw, hv, hu⟩
  · exact ⟨hr, hf, by show ((w.need + u.need + v.need : Nat) : Int) ≤ r; omega, hw, hu, hv⟩
theorem k3_by (hw : w.By) (hv : v.By) (hu : u.By) : (k3 z r f d w v u).By := by
  unfold k3
  split
  · exact ⟨hw, hv, hu⟩
  · exact ⟨hw, hu, hv⟩
theorem k3_slots (hz : z = 1 ∨ z = 2) : opS (k3 z r f d w v u) 1 2 = opS (kz z r f d v u) 1 2 := by
  rcases hz with rfl | rfl
  · rfl
  · rfl
theorem noFile_0 : ¬ noFile 0 := by unfold noFile; omega
/-- The three calls of file y (0, or z): what they come to by the fuse, if the file is set so. -/
theorem at_ap {y : Int} {x : FlV} {D D' : DkV} {b : List Int} (hy : ¬ noFile y) (hx : D.f y.toNat = x) (hd : D.down = false) (hs : D.set y.toNat (x.step (.put b)) = D') (hr : (D'.used : Int) ≤ D.room) : apD D y b = (D'.burn, D'.burn.ans) := by
  unfold apD
  rw [if_neg hy, if_neg (by rw [hd]; decide), hx, hs, if_neg (by omega)]
theorem at_ct {y : Int} {x : FlV} {D D' : DkV} {n : Nat} (hy : ¬ noFile y) (hx : D.f y.toNat = x) (hd : D.down = false) (hs : D.set y.toNat (x.step (.cut n)) = D') (hn : n ≤ x.held.length) : ctD D y (n : Int) = (D'.burn, D'.burn.ans) := by
  unfold ctD
  rw [hx, if_neg (by unfold noFile at hy ⊢; omega), if_neg (by rw [hd]; decide), Int.toNat_natCast, hs]
theorem at_sy {y : Int} {x : FlV} {D : DkV} (hy : ¬ noFile y) (hx : D.f y.toNat = x) (hd : D.down = false) : syD D y = if D.burn.down = true then (D.burn, 18) else (D.burn.set y.toNat ⟨x.held, []⟩, 0) := by
  unfold syD
  rw [if_neg hy, if_neg (by rw [hd]; decide), hx]
theorem k3_burn3 (h : 0 ≤ f) : (f = 0 ∧ (k3 z r f false w v u).burn = k3 z r 0 false w v u) ∨ (f = 1 ∧ (k3 z r f false w v u).burn = k3 z r 0 true w v u) ∨ (1 < f ∧ (k3 z r f false w v u).burn = k3 z r (f - 1) false w v u) := by
  rw [k3_burn]
  by_cases h0 : f = 0
  · exact .inl ⟨h0, by rw [if_pos h0, h0]⟩
  · rw [if_neg h0]
    by_cases h1 : f = 1
    · exact .inr (.inl ⟨h1, by rw [h1]; rfl⟩)
    · exact .inr (.inr ⟨by omega, by rw [show decide (f - 1 = 0) = false from decide_eq_false (by omega)]⟩)
end
section
variable {z r f : Int} {w v u : FlV}
/-- File 0 is cut, and synced. -/
theorem ke0 {K : List Int} (hf : 0 ≤ f) (n : Nat) (hn : n ≤ K.length) :
    (∃ f', 0 ≤ f' ∧ f' ≤ f ∧ (f = 0 → f' = 0) ∧ keD (k3 z r f false ⟨K, []⟩ v u) 0 (n : Int) = (k3 z r f' false ⟨K.take n, []⟩ v u, 0)) ∨ (0 < f ∧ keD (k3 z r f false ⟨K, []⟩ v u) 0 (n : Int) = (k3 z r 0 true ⟨K, [.cut n]⟩ v u, 18)) := by
  have hst : ((⟨K, []⟩ : FlV).step (.cut n)) = ⟨K, [.cut n]⟩ := rfl
  have hh : (⟨K, [.cut n]⟩ : FlV).held = K.take n := by show (StV.cut n).all K = _; rw [StV.all_cut]
  have hc := at_ct (D := k3 z r f false ⟨K, []⟩ v u) (n := n) noFile_0 k3_f0 k3_head.2.2 (k3_set0 _) hn
  rw [hst] at hc
  have sy : ∀ g, 0 ≤ g → (∃ f', 0 ≤ f' ∧ f' ≤ g ∧ (g = 0 → f' = 0) ∧ syD (k3 z r g false ⟨K, [.cut n]⟩ v u) 0 = (k3 z r f' false ⟨K.take n, []⟩ v u, 0)) ∨ (0 < g ∧ syD (k3 z r g false ⟨K, [.cut n]⟩ v u) 0 = (k3 z r 0 true ⟨K, [.cut n]⟩ v u, 18)) := by
    intro g hg
    rw [at_sy noFile_0 k3_f0 k3_head.2.2, hh]
    rcases k3_burn3 (z := z) (r := r) (w := ⟨K, [.cut n]⟩) (v := v) (u := u) hg with ⟨g0, e⟩ | ⟨g0, e⟩ | ⟨g0, e⟩
    · rw [e, k3_head.2.2, if_neg (by decide)]
      exact .inl ⟨0, by omega, by omega, fun _ => rfl, by rw [show (0 : Int).toNat = 0 from rfl, k3_set0]⟩
    · rw [e, k3_head.2.2, if_pos rfl]
      exact .inr ⟨by omega, rfl⟩
    · rw [e, k3_head.2.2, if_neg (by decide)]
      exact .inl ⟨g - 1, by omega, by omega, fun h => by omega, by rw [show (0 : Int).toNat = 0 from rfl, k3_set0]⟩
  unfold keD
  rw [hc]
  dsimp only
  rcases k3_burn3 (z := z) (r := r) (w := ⟨K, [.cut n]⟩) (v := v) (u := u) hf with ⟨g0, e⟩ | ⟨g0, e⟩ | ⟨g0, e⟩
  · rw [e, k3_ans, if_pos (by decide)]
    rcases sy 0 (by omega) with ⟨f', h1, h2, h3, h4⟩ | ⟨h1, _⟩
    · exact .inl ⟨f', h1, by omega, fun _ => h3 rfl, h4⟩
    · omega
  · rw [e, k3_ans, if_neg (by decide)]
    exact .inr ⟨by omega, rfl⟩
  · rw [e, k3_ans, if_pos (by decide)]
    rcases sy (f - 1) (by omega) with ⟨f', h1, h2, h3, h4⟩ | ⟨h1, h2⟩
    · exact .inl ⟨f', h1, by omega, fun h => by omega, h4⟩
    · exact .inr ⟨by omega, h2⟩
/-- A body is appended to file y (0, or z), and synced: by what the file is set to. -/
theorem pr_at {y : Int} {K b : List Int} {F : Int → Bool → FlV → DkV} (hy : ¬ noFile y) (hF : ∀ f d x, (F f d x).f y.toNat = x ∧ (F f d x).down = d ∧ (F f d x).room = r)
    (hset : ∀ f d x x', (F f d x).set y.toNat x' = F f d x') (hburn : ∀ f x, 0 ≤ f → (f = 0 ∧ (F f false x).burn = F 0 false x) ∨ (f = 1 ∧ (F f false x).burn = F 0 true x) ∨ (1 < f ∧ (F f false x).burn = F (f - 1) false x))
    (hf : 0 ≤ f) (h1 : 1 ≤ b.length) (h2 : b.length ≤ 65536) (hr : ∀ f d, ((F f d ⟨K, [.put (frB b)]⟩).used : Int) ≤ r) :
    (∃ f', 0 ≤ f' ∧ f' ≤ f ∧ (f = 0 → f' = 0) ∧ prD (F f false ⟨K, []⟩) y b = (F f' false ⟨K ++ frB b, []⟩, 0)) ∨ (0 < f ∧ prD (F f false ⟨K, []⟩) y b = (F 0 true ⟨K, [.put (frB b)]⟩, 18)) := by
  have hst : ((⟨K, []⟩ : FlV).step (.put (frB b))) = ⟨K, [.put (frB b)]⟩ := rfl
  have hh : (⟨K, [.put (frB b)]⟩ : FlV).held = K ++ frB b := flight_held _ _
  have hc := at_ap (D := F f false ⟨K, []⟩) (b := frB b) hy (hF _ _ _).1 (hF _ _ _).2.1 (hset _ _ _ _) (by rw [(hF _ _ _).2.2]; exact hr f false)
  rw [hst] at hc
  have ha : ∀ f d x, (F f d x).ans = if d = true then 18 else 0 := by
    intro f d x
    unfold DkV.ans
    rw [(hF _ _ _).2.1]
  have sy : ∀ g, 0 ≤ g → (∃ f', 0 ≤ f' ∧ f' ≤ g ∧ (g = 0 → f' = 0) ∧ syD (F g false ⟨K, [.put (frB b)]⟩) y = (F f' false ⟨K ++ frB b, []⟩, 0)) ∨ (0 < g ∧ syD (F g false ⟨K, [.put (frB b)]⟩) y = (F 0 true ⟨K, [.put (frB b)]⟩, 18)) := by
    intro g hg
    rw [at_sy hy (hF _ _ _).1 (hF _ _ _).2.1, hh]
    rcases hburn g ⟨K, [.put (frB b)]⟩ hg with ⟨g0, e⟩ | ⟨g0, e⟩ | ⟨g0, e⟩
    · rw [e, (hF _ _ _).2.1, if_neg (by decide)]
      exact .inl ⟨0, by omega, by omega, fun _ => rfl, by rw [hset]⟩
    · rw [e, (hF _ _ _).2.1, if_pos rfl]
      exact .inr ⟨by omega, rfl⟩
    · rw [e, (hF _ _ _).2.1, if_neg (by decide)]
      exact .inl ⟨g - 1, by omega, by omega, fun h => by omega, by rw [hset]⟩
  unfold prD
  rw [if_neg (by omega), hc]
  dsimp only
  rcases hburn f ⟨K, [.put (frB b)]⟩ hf with ⟨g0, e⟩ | ⟨g0, e⟩ | ⟨g0, e⟩
  · rw [e, ha, if_pos (by decide)]
    rcases sy 0 (by omega) with ⟨f', h1, h2, h3, h4⟩ | ⟨h1, _⟩
    · exact .inl ⟨f', h1, by omega, fun _ => h3 rfl, h4⟩
    · omega
  · rw [e, ha, if_neg (by decide)]
    exact .inr ⟨by omega, rfl⟩
  · rw [e, ha, if_pos (by decide)]
    rcases sy (f - 1) (by omega) with ⟨f', h1, h2, h3, h4⟩ | ⟨h1, h2⟩
    · exact .inl ⟨f', h1, by omega, fun h => by omega, h4⟩
    · exact .inr ⟨by omega, h2⟩
theorem pr0 {K b : List Int} (hf : 0 ≤ f) (h1 : 1 ≤ b.length) (h2 : b.length ≤ 65536) (hr : ((K.length + (8 + b.length) + v.need + u.need : Nat) : Int) ≤ r) :
    (∃ f', 0 ≤ f' ∧ f' ≤ f ∧ (f = 0 → f' = 0) ∧ prD (k3 z r f false ⟨K, []⟩ v u) 0 b = (k3 z r f' false ⟨K ++ frB b, []⟩ v u, 0)) ∨ (0 < f ∧ prD (k3 z r f false ⟨K, []⟩ v u) 0 b = (k3 z r 0 true ⟨K, [.put (frB b)]⟩ v u, 18)) :=
  pr_at (F := fun f d x => k3 z r f d x v u) noFile_0 (fun _ _ _ => ⟨k3_f0, k3_head.2.2, k3_head.1⟩) (fun _ _ _ _ => k3_set0 _) (fun _ _ h => k3_burn3 h) hf h1 h2 (fun _ _ => by rw [k3_used, flight_need, frB_len]; exact hr)
theorem prz {K b : List Int} (hz : z = 1 ∨ z = 2) (hf : 0 ≤ f) (h1 : 1 ≤ b.length) (h2 : b.length ≤ 65536) (hr : ((w.need + (K.length + (8 + b.length)) + u.need : Nat) : Int) ≤ r) :
    (∃ f', 0 ≤ f' ∧ f' ≤ f ∧ (f = 0 → f' = 0) ∧ prD (k3 z r f false w ⟨K, []⟩ u) z b = (k3 z r f' false w ⟨K ++ frB b, []⟩ u, 0)) ∨ (0 < f ∧ prD (k3 z r f false w ⟨K, []⟩ u) z b = (k3 z r 0 true w ⟨K, [.put (frB b)]⟩ u, 18)) :=
  pr_at (F := fun f d x => k3 z r f d w x u) (noFile_kz hz) (fun _ _ _ => ⟨k3_fz hz, k3_head.2.2, k3_head.1⟩) (fun _ _ _ _ => k3_setz hz _) (fun _ _ h => k3_burn3 h) hf h1 h2 (fun _ _ => by rw [k3_used, flight_need, frB_len]; exact hr)
/-- File z is cut to nothing, and synced, if it has anything. -/
theorem cl3 {K : List Int} (hz : z = 1 ∨ z = 2) (hf : 0 ≤ f) :
    (∃ f', 0 ≤ f' ∧ f' ≤ f ∧ (f = 0 → f' = 0) ∧ clS (k3 z r f false w ⟨K, []⟩ u) z = (k3 z r f' false w ⟨[], []⟩ u, 0)) ∨ (0 < f ∧ clS (k3 z r f false w ⟨K, []⟩ u) z = (k3 z r 0 true w ⟨K, [.cut 0]⟩ u, 18)) := by
  have hh : (⟨K, []⟩ : FlV).held = K := rfl
  have hun : (⟨K, []⟩ : FlV).units = 0 := rfl
  have hst : ((⟨K, []⟩ : FlV).step (.cut 0)) = ⟨K, [.cut 0]⟩ := rfl
  unfold clS
  rw [k3_heldz hz, k3_fz hz, hh, hun]
  by_cases h0 : 0 < K.length
  · rw [if_pos (.inl h0)]
    have hc := at_ct (D := k3 z r f false w ⟨K, []⟩ u) (n := 0) (noFile_kz hz) (k3_fz hz) k3_head.2.2 (k3_setz hz _) (Nat.zero_le _)
    rw [hst] at hc
    have hc : ctD (k3 z r f false w ⟨K, []⟩ u) z 0 = _ := hc
    have sy : ∀ g, 0 ≤ g → (∃ f', 0 ≤ f' ∧ f' ≤ g ∧ (g = 0 → f' = 0) ∧ syD (k3 z r g false w ⟨K, [.cut 0]⟩ u) z = (k3 z r f' false w ⟨[], []⟩ u, 0)) ∨ (0 < g ∧ syD (k3 z r g false w ⟨K, [.cut 0]⟩ u) z = (k3 z r 0 true w ⟨K, [.cut 0]⟩ u, 18)) := by
      intro g hg
      rw [at_sy (noFile_kz hz) (k3_fz hz) k3_head.2.2, cut_held]
      rcases k3_burn3 (z := z) (r := r) (w := w) (v := ⟨K, [.cut 0]⟩) (u := u) hg with ⟨g0, e⟩ | ⟨g0, e⟩ | ⟨g0, e⟩
      · rw [e, k3_head.2.2, if_neg (by decide)]
        exact .inl ⟨0, by omega, by omega, fun _ => rfl, by rw [k3_setz hz]⟩
      · rw [e, k3_head.2.2, if_pos rfl]
        exact .inr ⟨by omega, rfl⟩
      · rw [e, k3_head.2.2, if_neg (by decide)]
        exact .inl ⟨g - 1, by omega, by omega, fun h => by omega, by rw [k3_setz hz]⟩
    unfold keD
    rw [hc]
    dsimp only
    rcases k3_burn3 (z := z) (r := r) (w := w) (v := ⟨K, [.cut 0]⟩) (u := u) hf with ⟨g0, e⟩ | ⟨g0, e⟩ | ⟨g0, e⟩
    · rw [e, k3_ans, if_pos (by decide)]
      rcases sy 0 (by omega) with ⟨f', h1, h2, h3, h4⟩ | ⟨h1, _⟩
      · exact .inl ⟨f', h1, by omega, fun _ => h3 rfl, h4⟩
      · omega
    · rw [e, k3_ans, if_neg (by decide)]
      exact .inr ⟨by omega, rfl⟩
    · rw [e, k3_ans, if_pos (by decide)]
      rcases sy (f - 1) (by omega) with ⟨f', h1, h2, h3, h4⟩ | ⟨h1, h2⟩
      · exact .inl ⟨f', h1, by omega, fun h => by omega, h4⟩
      · exact .inr ⟨by omega, h2⟩
  · have hK : K = [] := List.length_eq_zero_iff.1 (by omega)
    subst hK
    rw [if_neg (by omega)]
    exact .inl ⟨f, hf, by omega, fun h => h, rfl⟩
/-- Put of slots whose next file is z. -/
theorem pt3 {pb x : List Int} {s : SlV} (hz : z = 1 ∨ z = 2) (hf : 0 ≤ f) (hs : s.to = z) (ht : 0 ≤ s.turn ∧ s.turn ≤ 100000) (hx : x.length ≤ 65528) (hr : ((w.need + (16 + x.length) + u.need : Nat) : Int) ≤ r) :
    (∃ f', 0 ≤ f' ∧ f' ≤ f ∧ (f = 0 → f' = 0) ∧ ptS (k3 z r f false w ⟨pb, []⟩ u) s x = (k3 z r f' false w ⟨frT (s.turn + 1) x, []⟩ u, { s with now := z, turn := s.turn + 1, body := x }, 0)) ∨
    (0 < f ∧ ∃ V, (V = ⟨pb, [.cut 0]⟩ ∨ V = ⟨[], [.put (frT (s.turn + 1) x)]⟩) ∧ ptS (k3 z r f false w ⟨pb, []⟩ u) s x = (k3 z r 0 true w V u, s, 18)) := by
  have hn := next_len s x
  have hnx : frB (s.next x) = frT (s.turn + 1) x := rfl
  unfold ptS
  rw [if_neg (by omega), hs]
  rcases cl3 (z := z) (r := r) (w := w) (u := u) (K := pb) hz hf with ⟨f1, a1, a2, a3, e⟩ | ⟨h0, e⟩
  · rw [e]
    dsimp only
    rw [if_neg (by decide)]
    rcases prz (z := z) (r := r) (f := f1) (w := w) (u := u) (K := []) (b := s.next x) hz a1 (by omega) (by omega) (by rw [hn]; show ((w.need + (0 + (8 + (8 + x.length))) + u.need : Nat) : Int) ≤ r; omega) with ⟨f2, b1, b2, b3, e2⟩ | ⟨h0, e2⟩
    · rw [e2, hnx, List.nil_append]
      dsimp only
      rw [if_neg (by decide)]
      exact .inl ⟨f2, b1, by omega, fun h => b3 (a3 h), rfl⟩
    · rw [e2, hnx]
      dsimp only
      rw [if_pos (by decide)]
      exact .inr ⟨by omega, _, .inr rfl, rfl⟩
  · rw [e]
    dsimp only
    rw [if_pos (by decide)]
    exact .inr ⟨h0, _, .inl rfl, rfl⟩
end
end Go.Proofs.YtinmmhbiomcdoaaGreatDoor

/-
  The law VaultKeeps, on lists: what Puts, Compacts, crashes and Opens leave of a vault (P22.5). No Go function is spoken of.
-/
namespace Go.Proofs.YtinmmhbiomcdoaaGreatDoor
open Go.RowKit

/-- What is told of a vault: is there a snapshot, which, the records behind. -/
def VtV.seen (v : VtV) : Bool × List Int × List (List Int) := (v.some, v.body, v.after)
/-- The slots' snapshot. -/
def curV (t m : Int) (body : List Int) : List Int := if t = 0 then [] else beL m 8 ++ body
theorem curV_len (t m : Int) (body : List Int) : (curV t m body).length ≤ 8 + body.length := by
  unfold curV
  split
  · exact Nat.zero_le _
  · rw [List.length_append, beL_len]; exact Nat.le_refl _
theorem curV_by (t m : Int) {body : List Int} (h : ∀ y ∈ body, isByte y) : ∀ y ∈ curV t m body, isByte y := by
  unfold curV
  split
  · exact fun _ h => absurd h (List.not_mem_nil)
  · intro y hy
    rcases List.mem_append.1 hy with h1 | h1
    · exact beL_range _ _ y h1
    · exact h y h1
/-- A vault behind n bytes and calls: the snapshot of the number m (t snapshots so far), records R behind it; the next snapshot goes to file z. -/
structure VkS (n : Nat) (z t m : Int) (R : List (List Int)) (body : List Int) (v : VtV) : Prop where
  fz : z = 1 ∨ z = 2
  ft : 0 ≤ t ∧ t ≤ n
  fm : 0 ≤ m ∧ m + R.length ≤ n
  f0 : t = 0 → z = 1 ∧ m = 0 ∧ body = []
  fv : v = ⟨⟨1, 2, if t = 0 then -1 else 3 - z, t, curV t m body⟩, m + R.length, decide (t ≠ 0), body, R⟩
  rc : Recs R
  rs : recs R ≤ 16 * n
  rb : ∀ r ∈ R, ∀ y ∈ r, isByte y
  bl : body.length ≤ n
  bb : ∀ y ∈ body, isByte y
/-- What file z holds: nothing that counts. -/
structure VkP (n : Nat) (t : Int) (pb : List Int) : Prop where
  l : pb.length ≤ n + 24
  b : ∀ y ∈ pb, isByte y
  t : (ldF pb).1 < t ∨ pb = []
def VkUp (n : Nat) (z t m : Int) (R : List (List Int)) (body : List Int) (D : DkV) (v : VtV) : Prop :=
  VkS n z t m R body v ∧ ∃ f pb, 0 ≤ f ∧ f < 60 ∧ VkP n t pb ∧ D = k3 z 65536 f false ⟨flat (nums m R), []⟩ ⟨pb, []⟩ ⟨curB t (curV t m body), []⟩
/-- The disk went down in a call: behind it there would be 'next'. -/
def VkDn (n : Nat) (z t m : Int) (R : List (List Int)) (body : List Int) (next : Bool × List Int × List (List Int)) (D : DkV) : Prop :=
  ∃ pb x, VkP n t pb ∧ n + 1 + x.length ≤ 1000 ∧ (∀ y ∈ x, isByte y) ∧
    ((1 ≤ x.length ∧ next = (decide (t ≠ 0), body, R ++ [x]) ∧ D = k3 z 65536 0 true ⟨flat (nums m R), [.put (frB (beL (m + R.length + 1) 8 ++ x))]⟩ ⟨pb, []⟩ ⟨curB t (curV t m body), []⟩) ∨
     (next = (true, x, []) ∧ ∃ V, (V = ⟨pb, [.cut 0]⟩ ∨ V = ⟨[], [.put (frT (t + 1) (beL (m + R.length) 8 ++ x))]⟩) ∧ D = k3 z 65536 0 true ⟨flat (nums m R), []⟩ V ⟨curB t (curV t m body), []⟩) ∨
     (next = (true, x, []) ∧ D = k3 z 65536 0 true ⟨flat (nums m R), [.cut 0]⟩ ⟨frT (t + 1) (beL (m + R.length) 8 ++ x), []⟩ ⟨curB t (curV t m body), []⟩))
section
variable {n : Nat} {z t m : Int} {R : List (List Int)} {body : List Int} {D : DkV} {v : VtV}
theorem VkS.cur (h : VkS n z t m R body v) : (curB t (curV t m body)).length ≤ 24 + n ∧ (∀ y ∈ curB t (curV t m body), isByte y) ∧ (curV t m body).length ≤ 8 + n := by
  have h1 := curB_len t (curV t m body)
  have h2 := curV_len t m body
  have h3 := h.bl
  exact ⟨by omega, curB_by t (curV_by t m h.bb), by omega⟩
theorem VkS.flat_by (h : VkS n z t m R body v) : ∀ y ∈ flat (nums m R), isByte y := Go.Proofs.YtinmmhbiomcdoaaGreatDoor.flat_by (nums_by R m h.rb)
theorem VkS.to (h : VkS n z t m R body v) : v.s.to = z ∧ v.s.turn = t ∧ v.last = m + R.length ∧ v.after = R ∧ v.seen = (decide (t ≠ 0), body, R) := by
  have h1 := h.f0
  have h2 := h.fz
  rw [h.fv]
  refine ⟨?_, rfl, rfl, rfl, rfl⟩
  unfold SlV.to
  dsimp only
  by_cases h0 : t = 0
  · rw [if_pos h0, if_neg (by decide), (h1 h0).1]
  · rw [if_neg h0]
    rcases h2 with e | e
    · rw [e, if_neg (by decide)]
    · rw [e, if_pos (by decide)]
theorem VkUp.ok (h : VkUp n z t m R body D v) (hn : n ≤ 1000) : D.Ok 1 ∧ D.By ∧ D.down = false := by
  obtain ⟨hS, f, pb, f0, f1, hp, rfl⟩ := h
  obtain ⟨c1, c2, _⟩ := hS.cur
  have hl := flat_nums R m
  have hr := hS.rs
  have hpl := hp.l
  have nw : (⟨flat (nums m R), []⟩ : FlV).need = (flat (nums m R)).length := rfl
  have np : (⟨pb, []⟩ : FlV).need = pb.length := rfl
  have nc : (⟨curB t (curV t m body), []⟩ : FlV).need = (curB t (curV t m body)).length := rfl
  exact ⟨k3_ok (by decide) (by omega) ⟨trivial, Nat.zero_le _, Nat.zero_le _, by rw [nw]; omega⟩ ⟨trivial, Nat.zero_le _, Nat.zero_le _, by rw [np]; omega⟩ ⟨trivial, Nat.zero_le _, Nat.zero_le _, by rw [nc]; omega⟩ (by rw [nw, np, nc]; omega),
    k3_by ⟨hS.flat_by, fun _ h => absurd h (List.not_mem_nil)⟩ ⟨hp.b, fun _ h => absurd h (List.not_mem_nil)⟩ ⟨c2, fun _ h => absurd h (List.not_mem_nil)⟩, k3_head.2.2⟩
theorem VkP.more {pb : List Int} {n' : Nat} (h : VkP n t pb) (hn : n ≤ n') : VkP n' t pb := ⟨by have := h.l; omega, h.b, h.t⟩
/-- The beginning. -/
theorem vk_start (F : Int) (h0 : 0 ≤ F) (h1 : F < 60) : VkUp 0 1 0 0 [] [] (k3 1 65536 F false ⟨[], []⟩ ⟨[], []⟩ ⟨[], []⟩) ⟨⟨1, 2, -1, 0, []⟩, 0, false, [], []⟩ :=
  ⟨⟨.inl rfl, ⟨by omega, by omega⟩, ⟨by omega, by show (0 : Int) + ((0 : Nat) : Int) ≤ _; omega⟩, fun _ => ⟨rfl, rfl, rfl⟩, rfl, fun _ h => absurd h (List.not_mem_nil), Nat.le_refl _, fun _ h => absurd h (List.not_mem_nil), Nat.le_refl _, fun _ h => absurd h (List.not_mem_nil)⟩,
    F, [], h0, h1, ⟨Nat.zero_le _, fun _ h => absurd h (List.not_mem_nil), .inr rfl⟩, rfl⟩
/-- One more Put. -/
theorem vk_put (h : VkUp n z t m R body D v) {x : List Int} (hx : 1 ≤ x.length) (hn : n + 1 + x.length ≤ 1000) (hb : ∀ y ∈ x, isByte y) :
    ∃ D' v' e, ptV D v x = (D', v', e) ∧ ((e = 0 ∧ VkUp (n + 1 + x.length) z t m (R ++ [x]) body D' v') ∨ (e = 18 ∧ D'.down = true ∧ VkDn n z t m R body (decide (t ≠ 0), body, R ++ [x]) D')) := by
  obtain ⟨hS, f, pb, f0, f1, hp, rfl⟩ := h
  obtain ⟨c1, c2, _⟩ := hS.cur
  obtain ⟨_, _, q3, q4, _⟩ := hS.to
  have hl := flat_nums R m
  have hr := hS.rs
  have hpl := hp.l
  have hm := hS.fm
  have hnx : v.next x = beL (m + R.length + 1) 8 ++ x := by unfold VtV.next; rw [q3]
  have hnl := vnext_len v x
  have np : (⟨pb, []⟩ : FlV).need = pb.length := rfl
  have nc : (⟨curB t (curV t m body), []⟩ : FlV).need = (curB t (curV t m body)).length := rfl
  unfold ptV
  rw [if_neg (by rw [q3]; omega)]
  rcases pr0 (z := z) (r := 65536) (f := f) (K := flat (nums m R)) (b := v.next x) (v := ⟨pb, []⟩) (u := ⟨curB t (curV t m body), []⟩) f0 (by omega) (by omega) (by rw [np, nc]; omega) with ⟨f', g0, g1, _, e⟩ | ⟨_, e⟩
  · rw [e]
    dsimp only
    rw [if_neg (by decide)]
    refine ⟨_, _, _, rfl, .inl ⟨rfl, ⟨hS.fz, ⟨hS.ft.1, by have := hS.ft.2; omega⟩, ⟨hm.1, by rw [List.length_append]; show m + ((R.length + 1 : Nat) : Int) ≤ _; omega⟩, hS.f0, ?_, hS.rc.snoc hx (by omega), by rw [recs_snoc]; omega, ?_, by have := hS.bl; omega, hS.bb⟩, f', pb, g0, by omega, hp.more (by omega), ?_⟩⟩
    · rw [hS.fv]
      dsimp only
      rw [show m + (R.length : Int) + 1 = m + ((R ++ [x]).length : Int) by rw [List.length_append]; show _ = m + ((R.length + 1 : Nat) : Int); omega]
    · intro r hr
      rcases List.mem_append.1 hr with hr | hr
      · exact hS.rb r hr
      · rw [List.mem_singleton.1 hr]; exact hb
    · rw [nums_snoc, flat_snoc, hnx]
  · rw [e]
    dsimp only
    rw [if_pos (by decide)]
    exact ⟨_, _, _, rfl, .inr ⟨rfl, k3_head.2.2, pb, x, hp, hn, hb, .inl ⟨hx, rfl, by rw [hnx]⟩⟩⟩
/-- One more Compact. -/
theorem vk_compact (h : VkUp n z t m R body D v) {x : List Int} (hn : n + 1 + x.length ≤ 1000) (hb : ∀ y ∈ x, isByte y) :
    ∃ D' v' e, coV D v x = (D', v', e) ∧ ((e = 0 ∧ VkUp (n + 1 + x.length) (3 - z) (t + 1) (m + R.length) [] x D' v') ∨ (e = 18 ∧ D'.down = true ∧ VkDn n z t m R body (true, x, []) D')) := by
  obtain ⟨hS, f, pb, f0, f1, hp, rfl⟩ := h
  obtain ⟨c1, c2, c3⟩ := hS.cur
  obtain ⟨q1, q2, q3, q4, _⟩ := hS.to
  have hl := flat_nums R m
  have hr := hS.rs
  have hpl := hp.l
  have hm := hS.fm
  have ht := hS.ft
  have hz := hS.fz
  have hnx : v.snap x = beL (m + R.length) 8 ++ x := by unfold VtV.snap; rw [q3]
  have hnl := vsnap_len v x
  have nw : (⟨flat (nums m R), []⟩ : FlV).need = (flat (nums m R)).length := rfl
  have nc : (⟨curB t (curV t m body), []⟩ : FlV).need = (curB t (curV t m body)).length := rfl
  have hcv : curV (t + 1) (m + R.length) x = beL (m + R.length) 8 ++ x := by unfold curV; rw [if_neg (by omega)]
  unfold coV
  rw [if_neg (by omega)]
  rcases pt3 (z := z) (r := 65536) (f := f) (pb := pb) (x := v.snap x) (s := v.s) (w := ⟨flat (nums m R), []⟩) (u := ⟨curB t (curV t m body), []⟩) hz f0 q1 (by rw [q2]; omega) (by omega) (by rw [nw, nc]; omega) with ⟨f', g0, g1, _, e⟩ | ⟨_, V, hV, e⟩
  · rw [e]
    dsimp only
    rw [if_neg (by decide), hnx, q2]
    rcases ke0 (z := z) (r := 65536) (f := f') (K := flat (nums m R)) (v := ⟨frT (t + 1) (beL (m + R.length) 8 ++ x), []⟩) (u := ⟨curB t (curV t m body), []⟩) g0 0 (Nat.zero_le _) with ⟨f2, k0, k1, _, e2⟩ | ⟨_, e2⟩
    · have e2 : keD (k3 z 65536 f' false ⟨flat (nums m R), []⟩ ⟨frT (t + 1) (beL (m + R.length) 8 ++ x), []⟩ ⟨curB t (curV t m body), []⟩) 0 0 = _ := e2
      rw [e2]
      refine ⟨_, _, _, rfl, .inl ⟨rfl, ⟨by omega, ⟨by omega, by omega⟩, ⟨by omega, by show m + (R.length : Int) + ((0 : Nat) : Int) ≤ _; omega⟩, fun e => by omega, ?_, fun _ h => absurd h (List.not_mem_nil), Nat.zero_le _, fun _ h => absurd h (List.not_mem_nil), by omega, hb⟩, f2, curB t (curV t m body), k0, by omega, ⟨by omega, c2, ?_⟩, ?_⟩⟩
      · rw [hS.fv]
        dsimp only
        rw [hcv, if_neg (by omega), show 3 - (3 - z) = z by omega, show decide (t + 1 ≠ 0) = true from decide_eq_true (by omega), show m + (R.length : Int) + (([] : List (List Int)).length : Int) = m + R.length by show _ + ((0 : Nat) : Int) = _; omega]
      · by_cases h0 : t = 0
        · refine .inr ?_
          unfold curB
          rw [if_pos h0]
        · refine .inl ?_
          unfold curB
          rw [if_neg h0, ldF_frT ⟨by omega, by omega⟩ (by omega)]
          show t < t + 1
          omega
      · rw [k3_swap hz, hcv]
        unfold curB
        rw [if_neg (by omega : ¬ t + 1 = 0)]
        rfl
    · have e2 : keD (k3 z 65536 f' false ⟨flat (nums m R), []⟩ ⟨frT (t + 1) (beL (m + R.length) 8 ++ x), []⟩ ⟨curB t (curV t m body), []⟩) 0 0 = _ := e2
      rw [e2]
      exact ⟨_, _, _, rfl, .inr ⟨rfl, k3_head.2.2, pb, x, hp, hn, hb, .inr (.inr ⟨rfl, rfl⟩)⟩⟩
  · rw [e]
    dsimp only
    rw [if_pos (by decide)]
    rw [hnx, q2] at hV
    exact ⟨_, _, _, rfl, .inr ⟨rfl, k3_head.2.2, pb, x, hp, hn, hb, .inr (.inl ⟨rfl, V, hV, rfl⟩)⟩⟩
end
end Go.Proofs.YtinmmhbiomcdoaaGreatDoor

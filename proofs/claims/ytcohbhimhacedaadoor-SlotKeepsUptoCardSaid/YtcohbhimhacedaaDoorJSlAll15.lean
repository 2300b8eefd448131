/-
  Texts of stages that were proved on their own, joined: SlKeep, SlKeeps, SlCur, DkNil. Each begins with its own words.
-/
import Derived.Test.YtcohbhimhacedaaDoorJSlAll9

/-
  The law SlotKeeps, on lists: two files of a disk of lists, by the fuse; what Puts and a crash leave of slots (P21.3). No Go function is spoken of.
-/
namespace Go.Proofs.YtcohbhimhacedaaDoor
open Go.RowKit

/-- File z (1 or 2) holds v, the other one u, file 0 nothing. -/
def kz (z : Int) (r f : Int) (d : Bool) (v u : FlV) : DkV := if z = 1 then ⟨r, f, d, ⟨[], []⟩, v, u⟩ else ⟨r, f, d, ⟨[], []⟩, u, v⟩
section
variable {z r f : Int} {d : Bool} {v u : FlV}
theorem kz_swap (hz : z = 1 ∨ z = 2) : kz z r f d v u = kz (3 - z) r f d u v := by
  unfold kz
  rcases hz with rfl | rfl
  · rw [if_pos rfl, if_neg (by decide)]
  · rw [if_neg (by decide), if_pos (by decide)]
theorem kz_f (hz : z = 1 ∨ z = 2) : (kz z r f d v u).f z.toNat = v := by
  unfold kz
  rcases hz with rfl | rfl
  · rfl
  · rfl
theorem kz_held (hz : z = 1 ∨ z = 2) : heldR (kz z r f d v u) z = v.held := by
  unfold heldR
  rw [kz_f hz]
theorem kz_other (hz : z = 1 ∨ z = 2) : heldR (kz z r f d v u) (3 - z) = u.held := by
  rw [kz_swap hz]
  exact kz_held (by omega)
theorem kz_head : (kz z r f d v u).room = r ∧ (kz z r f d v u).fuse = f ∧ (kz z r f d v u).down = d := by
  unfold kz
  split <;> exact ⟨rfl, rfl, rfl⟩
theorem kz_set (hz : z = 1 ∨ z = 2) (x : FlV) : (kz z r f d v u).set z.toNat x = kz z r f d x u := by
  unfold kz
  rcases hz with rfl | rfl
  · rfl
  · rfl
theorem kz_used : (kz z r f d v u).used = v.need + u.need := by
  have h0 : (⟨[], []⟩ : FlV).need = 0 := rfl
  unfold kz
  split
  · show (⟨[], []⟩ : FlV).need + v.need + u.need = _
    omega
  · show (⟨[], []⟩ : FlV).need + u.need + v.need = _
    omega
theorem kz_burn : (kz z r f d v u).burn = if f = 0 then kz z r f d v u else kz z r (f - 1) (decide (f - 1 = 0)) v u := by
  unfold DkV.burn
  rw [kz_head.2.1]
  split
  · rfl
  · unfold kz
    split <;> rfl
theorem kz_ans : (kz z r f d v u).ans = if d = true then 18 else 0 := by
  unfold DkV.ans
  rw [kz_head.2.2]
theorem noFile_kz (hz : z = 1 ∨ z = 2) : ¬ noFile z := by unfold noFile; omega
theorem kz_ap (hz : z = 1 ∨ z = 2) (b : List Int) (hr : (((v.step (.put b)).need + u.need : Nat) : Int) ≤ r) :
    apD (kz z r f false v u) z b = if f = 0 then (kz z r 0 false (v.step (.put b)) u, 0) else if f = 1 then (kz z r 0 true (v.step (.put b)) u, 18) else (kz z r (f - 1) false (v.step (.put b)) u, 0) := by
  unfold apD
  rw [if_neg (noFile_kz hz), if_neg (by rw [kz_head.2.2]; decide), kz_f hz, kz_set hz, kz_used, kz_head.1, if_neg (by omega), kz_burn]
  by_cases h0 : f = 0
  · subst h0
    rw [if_pos rfl, if_pos rfl, kz_ans, if_neg (by decide)]
  · rw [if_neg h0, if_neg h0, kz_ans]
    by_cases h1 : f = 1
    · subst h1
      rw [if_pos rfl, if_pos (by decide)]
      rfl
    · have hd : decide (f - 1 = 0) = false := decide_eq_false (by omega)
      rw [if_neg h1, hd, if_neg (by decide)]
theorem kz_ct (hz : z = 1 ∨ z = 2) (n : Nat) (hn : n ≤ v.held.length) :
    ctD (kz z r f false v u) z (n : Int) = if f = 0 then (kz z r 0 false (v.step (.cut n)) u, 0) else if f = 1 then (kz z r 0 true (v.step (.cut n)) u, 18) else (kz z r (f - 1) false (v.step (.cut n)) u, 0) := by
  unfold ctD
  rw [kz_f hz, if_neg (by unfold noFile; omega), if_neg (by rw [kz_head.2.2]; decide), Int.toNat_natCast, kz_set hz, kz_burn]
  by_cases h0 : f = 0
  · subst h0
    rw [if_pos rfl, if_pos rfl, kz_ans, if_neg (by decide)]
  · rw [if_neg h0, if_neg h0, kz_ans]
    by_cases h1 : f = 1
    · subst h1
      rw [if_pos rfl, if_pos (by decide)]
      rfl
    · have hd : decide (f - 1 = 0) = false := decide_eq_false (by omega)
      rw [if_neg h1, hd, if_neg (by decide)]
theorem kz_sy (hz : z = 1 ∨ z = 2) :
    syD (kz z r f false v u) z = if f = 0 then (kz z r 0 false ⟨v.held, []⟩ u, 0) else if f = 1 then (kz z r 0 true v u, 18) else (kz z r (f - 1) false ⟨v.held, []⟩ u, 0) := by
  unfold syD
  rw [if_neg (noFile_kz hz), if_neg (by rw [kz_head.2.2]; decide), kz_f hz, kz_burn]
  by_cases h0 : f = 0
  · subst h0
    rw [if_pos rfl, if_pos rfl, if_neg (by rw [kz_head.2.2]; decide), kz_set hz]
  · rw [if_neg h0, if_neg h0]
    by_cases h1 : f = 1
    · subst h1
      rw [if_pos (by rw [kz_head.2.2]; decide), if_pos rfl]
      rfl
    · have hd : decide (f - 1 = 0) = false := decide_eq_false (by omega)
      rw [hd, if_neg (by rw [kz_head.2.2]; decide), if_neg h1, kz_set hz]
theorem kz_ct_down (hz : z = 1 ∨ z = 2) : (ctD (kz z r f true v u) z 0) = (kz z r f true v u, 18) := by
  unfold ctD
  rw [if_neg (by unfold noFile; omega), if_pos (by rw [kz_head.2.2])]
theorem kz_arm (n : Int) : armD (kz z r f d v u) n = kz z r (max n 0) d v u := by
  unfold armD kz
  split <;> rfl
theorem kz_cr (us : List Int) : ∃ a b, crD (kz z r f d v u) us = kz z r 0 false (v.settle a) (u.settle b) ∧ a ≤ v.units := by
  unfold crD kz
  split
  · exact ⟨_, _, rfl, leftU_le _ _ _⟩
  · exact ⟨_, _, rfl, leftU_le _ _ _⟩
theorem kz_ok {T : Nat} (hr : 1 ≤ r ∧ r ≤ 65536) (hf : 0 ≤ f ∧ f < 9223372036854775808) (hv : v.Ok T) (hu : u.Ok T) (hn : ((v.need + u.need : Nat) : Int) ≤ r) : (kz z r f d v u).Ok T := by
  have he : (⟨[], []⟩ : FlV).Ok T := ⟨trivial, Nat.zero_le _, Nat.zero_le _, Nat.zero_le _⟩
  have h0 : (⟨[], []⟩ : FlV).need = 0 := rfl
  unfold kz
  split
  · exact ⟨hr, hf, by show (((⟨[], []⟩ : FlV).need + v.need + u.need : Nat) : Int) ≤ r; omega, he, hv, hu⟩
  · exact ⟨hr, hf, by show (((⟨[], []⟩ : FlV).need + u.need + v.need : Nat) : Int) ≤ r; omega, he, hu, hv⟩
theorem kz_by (hv : v.By) (hu : u.By) : (kz z r f d v u).By := by
  have he : (⟨[], []⟩ : FlV).By := ⟨fun _ h => absurd h (List.not_mem_nil), fun _ h => absurd h (List.not_mem_nil)⟩
  unfold kz
  split
  · exact ⟨he, hv, hu⟩
  · exact ⟨he, hu, hv⟩
end

/-! ### Put, by the fuse -/
/-- The frame of a snapshot. -/
def frT (t : Int) (x : List Int) : List Int := frB (beL t 8 ++ x)
theorem frT_len (t : Int) (x : List Int) : (frT t x).length = 16 + x.length := by
  unfold frT
  rw [frB_len, List.length_append, beL_len]
  omega
theorem cut_held (K : List Int) : (⟨K, [.cut 0]⟩ : FlV).held = [] := by
  show (StV.cut 0).all K = _
  rw [StV.all_cut, List.take_zero]
theorem cut_need (K : List Int) : (⟨K, [.cut 0]⟩ : FlV).need = K.length := by
  show max K.length ((StV.cut 0).all K).length = _
  rw [StV.all_cut, List.take_zero]
  exact Nat.max_eq_left (Nat.zero_le _)
theorem cl_kz {z r f : Int} {K : List Int} {u : FlV} (hz : z = 1 ∨ z = 2) (hf : 0 ≤ f) :
    (∃ f', 0 ≤ f' ∧ f' ≤ f ∧ (f = 0 → f' = 0) ∧ clS (kz z r f false ⟨K, []⟩ u) z = (kz z r f' false ⟨[], []⟩ u, 0)) ∨ (0 < f ∧ clS (kz z r f false ⟨K, []⟩ u) z = (kz z r 0 true ⟨K, [.cut 0]⟩ u, 18)) := by
  have hh : (⟨K, []⟩ : FlV).held = K := rfl
  have hu : (⟨K, []⟩ : FlV).units = 0 := rfl
  have hst : ((⟨K, []⟩ : FlV).step (.cut 0)) = ⟨K, [.cut 0]⟩ := rfl
  unfold clS
  rw [kz_held hz, kz_f hz, hh, hu]
  by_cases h0 : 0 < K.length
  · rw [if_pos (.inl h0)]
    have hc := kz_ct (r := r) (f := f) (v := ⟨K, []⟩) (u := u) hz 0 (Nat.zero_le _)
    rw [hst] at hc
    have hc : ctD (kz z r f false ⟨K, []⟩ u) z 0 = _ := hc
    unfold keD
    rw [hc]
    by_cases h1 : f = 0
    · subst h1
      rw [if_pos rfl, if_pos rfl, kz_sy hz, if_pos rfl, cut_held]
      exact .inl ⟨0, by omega, by omega, fun _ => rfl, rfl⟩
    · rw [if_neg h1]
      by_cases h2 : f = 1
      · rw [if_pos h2, if_neg (show ¬ (18 : Int) = 0 by decide)]
        exact .inr ⟨by omega, rfl⟩
      · rw [if_neg h2, if_pos rfl, kz_sy hz, if_neg (by omega)]
        by_cases h3 : f - 1 = 1
        · rw [if_pos h3]
          exact .inr ⟨by omega, rfl⟩
        · rw [if_neg h3, cut_held]
          exact .inl ⟨f - 1 - 1, by omega, by omega, fun h => absurd h h1, rfl⟩
  · have hK : K = [] := List.length_eq_zero_iff.1 (by omega)
    subst hK
    rw [if_neg (by omega)]
    exact .inl ⟨f, hf, by omega, fun h => h, rfl⟩
theorem pr_kz {z r f : Int} {u : FlV} (hz : z = 1 ∨ z = 2) (hf : 0 ≤ f) (b : List Int) (h1 : 1 ≤ b.length) (h2 : b.length ≤ 65536) (hr : (((frB b).length + u.need : Nat) : Int) ≤ r) :
    (∃ f', 0 ≤ f' ∧ f' ≤ f ∧ (f = 0 → f' = 0) ∧ prD (kz z r f false ⟨[], []⟩ u) z b = (kz z r f' false ⟨frB b, []⟩ u, 0)) ∨ (0 < f ∧ prD (kz z r f false ⟨[], []⟩ u) z b = (kz z r 0 true ⟨[], [.put (frB b)]⟩ u, 18)) := by
  have hst : ((⟨[], []⟩ : FlV).step (.put (frB b))) = ⟨[], [.put (frB b)]⟩ := rfl
  have hA := kz_ap (r := r) (f := f) (v := ⟨[], []⟩) (u := u) hz (frB b) (by rw [hst, flight_need]; show (((0 + (frB b).length) + u.need : Nat) : Int) ≤ r; omega)
  have hW : (⟨[], [.put (frB b)]⟩ : FlV).held = frB b := by rw [flight_held, List.nil_append]
  rw [hst] at hA
  unfold prD
  rw [if_neg (by omega), hA]
  by_cases h0 : f = 0
  · subst h0
    rw [if_pos rfl, if_pos rfl, kz_sy hz, if_pos rfl, hW]
    exact .inl ⟨0, by omega, by omega, fun _ => rfl, rfl⟩
  · rw [if_neg h0]
    by_cases h3 : f = 1
    · rw [if_pos h3, if_neg (show ¬ (18 : Int) = 0 by decide)]
      exact .inr ⟨by omega, rfl⟩
    · rw [if_neg h3, if_pos rfl, kz_sy hz, if_neg (by omega)]
      by_cases h4 : f - 1 = 1
      · rw [if_pos h4]
        exact .inr ⟨by omega, rfl⟩
      · rw [if_neg h4, hW]
        exact .inl ⟨f - 1 - 1, by omega, by omega, fun h => absurd h h0, rfl⟩
end Go.Proofs.YtcohbhimhacedaaDoor

/-
  The law SlotKeeps, on lists: behind some Puts, of which one may have let the disk go down, behind a crash, and Open. No Go function is spoken of.
-/
namespace Go.Proofs.YtcohbhimhacedaaDoor
open Go.RowKit

def curB (t : Int) (last : List Int) : List Int := if t = 0 then [] else frT t last
theorem curB_len (t : Int) (last : List Int) : (curB t last).length ≤ 16 + last.length := by
  unfold curB
  split
  · exact Nat.zero_le _
  · rw [frT_len]; exact Nat.le_refl _
theorem frT_by (t : Int) {x : List Int} (h : ∀ y ∈ x, isByte y) : ∀ y ∈ frT t x, isByte y := by
  refine frB_range fun y hy => ?_
  rcases List.mem_append.1 hy with h1 | h1
  · exact beL_range _ _ y h1
  · exact h y h1
theorem curB_by (t : Int) {x : List Int} (h : ∀ y ∈ x, isByte y) : ∀ y ∈ curB t x, isByte y := by
  unfold curB
  split
  · exact fun _ h => absurd h (List.not_mem_nil)
  · exact frT_by t h
theorem ldF_frT {t : Int} (ht : 0 ≤ t ∧ t < 18446744073709551616) {x : List Int} (hx : x.length ≤ 65528) : ldF (frT t x) = (t, x) := by
  have h := ldF_put ht (x := x) (r := []) hx
  rw [List.append_nil] at h
  exact h
/-- Behind j Puts: t of them were answered OK, the last one with 'last'; where the disk went down in one, it was 'next'. Put goes to file z. -/
structure SkS (j : Nat) (z t : Int) (last next : List Int) (down : Bool) (D : DkV) (s : SlV) : Prop where
  fz : z = 1 ∨ z = 2
  fs : s = ⟨1, 2, if t = 0 then -1 else 3 - z, t, last⟩
  fn : t = 0 → z = 1 ∧ last = []
  ft : 0 ≤ t ∧ t ≤ j
  fl : last.length ≤ 1000
  fb : ∀ y ∈ last, isByte y
  st : ∃ pb : List Int, pb.length ≤ 1016 ∧ (∀ y ∈ pb, isByte y) ∧ ((ldF pb).1 < t ∨ pb = []) ∧
    ((down = false ∧ ∃ f, 0 ≤ f ∧ f < 40 ∧ D = kz z 65536 f false ⟨pb, []⟩ ⟨curB t last, []⟩) ∨
     (down = true ∧ next.length ≤ 1000 ∧ (∀ y ∈ next, isByte y) ∧ (D = kz z 65536 0 true ⟨pb, [.cut 0]⟩ ⟨curB t last, []⟩ ∨ D = kz z 65536 0 true ⟨[], [.put (frT (t + 1) next)]⟩ ⟨curB t last, []⟩)))
theorem SkS.to {j : Nat} {z t : Int} {last next : List Int} {down : Bool} {D : DkV} {s : SlV} (h : SkS j z t last next down D s) : s.to = z := by
  have h1 := h.fn
  have h2 := h.fz
  rw [h.fs]
  unfold SlV.to
  dsimp only
  by_cases h0 : t = 0
  · rw [if_pos h0, if_neg (by decide), (h1 h0).1]
  · rw [if_neg h0]
    rcases h2 with e | e
    · rw [e, if_neg (by decide)]
    · rw [e, if_pos (by decide)]
theorem SkS.ok {j : Nat} {z t : Int} {last next : List Int} {down : Bool} {D : DkV} {s : SlV} (h : SkS j z t last next down D s) : D.Ok 1 ∧ D.By := by
  obtain ⟨pb, p1, p2, _, hs⟩ := h.st
  have hc := curB_len t last
  have hl := h.fl
  have hcb := curB_by t h.fb
  have oc : (⟨curB t last, []⟩ : FlV).Ok 1 := ⟨trivial, Nat.zero_le _, Nat.zero_le _, by show (curB t last).length ≤ 65536; omega⟩
  have bc : (⟨curB t last, []⟩ : FlV).By := ⟨hcb, fun _ h => absurd h (List.not_mem_nil)⟩
  have nc : (⟨curB t last, []⟩ : FlV).need = (curB t last).length := rfl
  rcases hs with ⟨_, f, f0, f1, rfl⟩ | ⟨_, n1, n2, rfl | rfl⟩
  · exact ⟨kz_ok (by decide) (by omega) ⟨trivial, Nat.zero_le _, Nat.zero_le _, by show pb.length ≤ 65536; omega⟩ oc (by rw [nc]; show ((pb.length + _ : Nat) : Int) ≤ _; omega), kz_by ⟨p2, fun _ h => absurd h (List.not_mem_nil)⟩ bc⟩
  · exact ⟨kz_ok (by decide) (by decide) ⟨⟨Nat.zero_le _, trivial⟩, Nat.le_refl _, by show 1 + 0 ≤ _; omega, by rw [cut_need]; omega⟩ oc (by rw [nc, cut_need]; omega), kz_by ⟨p2, fun s hs => by rw [List.mem_singleton.1 hs]; trivial⟩ bc⟩
  · have hf := frT_len (t + 1) next
    exact ⟨kz_ok (by decide) (by decide) ⟨⟨trivial, trivial⟩, Nat.le_refl _, by rw [flight_units]; omega, by rw [flight_need]; show 0 + _ ≤ _; omega⟩ oc (by rw [nc, flight_need]; show ((0 + _ + _ : Nat) : Int) ≤ _; omega), kz_by ⟨fun _ h => absurd h (List.not_mem_nil), fun s hs => by rw [List.mem_singleton.1 hs]; exact frT_by _ n2⟩ bc⟩
theorem sk_start (F : Int) (h0 : 0 ≤ F) (h1 : F < 40) (next : List Int) : SkS 0 1 0 [] next false (kz 1 65536 F false ⟨[], []⟩ ⟨[], []⟩) ⟨1, 2, -1, 0, []⟩ :=
  ⟨.inl rfl, rfl, fun _ => ⟨rfl, rfl⟩, ⟨by omega, by omega⟩, Nat.zero_le _, fun _ h => absurd h (List.not_mem_nil), [], Nat.zero_le _, fun _ h => absurd h (List.not_mem_nil), .inr rfl, .inl ⟨rfl, F, h0, h1, rfl⟩⟩
/-- One more Put. -/
theorem sk_step {j : Nat} {z t : Int} {last next x : List Int} {down : Bool} {D : DkV} {s : SlV} (h : SkS j z t last next down D s) (hj : j ≤ 1000) (hx : x.length ≤ 1000) (hb : ∀ y ∈ x, isByte y) :
    ∃ D' s' e, ptS D s x = (D', s', e) ∧ ((e = 0 ∧ down = false ∧ SkS (j + 1) (3 - z) (t + 1) x next false D' s') ∨ (e = 18 ∧ down = false ∧ SkS (j + 1) z t last x true D' s') ∨ (e = 18 ∧ down = true ∧ SkS (j + 1) z t last next true D' s')) := by
  have hto := h.to
  have hz := h.fz
  have ht := h.ft
  have hl := h.fl
  have hc := curB_len t last
  obtain ⟨pb, p1, p2, p3, hs⟩ := h.st
  have hst : s.turn = t := by rw [h.fs]
  have hg : ¬ (65528 < x.length ∨ s.turn + 1 = 18446744073709551616) := by rw [hst]; omega
  have hnx : s.next x = beL (t + 1) 8 ++ x := by unfold SlV.next; rw [hst]
  have hnl : (beL (t + 1) 8 ++ x).length = 8 + x.length := by rw [List.length_append, beL_len]
  unfold ptS
  rw [if_neg hg, hto, hnx]
  rcases hs with ⟨d0, f, f0, f1, rfl⟩ | ⟨d1, n1, n2, hD⟩
  · subst d0
    rcases cl_kz (r := 65536) (f := f) (K := pb) (u := ⟨curB t last, []⟩) hz f0 with ⟨f', g0, g1, _, hcl⟩ | ⟨_, hcl⟩
    · rw [hcl]
      dsimp only
      rw [if_neg (by decide)]
      rcases pr_kz (r := 65536) (f := f') (u := ⟨curB t last, []⟩) hz g0 (beL (t + 1) 8 ++ x) (by omega) (by omega) (by rw [frB_len]; show ((8 + _ + (curB t last).length : Nat) : Int) ≤ _; omega) with ⟨f2, k0, k1, _, hpr⟩ | ⟨_, hpr⟩
      · rw [hpr]
        dsimp only
        rw [if_neg (by decide)]
        refine ⟨_, _, _, rfl, .inl ⟨rfl, rfl, ⟨by omega, ?_, fun e => by omega, ⟨by omega, by omega⟩, hx, hb, curB t last, by omega, curB_by t h.fb, ?_, .inl ⟨rfl, f2, k0, by omega, ?_⟩⟩⟩⟩
        · rw [h.fs]
          dsimp only
          rw [if_neg (by omega : ¬ t + 1 = 0), show 3 - (3 - z) = z by omega]
        · unfold curB
          split
          · exact .inr rfl
          · refine .inl ?_
            rw [ldF_frT ⟨by omega, by omega⟩ (by omega)]
            show t < t + 1
            omega
        · rw [kz_swap hz]
          unfold curB
          rw [if_neg (by omega : ¬ t + 1 = 0)]
          rfl
      · rw [hpr]
        dsimp only
        rw [if_pos (by decide)]
        exact ⟨_, _, _, rfl, .inr (.inl ⟨rfl, rfl, ⟨hz, h.fs, h.fn, ⟨ht.1, by omega⟩, hl, h.fb, pb, p1, p2, p3, .inr ⟨rfl, hx, hb, .inr rfl⟩⟩⟩)⟩
    · rw [hcl]
      dsimp only
      rw [if_pos (by decide)]
      exact ⟨_, _, _, rfl, .inr (.inl ⟨rfl, rfl, ⟨hz, h.fs, h.fn, ⟨ht.1, by omega⟩, hl, h.fb, pb, p1, p2, p3, .inr ⟨rfl, hx, hb, .inl rfl⟩⟩⟩)⟩
  · subst d1
    have hcl : clS D z = (D, 18) := by
      unfold clS
      rcases hD with rfl | rfl
      · rw [kz_f hz, if_pos (.inr (by show 0 < 1 + 0; omega))]
        unfold keD
        rw [kz_ct_down hz, if_neg (show ¬ (18 : Int) = 0 by decide)]
      · rw [kz_f hz, if_pos (.inr (by rw [flight_units, frT_len]; omega))]
        unfold keD
        rw [kz_ct_down hz, if_neg (show ¬ (18 : Int) = 0 by decide)]
    rw [hcl]
    dsimp only
    rw [if_pos (by decide)]
    exact ⟨_, _, _, rfl, .inr (.inr ⟨rfl, rfl, ⟨hz, h.fs, h.fn, ⟨ht.1, by omega⟩, hl, h.fb, pb, p1, p2, p3, .inr ⟨rfl, n1, n2, hD⟩⟩⟩)⟩
/-- Open of two files: which one is current. -/
theorem op_kz {z r f : Int} {d : Bool} {K C : List Int} (hz : z = 1 ∨ z = 2) :
    ((ldF C).1 < (ldF K).1 → opS (kz z r f d ⟨K, []⟩ ⟨C, []⟩) 1 2 = ⟨1, 2, z, (ldF K).1, (ldF K).2⟩ ∨ (ldF K).1 ≤ 0) ∧ ((ldF K).1 < (ldF C).1 → opS (kz z r f d ⟨K, []⟩ ⟨C, []⟩) 1 2 = ⟨1, 2, 3 - z, (ldF C).1, (ldF C).2⟩ ∨ (ldF C).1 ≤ 0) ∧
      ((ldF K).1 = 0 → (ldF C).1 = 0 → opS (kz z r f d ⟨K, []⟩ ⟨C, []⟩) 1 2 = ⟨1, 2, -1, 0, []⟩) := by
  have hh : (⟨K, []⟩ : FlV).held = K := rfl
  have hc : (⟨C, []⟩ : FlV).held = C := rfl
  have e1 := kz_held (z := z) (r := r) (f := f) (d := d) (v := ⟨K, []⟩) (u := ⟨C, []⟩) hz
  have e2 := kz_other (z := z) (r := r) (f := f) (d := d) (v := ⟨K, []⟩) (u := ⟨C, []⟩) hz
  rw [hh] at e1
  rw [hc] at e2
  unfold opS
  rcases hz with rfl | rfl
  · rw [show (3 : Int) - 1 = 2 by decide] at e2 ⊢
    rw [e1, e2]
    refine ⟨fun h => ?_, fun h => ?_, fun h h' => ?_⟩
    · rw [if_neg (by omega)]
      by_cases h0 : 0 < (ldF K).1
      · rw [if_pos h0]; exact .inl rfl
      · exact .inr (by omega)
    · rw [if_pos h]
      exact .inl rfl
    · rw [if_neg (by omega), if_neg (by omega)]
  · rw [show (3 : Int) - 2 = 1 by decide] at e2 ⊢
    rw [e1, e2]
    refine ⟨fun h => ?_, fun h => ?_, fun h h' => ?_⟩
    · rw [if_pos h]
      exact .inl rfl
    · rw [if_neg (by omega)]
      by_cases h0 : 0 < (ldF C).1
      · rw [if_pos h0]; exact .inl rfl
      · exact .inr (by omega)
    · rw [if_neg (by omega), if_neg (by omega)]
theorem put_ok21 {z : Int} {K C : List Int} {s : SlV} (hz : z = 1 ∨ z = 2) (hs : s.to = z) (ht : 0 ≤ s.turn ∧ s.turn ≤ 2000) (hC : C.length ≤ 1016) :
    ∃ D' s', ptS (kz z 65536 0 false ⟨K, []⟩ ⟨C, []⟩) s [] = (D', s', 0) := by
  unfold ptS
  rw [if_neg (by show ¬ (65528 < 0 ∨ _); omega), hs]
  rcases cl_kz (r := 65536) (f := 0) (K := K) (u := ⟨C, []⟩) hz (by omega) with ⟨f', g0, g1, g2, hcl⟩ | ⟨h0, _⟩
  · rw [hcl]
    dsimp only
    rw [if_neg (by decide)]
    have hl := next_len s []
    rcases pr_kz (r := 65536) (f := f') (u := ⟨C, []⟩) hz g0 (s.next []) (by omega) (by rw [hl]; show 8 + 0 ≤ _; omega) (by rw [frB_len, hl]; show ((8 + (8 + 0) + C.length : Nat) : Int) ≤ _; omega) with ⟨f2, _, _, _, hpr⟩ | ⟨h1, _⟩
    · rw [hpr]
      dsimp only
      rw [if_neg (by decide)]
      exact ⟨_, _, rfl⟩
    · have := g2 rfl; omega
  · omega
/-- Behind a crash, and Open. -/
theorem sk_end {j : Nat} {z t : Int} {last next : List Int} {down : Bool} {D : DkV} {s : SlV} (h : SkS j z t last next down D s) (hj : j ≤ 1000) (us : List Int) :
    ∃ D2 s2 D3 s3, crD D us = D2 ∧ D2.down = false ∧ opS D2 1 2 = s2 ∧ ptS D2 s2 [] = (D3, s3, 0) ∧ D2.Ok 1 ∧ D2.By ∧ ((s2.turn = t ∧ s2.body = last) ∨ (down = true ∧ s2.turn = t + 1 ∧ s2.body = next)) := by
  obtain ⟨hO, hB⟩ := h.ok
  have hO2 := crD_ok hO us
  have hB2 := crD_by hB us
  have hz := h.fz
  have ht := h.ft
  have hl := h.fl
  have hc := curB_len t last
  have hq : ldF (curB t last) = (t, last) := by
    unfold curB
    split
    · rename_i h0
      rw [ldF_nil, h0, (h.fn h0).2]
    · exact ldF_frT ⟨ht.1, by omega⟩ (by omega)
  have hz3 : 3 - z = 1 ∨ 3 - z = 2 := by omega
  have old : ∀ K, crD D us = kz z 65536 0 false ⟨K, []⟩ ⟨curB t last, []⟩ → K.length ≤ 1016 → (∀ y ∈ K, isByte y) → ((ldF K).1 < t ∨ (ldF K).1 = 0) →
      ∃ D2 s2 D3 s3, crD D us = D2 ∧ D2.down = false ∧ opS D2 1 2 = s2 ∧ ptS D2 s2 [] = (D3, s3, 0) ∧ D2.Ok 1 ∧ D2.By ∧ ((s2.turn = t ∧ s2.body = last) ∨ (down = true ∧ s2.turn = t + 1 ∧ s2.body = next)) := by
    intro K hcr hK hKb hlt
    rw [hcr] at hO2 hB2 ⊢
    obtain ⟨_, o2, o3⟩ := op_kz (r := 65536) (f := 0) (d := false) (K := K) (C := curB t last) hz
    rw [hq] at o2 o3
    by_cases h0 : t = 0
    · have hK0 : (ldF K).1 = 0 := by
        rcases hlt with h1 | h1
        · have := (ldF_ok hKb).1
          omega
        · exact h1
      have ho := o3 hK0 h0
      have hz1 := (h.fn h0).1
      obtain ⟨D3, s3, hp⟩ := put_ok21 (z := z) (K := K) (C := curB t last) (s := ⟨1, 2, -1, 0, []⟩) hz (by rw [hz1]; rfl) (by show (0 : Int) ≤ 0 ∧ (0 : Int) ≤ 2000; omega) (by omega)
      exact ⟨_, _, D3, s3, rfl, kz_head.2.2, ho, hp, hO2, hB2, .inl ⟨h0.symm, (h.fn h0).2.symm⟩⟩
    · have ho := (o2 (by rcases hlt with h1 | h1 <;> (show (ldF K).1 < t; omega))).resolve_right (by show ¬ t ≤ 0; omega)
      obtain ⟨D3, s3, hp⟩ := put_ok21 (z := z) (K := K) (C := curB t last) (s := ⟨1, 2, 3 - z, t, last⟩) hz (by
        unfold SlV.to
        dsimp only
        rcases hz with e | e
        · rw [e, if_neg (by decide)]
        · rw [e, if_pos (by decide)]) (by show 0 ≤ t ∧ t ≤ 2000; omega) (by omega)
      exact ⟨_, _, D3, s3, rfl, kz_head.2.2, ho, hp, hO2, hB2, .inl ⟨rfl, rfl⟩⟩
  obtain ⟨pb, p1, p2, p3, hs⟩ := h.st
  have hpb : (ldF pb).1 < t ∨ (ldF pb).1 = 0 := by
    rcases p3 with h1 | h1
    · exact .inl h1
    · rw [h1, ldF_nil]; exact .inr rfl
  rcases hs with ⟨_, f, f0, f1, rfl⟩ | ⟨hd, n1, n2, rfl | rfl⟩
  · obtain ⟨a, b, hcr, _⟩ := kz_cr (z := z) (r := 65536) (f := f) (d := false) (v := ⟨pb, []⟩) (u := ⟨curB t last, []⟩) us
    exact old pb hcr p1 p2 hpb
  · obtain ⟨a, b, hcr, _⟩ := kz_cr (z := z) (r := 65536) (f := 0) (d := true) (v := ⟨pb, [.cut 0]⟩) (u := ⟨curB t last, []⟩) us
    have e : (⟨pb, [.cut 0]⟩ : FlV).settle a = ⟨(StV.cut 0).act pb (min a 1), []⟩ := rfl
    rw [e] at hcr
    unfold StV.act at hcr
    dsimp only at hcr
    split at hcr
    · exact old pb hcr p1 p2 hpb
    · exact old _ hcr (by simp) (fun y hy => p2 y (List.mem_of_mem_take hy)) (.inr (by rw [List.take_zero, ldF_nil]))
  · obtain ⟨a, b, hcr, _⟩ := kz_cr (z := z) (r := 65536) (f := 0) (d := true) (v := ⟨[], [.put (frT (t + 1) next)]⟩) (u := ⟨curB t last, []⟩) us
    have e : (⟨[], [.put (frT (t + 1) next)]⟩ : FlV).settle a = ⟨(frT (t + 1) next).take (min a (frT (t + 1) next).length), []⟩ := rfl
    rw [e] at hcr
    have hf := frT_len (t + 1) next
    obtain ⟨w, hw⟩ : ∃ w, min a (frT (t + 1) next).length = w := ⟨_, rfl⟩
    rw [hw] at hcr
    by_cases hwl : w < 16 + next.length
    · have hld : ldF ((frT (t + 1) next).take w) = (0, []) := ldF_torn (by omega) w hwl
      exact old _ hcr (by rw [List.length_take]; omega) (fun y hy => frT_by (t + 1) n2 y (List.mem_of_mem_take hy)) (.inr (by rw [hld]))
    · rw [List.take_of_length_le (by omega)] at hcr
      have hld : ldF (frT (t + 1) next) = (t + 1, next) := ldF_frT ⟨by omega, by omega⟩ (by omega)
      rw [hcr] at hO2 hB2 ⊢
      obtain ⟨o1, _, _⟩ := op_kz (r := 65536) (f := 0) (d := false) (K := frT (t + 1) next) (C := curB t last) hz
      rw [hq, hld] at o1
      have ho := (o1 (by show t < t + 1; omega)).resolve_right (by show ¬ t + 1 ≤ 0; omega)
      have hp : ∃ D' s', ptS (kz z 65536 0 false ⟨frT (t + 1) next, []⟩ ⟨curB t last, []⟩) ⟨1, 2, z, t + 1, next⟩ [] = (D', s', 0) := by
        rw [kz_swap hz]
        exact put_ok21 hz3 (by
          unfold SlV.to
          dsimp only
          rcases hz with e | e
          · rw [e, if_pos rfl]; rfl
          · rw [e, if_neg (by decide)]; rfl) (by show 0 ≤ t + 1 ∧ t + 1 ≤ 2000; omega) (by omega)
      obtain ⟨D3, s3, hp⟩ := hp
      exact ⟨_, _, D3, s3, rfl, kz_head.2.2, ho, hp, hO2, hB2, .inr ⟨hd, rfl, rfl⟩⟩
end Go.Proofs.YtcohbhimhacedaaDoor

/-
  Slots on lists (layer 21): what the current file has goes along with what is done to the disk; Puts without a fuse. No Go function is spoken of. No conditions.
-/
namespace Go.Proofs.YtcohbhimhacedaaDoor
open Go.RowKit

theorem u64_id {x : Int} (h : 0 ≤ x ∧ x < 18446744073709551616) : x % 18446744073709551616 = x ∧ IntKind.u64.wrap x = x := by
  refine ⟨Int.emod_eq_of_lt h.1 h.2, ?_⟩
  simp [IntKind.wrap, IntKind.signed, IntKind.bits, Int.emod_eq_of_lt h.1 h.2]
/-- A whole first frame is not moved by what stands behind it. -/
theorem oneF_more {b : List Int} (h : (oneF b).2.2 = 0) (r : List Int) : oneF (b ++ r) = oneF b := by
  have hl : (b ++ r).length = b.length + r.length := List.length_append
  unfold oneF at h ⊢
  split at h
  · cases h
  rename_i c1
  split at h
  · cases h
  rename_i c2
  split at h
  · cases h
  rename_i c3
  split at h
  · rename_i c4
    have t4 : (b ++ r).take 4 = b.take 4 := List.take_append_of_le_length (by omega)
    have d4 : ((b ++ r).drop 4).take 4 = (b.drop 4).take 4 := by
      rw [List.drop_append_of_le_length (by omega), List.take_append_of_le_length (by rw [List.length_drop]; omega)]
    have d8 : ((b ++ r).drop 8).take (be (b.take 4)).toNat = (b.drop 8).take (be (b.take 4)).toNat := by
      rw [List.drop_append_of_le_length (by omega), List.take_append_of_le_length (by rw [List.length_drop]; omega)]
    rw [t4, d4, d8, hl, if_neg (by omega), if_neg c2, if_neg (by omega), if_pos c4, if_neg c1, if_neg c2, if_neg c3]
  · cases h
theorem ldF_more {b : List Int} (h : 0 < (ldF b).1) (r : List Int) : ldF (b ++ r) = ldF b := by
  by_cases h0 : (oneF b).2.2 ≠ 0 ∨ (oneF b).1.length < 8
  · unfold ldF at h
    rw [if_pos h0] at h
    exact absurd h (by decide)
  · unfold ldF
    rw [oneF_more (by omega) r]

/-! ### What files hold, behind each call -/
theorem burn_held (D : DkV) (z : Int) : heldR D.burn z = heldR D z := by
  unfold heldR DkV.burn
  split <;> rfl
theorem set_held (D : DkV) {y z : Int} (hy : 0 ≤ y ∧ y < 3) (hz : 0 ≤ z ∧ z < 3) (v : FlV) : heldR (D.set z.toNat v) y = if y = z then v.held else heldR D y := by
  have hc : (z = 0 ∨ z = 1 ∨ z = 2) ∧ (y = 0 ∨ y = 1 ∨ y = 2) := by omega
  obtain ⟨rfl | rfl | rfl, rfl | rfl | rfl⟩ := hc <;> rfl
theorem ap_held {D : DkV} {y z : Int} (hy : 0 ≤ y ∧ y < 3) (b : List Int) : heldR (apD D z b).1 y = heldR D y ∨ (y = z ∧ heldR (apD D z b).1 y = heldR D y ++ b) := by
  unfold apD
  split
  · exact .inl rfl
  rename_i hn
  have hz : 0 ≤ z ∧ z < 3 := by unfold noFile at hn; omega
  split
  · exact .inl rfl
  split
  · exact .inl rfl
  rw [burn_held, set_held D hy hz]
  by_cases h : y = z
  · refine .inr ⟨h, ?_⟩
    rw [if_pos h, FlV.step_held, StV.all_put, h]
    rfl
  · rw [if_neg h]; exact .inl rfl
theorem ap_held_ok {D : DkV} {z : Int} {b : List Int} (h : (apD D z b).2 = 0) : heldR (apD D z b).1 z = heldR D z ++ b := by
  unfold apD at h ⊢
  split
  · rename_i hn
    rw [if_pos hn] at h
    exact absurd h (show ¬ (1 : Int) = 0 by decide)
  rename_i hn
  rw [if_neg hn] at h
  have hz : 0 ≤ z ∧ z < 3 := by unfold noFile at hn; omega
  split
  · rename_i hd
    rw [if_pos hd] at h
    exact absurd h (show ¬ (18 : Int) = 0 by decide)
  rename_i hd
  rw [if_neg hd] at h
  split
  · rename_i hr
    rw [if_pos hr] at h
    exact absurd h (show ¬ (17 : Int) = 0 by decide)
  rw [burn_held, set_held D hz hz, if_pos rfl, FlV.step_held, StV.all_put]
  rfl
theorem ct_held {D : DkV} {y z n : Int} (hy : 0 ≤ y ∧ y < 3) (h : y ≠ z) : heldR (ctD D z n).1 y = heldR D y := by
  unfold ctD
  split
  · rfl
  rename_i hn
  have hz : 0 ≤ z ∧ z < 3 := by unfold noFile at hn; omega
  split
  · rfl
  rw [burn_held, set_held D hy hz, if_neg h]
theorem ct_held_ok {D : DkV} {z : Int} (h : (ctD D z 0).2 = 0) : heldR (ctD D z 0).1 z = [] := by
  unfold ctD at h ⊢
  split
  · rename_i hn
    rw [if_pos hn] at h
    exact absurd h (show ¬ (1 : Int) = 0 by decide)
  rename_i hn
  rw [if_neg hn] at h
  have hz : 0 ≤ z ∧ z < 3 := by unfold noFile at hn; omega
  split
  · rename_i hd
    rw [if_pos hd] at h
    exact absurd h (show ¬ (18 : Int) = 0 by decide)
  rw [burn_held, set_held D hz hz, if_pos rfl, FlV.step_held, StV.all_cut]
  exact List.take_zero
theorem sy_held {D : DkV} {y z : Int} (hy : 0 ≤ y ∧ y < 3) : heldR (syD D z).1 y = heldR D y := by
  unfold syD
  split
  · rfl
  rename_i hn
  have hz : 0 ≤ z ∧ z < 3 := by unfold noFile at hn; omega
  split
  · rfl
  split
  · exact burn_held D y
  rw [set_held _ hy hz]
  by_cases h : y = z
  · rw [if_pos h, h]; rfl
  · rw [if_neg h]; exact burn_held D y
theorem cl_held {D : DkV} {y z : Int} (hy : 0 ≤ y ∧ y < 3) (h : y ≠ z) : heldR (clS D z).1 y = heldR D y := by
  unfold clS
  split
  · unfold keD
    split
    · rw [sy_held hy, ct_held hy h]
    · exact ct_held hy h
  · rfl
theorem cl_held_ok {D : DkV} {z : Int} (hz : 0 ≤ z ∧ z < 3) (h : (clS D z).2 = 0) : heldR (clS D z).1 z = [] := by
  unfold clS at h ⊢
  by_cases h0 : 0 < (heldR D z).length ∨ 0 < (D.f z.toNat).units
  · rw [if_pos h0] at h ⊢
    unfold keD at h ⊢
    by_cases h1 : (ctD D z 0).2 = 0
    · rw [if_pos h1, sy_held hz]
      exact ct_held_ok h1
    · rw [if_neg h1] at h
      exact absurd h h1
  · rw [if_neg h0]
    exact List.length_eq_zero_iff.1 (by show (heldR D z).length = 0; omega)
theorem pr_held {D : DkV} {y z : Int} (hy : 0 ≤ y ∧ y < 3) (h : y ≠ z) (b : List Int) : heldR (prD D z b).1 y = heldR D y := by
  have ha : heldR (apD D z (frB b)).1 y = heldR D y := (ap_held hy (frB b)).resolve_right (fun e => h e.1)
  unfold prD
  split
  · rfl
  split
  · rw [sy_held hy, ha]
  · exact ha
theorem pr_held_ok {D : DkV} {z : Int} (hz : 0 ≤ z ∧ z < 3) {b : List Int} (h : (prD D z b).2 = 0) : heldR (prD D z b).1 z = heldR D z ++ frB b := by
  unfold prD at h ⊢
  split
  · rename_i h0
    rw [if_pos h0] at h
    exact absurd h (show ¬ (1 : Int) = 0 by decide)
  rename_i h0
  rw [if_neg h0] at h
  by_cases h1 : (apD D z (frB b)).2 = 0
  · rw [if_pos h1, sy_held hz]
    exact ap_held_ok h1
  · rw [if_neg h1] at h
    exact absurd h h1

/-! ### What the current file has -/
/-- What a file holds; no file holds nothing. -/
def readR (D : DkV) (z : Int) : List Int := if 0 ≤ z then heldR D z else []
theorem read_by {D : DkV} (h : D.By) (z : Int) : ∀ y ∈ readR D z, isByte y := by
  unfold readR
  split
  · exact (h.f _).held
  · exact fun _ h => absurd h (List.not_mem_nil)
theorem read_len {D : DkV} {T : Nat} (hO : D.Ok T) (z : Int) : (readR D z).length ≤ 65536 := by
  unfold readR
  split
  · exact Nat.le_trans (FlV.held_le _) (hO.f _).need
  · exact Nat.zero_le _
/-- What a file has: nothing, where its turn is 0. -/
def hasF (D : DkV) (z : Int) : Int × List Int := if 0 < (ldF (readR D z)).1 then ldF (readR D z) else (0, [])
theorem one_len (X : List Int) : (oneF X).1.length ≤ 65536 := by
  by_cases h : (oneF X).2.2 = 0
  · exact (oneF_ok h).2.2.1
  · rw [(oneF_bad h).1]; exact Nat.zero_le _
theorem has_of {D : DkV} {z : Int} {t : Int} {x : List Int} (ht : hasF D z = (t, x)) {BD : List Int} (hb : (oneF (readR D z)).1 = BD) (hr : ∀ y ∈ BD, isByte y) :
    (BD.length < 8 ∧ t = 0 ∧ x = []) ∨ (8 ≤ BD.length ∧ be (BD.take 8) = 0 ∧ t = 0 ∧ x = []) ∨ (8 ≤ BD.length ∧ 0 < be (BD.take 8) ∧ t = be (BD.take 8) ∧ x = BD.drop 8) := by
  unfold hasF at ht
  by_cases h8 : BD.length < 8
  · have h0 : ldF (readR D z) = (0, []) := by unfold ldF; rw [hb, if_pos (.inr h8)]
    rw [h0, if_neg (show ¬ (0 : Int) < 0 by decide)] at ht
    injection ht with e1 e2
    exact .inl ⟨h8, e1.symm, e2.symm⟩
  have hE : (oneF (readR D z)).2.2 = 0 := by
    by_cases h : (oneF (readR D z)).2.2 = 0
    · exact h
    · have h1 := (oneF_bad h).1
      rw [hb] at h1
      rw [h1] at h8
      exact absurd (show ([] : List Int).length < 8 by decide) h8
  have h0 : ldF (readR D z) = (be (BD.take 8), BD.drop 8) := by unfold ldF; rw [hb, if_neg (by omega)]
  have h1 := (be_range (BD.take 8) 8 (by rw [List.length_take]; omega) (fun y hy => hr y (List.mem_of_mem_take hy))).1
  rw [h0] at ht
  by_cases hp : 0 < be (BD.take 8)
  · rw [if_pos hp] at ht
    injection ht with e1 e2
    exact .inr (.inr ⟨by omega, hp, e1.symm, e2.symm⟩)
  · rw [if_neg hp] at ht
    injection ht with e1 e2
    exact .inr (.inl ⟨by omega, by omega, e1.symm, e2.symm⟩)
theorem has_turn {D : DkV} (hD : D.By) {z : Int} (hz : 0 ≤ z) : (hasF D z).1 = (ldF (heldR D z)).1 := by
  have h := (ldF_ok (b := heldR D z) (hD.f _).held).1
  unfold hasF readR
  rw [if_pos hz]
  by_cases hp : 0 < (ldF (heldR D z)).1
  · rw [if_pos hp]
  · rw [if_neg hp]
    show (0 : Int) = _
    omega
theorem has_range {D : DkV} (hD : D.By) (z : Int) : 0 ≤ (hasF D z).1 ∧ (hasF D z).1 < 18446744073709551616 := by
  have h := ldF_ok (b := readR D z) (read_by hD z)
  unfold hasF
  split
  · exact ⟨h.1, h.2.1⟩
  · exact ⟨Int.le_refl 0, show (0 : Int) < 18446744073709551616 by decide⟩
/-- What the slots say is what the current file has. -/
def Cur (D : DkV) (s : SlV) : Prop := 0 < s.turn → ldF (heldR D s.now) = (s.turn, s.body)
theorem SlV.Ok.now3 {s : SlV} (h : s.Ok) : s.now = -1 ∨ (0 ≤ s.now ∧ s.now < 3) := by
  have h1 := h.n
  have h2 := h.a
  have h3 := h.b
  omega
theorem SlV.Ok.cur {s : SlV} (h : s.Ok) (hp : 0 < s.turn) : 0 ≤ s.now ∧ s.now < 3 ∧ s.now ≠ s.to := by
  have h1 := h.n
  have h2 := h.a
  have h3 := h.b
  have h4 := h.ab
  unfold SlV.to
  split <;> omega
theorem has_cur {D : DkV} {s : SlV} (h : s.Ok) (hc : Cur D s) : hasF D s.now = (s.turn, s.body) := by
  by_cases hp : 0 < s.turn
  · have h1 := hc hp
    unfold hasF readR
    rw [if_pos (h.cur hp).1, h1, if_pos hp]
  · rcases h.n with ⟨h1, h2, h3⟩ | ⟨h1, _⟩
    · have e : readR D s.now = [] := by rw [h2]; rfl
      unfold hasF
      rw [e, ldF_nil, if_neg (by decide), h1, h3]
    · exact absurd h1 hp
theorem op_now {D : DkV} {a b : Int} {t u : Int} (ha : (ldF (heldR D a)).1 = t) (hb : (ldF (heldR D b)).1 = u) : (opS D a b).now = if t < u then b else if 0 < t then a else -1 := by
  subst ha; subst hb
  unfold opS
  split
  · rfl
  · split <;> rfl
theorem op_cur {D : DkV} {a b : Int} : Cur D (opS D a b) := by
  unfold opS
  split
  · exact fun _ => rfl
  · split
    · exact fun _ => rfl
    · intro hp
      exact absurd hp (show ¬ (0 : Int) < 0 by decide)
theorem Cur.moved {D D' : DkV} {s : SlV} (hc : Cur D s) (hs : s.Ok) (h : ∀ y, 0 ≤ y ∧ y < 3 → y = s.now → heldR D' y = heldR D y) : Cur D' s := by
  intro hp
  obtain ⟨h1, h2, _⟩ := hs.cur hp
  rw [h _ ⟨h1, h2⟩ rfl]
  exact hc hp
theorem ap_cur {D : DkV} {s : SlV} (hc : Cur D s) (hs : s.Ok) (z : Int) (b : List Int) : Cur (apD D z b).1 s := by
  intro hp
  obtain ⟨h1, h2, _⟩ := hs.cur hp
  have h := hc hp
  rcases ap_held (D := D) (z := z) ⟨h1, h2⟩ b with e | ⟨_, e⟩
  · rw [e]; exact h
  · rw [e, ldF_more (by rw [h]; exact hp), h]
theorem sy_cur {D : DkV} {s : SlV} (hc : Cur D s) (hs : s.Ok) (z : Int) : Cur (syD D z).1 s := hc.moved hs (fun _ hy _ => sy_held hy)
theorem arm_cur {D : DkV} {s : SlV} (hc : Cur D s) (n : Int) : Cur (armD D n) s := hc
theorem cl_cur {D : DkV} {s : SlV} (hc : Cur D s) (hs : s.Ok) : Cur (clS D s.to).1 s := by
  intro hp
  obtain ⟨h1, h2, h3⟩ := hs.cur hp
  rw [cl_held ⟨h1, h2⟩ h3]
  exact hc hp
theorem pr_cur {D : DkV} {s : SlV} (hc : Cur D s) (hs : s.Ok) (b : List Int) : Cur (prD D s.to b).1 s := by
  intro hp
  obtain ⟨h1, h2, h3⟩ := hs.cur hp
  rw [pr_held ⟨h1, h2⟩ h3]
  exact hc hp
theorem pt_cur {D : DkV} {s : SlV} (hc : Cur D s) (hs : s.Ok) (x : List Int) : Cur (ptS D s x).1 (ptS D s x).2.1 := by
  have ht := hs.to
  unfold ptS
  split
  · exact hc
  rename_i h0
  split
  · exact cl_cur hc hs
  rename_i h1
  split
  · exact pr_cur (cl_cur hc hs) hs _
  rename_i h2
  intro _
  have h1 : (clS D s.to).2 = 0 := by omega
  have h2 : (prD (clS D s.to).1 s.to (s.next x)).2 = 0 := by omega
  have ht3 := hs.t
  show ldF (heldR (prD (clS D s.to).1 s.to (s.next x)).1 s.to) = (s.turn + 1, x)
  rw [pr_held_ok ht h2, cl_held_ok ht h1, List.nil_append]
  have h := ldF_put (t := s.turn + 1) (x := x) (r := []) (by omega) (by omega)
  rw [List.append_nil] at h
  exact h

/-! ### Without a fuse -/
/-- A disk without a fuse, with room for three files of M bytes, of which none needs more. -/
structure Nf (M : Nat) (D : DkV) : Prop where
  f : D.fuse = 0
  d : D.down = false
  r : 3 * (M : Int) ≤ D.room
  n0 : D.f0.need ≤ M
  n1 : D.f1.need ≤ M
  n2 : D.f2.need ≤ M
theorem Nf.n {M : Nat} {D : DkV} (h : Nf M D) (i : Nat) : (D.f i).need ≤ M := by
  unfold DkV.f
  split
  · exact h.n0
  · split
    · exact h.n1
    · exact h.n2
theorem Nf.set {M : Nat} {D : DkV} (h : Nf M D) (i : Nat) {v : FlV} (hv : v.need ≤ M) : Nf M (D.set i v) := by
  unfold DkV.set
  split
  · exact ⟨h.f, h.d, h.r, hv, h.n1, h.n2⟩
  · split
    · exact ⟨h.f, h.d, h.r, h.n0, hv, h.n2⟩
    · exact ⟨h.f, h.d, h.r, h.n0, h.n1, hv⟩
theorem Nf.used {M : Nat} {D : DkV} (h : Nf M D) : (D.used : Int) ≤ D.room := by
  have h0 := h.n0
  have h1 := h.n1
  have h2 := h.n2
  have h3 := h.r
  unfold DkV.used
  omega
theorem sy_nf {M : Nat} {D : DkV} (h : Nf M D) {z : Int} (hz : 0 ≤ z ∧ z < 3) : ∃ D', syD D z = (D', 0) ∧ Nf M D' := by
  refine ⟨_, syD_none h.f h.d hz, h.set _ ?_⟩
  show (heldR D z).length ≤ M
  exact Nat.le_trans (FlV.held_le _) (h.n _)
theorem ct_nf {M : Nat} {D : DkV} (h : Nf M D) {z : Int} (hz : 0 ≤ z ∧ z < 3) : ∃ D', ctD D z 0 = (D', 0) ∧ Nf M D' := by
  refine ⟨_, ctD_none h.f h.d hz (Int.le_refl 0) (Int.natCast_nonneg _), h.set _ ?_⟩
  have h1 := h.n z.toNat
  have h2 := cut_len (0 : Int).toNat (D.f z.toNat).held
  have h3 := FlV.held_le (D.f z.toNat)
  rw [FlV.step_need]
  omega
theorem cl_nf {M : Nat} {D : DkV} (h : Nf M D) {z : Int} (hz : 0 ≤ z ∧ z < 3) : ∃ D', clS D z = (D', 0) ∧ Nf M D' ∧ heldR D' z = [] := by
  have key : ∃ D', clS D z = (D', 0) ∧ Nf M D' := by
    unfold clS
    split
    · obtain ⟨D1, e1, n1⟩ := ct_nf h hz
      obtain ⟨D2, e2, n2⟩ := sy_nf n1 hz
      unfold keD
      rw [e1]
      dsimp only
      rw [if_pos rfl, e2]
      exact ⟨D2, rfl, n2⟩
    · exact ⟨D, rfl, h⟩
  obtain ⟨D', e, n⟩ := key
  have hh := cl_held_ok (D := D) hz (by rw [e])
  rw [e] at hh
  exact ⟨D', e, n, hh⟩
theorem ap_nf {M : Nat} {D : DkV} (h : Nf M D) {z : Int} (hz : 0 ≤ z ∧ z < 3) (h0 : heldR D z = []) {b : List Int} (hb : b.length ≤ M) : ∃ D', apD D z b = (D', 0) ∧ Nf M D' := by
  have hv : ((D.f z.toNat).step (.put b)).need ≤ M := by
    have h1 := h.n z.toNat
    have h2 := put_len b (D.f z.toNat).held
    have h3 : (D.f z.toNat).held.length = 0 := by
      have : (heldR D z).length = 0 := by rw [h0]; rfl
      exact this
    rw [FlV.step_need]
    omega
  have hn := h.set z.toNat hv
  have hh := DkV.set_head D z.toNat ((D.f z.toNat).step (.put b))
  have hu := hn.used
  rw [hh.1] at hu
  refine ⟨_, ?_, hn⟩
  unfold apD
  rw [if_neg (by unfold noFile; omega), if_neg (by rw [h.d]; decide), if_neg (by omega), burn_none hn.f]
  unfold DkV.ans
  rw [if_neg (by rw [hn.d]; decide)]
theorem pr_nf {M : Nat} {D : DkV} (h : Nf M D) {z : Int} (hz : 0 ≤ z ∧ z < 3) (h0 : heldR D z = []) {b : List Int} (h1 : 1 ≤ b.length) (hb : 8 + b.length ≤ M) (hm : b.length ≤ 65536) : ∃ D', prD D z b = (D', 0) ∧ Nf M D' := by
  obtain ⟨D1, e1, n1⟩ := ap_nf h hz h0 (b := frB b) (by rw [frB_len]; omega)
  obtain ⟨D2, e2, n2⟩ := sy_nf n1 hz
  unfold prD
  rw [if_neg (by omega), e1]
  dsimp only
  rw [if_pos rfl, e2]
  exact ⟨D2, rfl, n2⟩
theorem pt_nf {M : Nat} {D : DkV} {s : SlV} (h : Nf M D) (hs : s.Ok) {x : List Int} (hx : 16 + x.length ≤ M) (hx2 : x.length ≤ 65528) (ht : s.turn + 1 ≠ 18446744073709551616) :
    ∃ D', ptS D s x = (D', { s with now := s.to, turn := s.turn + 1, body := x }, 0) ∧ Nf M D' := by
  obtain ⟨D1, e1, n1, h1⟩ := cl_nf h hs.to
  have hl := next_len s x
  obtain ⟨D2, e2, n2⟩ := pr_nf n1 hs.to h1 (b := s.next x) (by omega) (by omega) (by omega)
  unfold ptS
  rw [if_neg (by omega), e1]
  dsimp only
  rw [if_neg (by decide), e2]
  dsimp only
  rw [if_neg (by decide)]
  exact ⟨D2, rfl, n2⟩
end Go.Proofs.YtcohbhimhacedaaDoor

/-
  The law DiskNil: what a nil disk, and one that no call made, answers. New memory alone is written. No conditions.
-/
namespace Go.Proofs.YtcohbhimhacedaaDoor
open Go.RowKit

/-- A disk that no call made. -/
def Dead (w : World) (p : Option Addr) : Prop := p = none ∨ ∃ g, p = some ⟨g, 0, none⟩ ∧ w.cell? ⟨g, 0, none⟩ = some (.int .i64 0)
theorem Dead.keep {w w' : World} {p : Option Addr} (h : Dead w p) (hb : Below w.heap.size w w') : Dead w' p := by
  rcases h with h | ⟨g, h, hc⟩
  · exact .inl h
  · exact .inr ⟨g, h, by rw [hb.cell (World.block_lt_of_cell? w _ hc)]; exact hc⟩

set_option maxRecDepth 100000 in
set_option maxHeartbeats 1000000 in
theorem nMade {w : World} {p : Option Addr} (h : Dead w p) :
    Calls Tryd.prog 24 #[.pointer p] w fun q w' => q = .returned (.bool false) ∧ w = w' := by
  rcases h with rfl | ⟨g, rfl, hc⟩
  · go_enter Tryd.func24, Tryd.ntmps24
    go_wp2
    go_ret
    exact ⟨rfl, rfl⟩
  · go_enter Tryd.func24, Tryd.ntmps24
    go_wp2
    go_ret
    exact ⟨rfl, rfl⟩

set_option maxRecDepth 100000 in
set_option maxHeartbeats 1000000 in
theorem nFind {w : World} {p : Option Addr} (h : Dead w p) (i : Int) :
    Calls Tryd.prog 31 #[.pointer p, .int .i64 i] w fun q w' => q = .returned (.tuple #[.pointer none, .int .i64 7]) ∧ w = w' := by
  have hM := nMade h
  clear h
  go_enter Tryd.func31, Tryd.ntmps31
  go_wp2_with fail
  refine hM.mono ?_
  rintro q w1 ⟨rfl, rfl⟩
  go_wp2
  go_ret2
  exact ⟨rfl, rfl⟩

set_option maxRecDepth 100000 in
set_option maxHeartbeats 1000000 in
theorem nAppend {w : World} {p : Option Addr} (h : Dead w p) (i : Int) (a : Option Addr) (n c : Nat) :
    Calls Tryd.prog 14 #[.pointer p, .int .i64 i, .slice a n c] w fun q w' => q = .returned (.int .i64 7) ∧ w = w' := by
  have hM := nFind h i
  clear h
  go_enter Tryd.func14, Tryd.ntmps14
  go_wp2_with fail
  refine hM.mono ?_
  rintro q w1 ⟨rfl, rfl⟩
  go_wp2
  go_ret
  exact ⟨rfl, rfl⟩

set_option maxRecDepth 100000 in
set_option maxHeartbeats 1000000 in
theorem nCut {w : World} {p : Option Addr} (h : Dead w p) (i k : Int) :
    Calls Tryd.prog 46 #[.pointer p, .int .i64 i, .int .i64 k] w fun q w' => q = .returned (.int .i64 7) ∧ w = w' := by
  have hM := nFind h i
  clear h
  go_enter Tryd.func46, Tryd.ntmps46
  go_wp2_with fail
  refine hM.mono ?_
  rintro q w1 ⟨rfl, rfl⟩
  go_wp2
  go_ret
  exact ⟨rfl, rfl⟩

set_option maxRecDepth 100000 in
set_option maxHeartbeats 1000000 in
theorem nSync {w : World} {p : Option Addr} (h : Dead w p) (i : Int) :
    Calls Tryd.prog 47 #[.pointer p, .int .i64 i] w fun q w' => q = .returned (.int .i64 7) ∧ w = w' := by
  have hM := nFind h i
  clear h
  go_enter Tryd.func47, Tryd.ntmps47
  go_wp2_with fail
  refine hM.mono ?_
  rintro q w1 ⟨rfl, rfl⟩
  go_wp2
  go_ret
  exact ⟨rfl, rfl⟩

set_option maxRecDepth 100000 in
set_option maxHeartbeats 1000000 in
theorem nUsed {w : World} {p : Option Addr} (h : Dead w p) :
    Calls Tryd.prog 54 #[.pointer p] w fun q w' => q = .returned (.int .i64 0) ∧ w = w' := by
  have hM := nMade h
  clear h
  go_enter Tryd.func54, Tryd.ntmps54
  go_wp2_with fail
  refine hM.mono ?_
  rintro q w1 ⟨rfl, rfl⟩
  go_wp2
  go_ret
  exact ⟨rfl, rfl⟩

set_option maxRecDepth 100000 in
set_option maxHeartbeats 1000000 in
theorem nRoom {w : World} {p : Option Addr} (h : Dead w p) :
    Calls Tryd.prog 19 #[.pointer p] w fun q w' => q = .returned (.int .i64 0) ∧ w = w' := by
  have hM := nMade h
  clear h
  go_enter Tryd.func19, Tryd.ntmps19
  go_wp2_with fail
  refine hM.mono ?_
  rintro q w1 ⟨rfl, rfl⟩
  go_wp2
  go_ret
  exact ⟨rfl, rfl⟩

set_option maxRecDepth 100000 in
set_option maxHeartbeats 1000000 in
theorem nDown {w : World} {p : Option Addr} (h : Dead w p) :
    Calls Tryd.prog 21 #[.pointer p] w fun q w' => q = .returned (.bool true) ∧ w = w' := by
  have hM := nMade h
  clear h
  go_enter Tryd.func21, Tryd.ntmps21
  go_wp2_with fail
  refine hM.mono ?_
  rintro q w1 ⟨rfl, rfl⟩
  go_wp2
  go_ret
  exact ⟨rfl, rfl⟩

set_option maxRecDepth 100000 in
set_option maxHeartbeats 1000000 in
theorem nArm {w : World} {p : Option Addr} (h : Dead w p) (n : Int) :
    Calls Tryd.prog 10 #[.pointer p, .int .i64 n] w fun q w' => q = .returned (.tuple #[]) ∧ w = w' := by
  have hM := nMade h
  clear h
  go_enter Tryd.func10, Tryd.ntmps10
  go_wp2_with fail
  refine hM.mono ?_
  rintro q w1 ⟨rfl, rfl⟩
  go_wp2
  (try simp only [Exit.inBlock, Exit.then])
  first
    | go_end0
    | refine bodyPost_ret (results_none rfl _ _ _) rfl ?_
  first
    | exact ⟨rfl, rfl⟩
    | rfl

set_option maxRecDepth 100000 in
set_option maxHeartbeats 1000000 in
theorem nCrash {w : World} {p : Option Addr} (h : Dead w p) (a : Option Addr) (n c : Nat) :
    Calls Tryd.prog 12 #[.pointer p, .slice a n c] w fun q w' => q = .returned (.tuple #[]) ∧ w = w' := by
  have hM := nMade h
  clear h
  go_enter Tryd.func12, Tryd.ntmps12
  go_wp2_with fail
  refine hM.mono ?_
  rintro q w1 ⟨rfl, rfl⟩
  go_wp2
  (try simp only [Exit.inBlock, Exit.then])
  first
    | go_end0
    | refine bodyPost_ret (results_none rfl _ _ _) rfl ?_
  first
    | exact ⟨rfl, rfl⟩
    | rfl

set_option maxRecDepth 100000 in
set_option maxHeartbeats 1000000 in
theorem nLook {w : World} {p : Option Addr} (h : Dead w p) (i : Int) :
    Calls Tryd.prog 61 #[.pointer p, .int .i64 i] w fun q w' => q = .returned (.agg flZ.toArray) ∧ Below w.heap.size w w' := by
  obtain ⟨zs, hzs⟩ : ∃ zs, flZ = zs := ⟨_, rfl⟩
  have hz := zeroFl
  have hbt := built_fl0
  have h1 := flZ_one
  have hl : flZ.length = 5 := rfl
  rw [hzs] at hz hbt h1 hl ⊢
  have hZ := Blk.new w 54 zs
  have hB := below1 w (.cells zs.toArray 54)
  have hF := nFind (h.keep hB) i
  obtain ⟨W, hW⟩ : ∃ W, w.alloc (.cells zs.toArray 54) = W := ⟨_, rfl⟩
  rw [hW] at hZ hB hF
  have hWH := Lib.hid hW
  have hrow : IsRow Tryd.prog 54 zs.length := by rw [hl]; exact rowFl
  clear hzs h hW
  go_enter Tryd.func61, Tryd.ntmps61
  go_wp2_with (with_reducible refine wpList_alloc_blk rfl 54 rfl hz ?_
               refine RowKit.Hid.out ?_)
  refine Lib.hid ?_
  rw [hWH.out]
  go_wp2_with fail
  refine hF.mono ?_
  rintro q w1 ⟨rfl, rfl⟩
  go_wp2_with (with_reducible refine build_row rfl 54 #[] rfl (cells := zs.toArray) ?_ ?_
               (refine Eq.trans (congrArg _ ?_) hbt; kernel_rfl)
               refine RowKit.Hid.out ?_)
  refine Lib.hid ?_
  refine store_row rfl 54 (.tmp 4) _ rfl rfl rfl hZ rowFl hl hl h1 ?_
  intro w2 hb2 hg2
  have hB2 := hB.grown hg2 hB.size (fun q hq => by injection hq with hq; rw [← hq]; exact Nat.le_refl _)
  clear hZ hg2
  go_wp2
  refine bodyPost_ret (results_blk rfl rfl hb2 hrow) rfl ?_
  exact ⟨rfl, hB2⟩

set_option maxRecDepth 100000 in
set_option maxHeartbeats 1000000 in
theorem pClone_none (w : World) : Calls Tryd.prog 34 #[.slice none 0 0] w fun q w' => q = .returned (.slice none 0 0) ∧ w = w' := by
  have heq := pNone 0
  go_enter Tryd.func34, Tryd.ntmps34
  go_wp2
  go_ret
  exact ⟨rfl, rfl⟩

set_option maxRecDepth 100000 in
set_option maxHeartbeats 1000000 in
theorem nRead {w : World} {p : Option Addr} (h : Dead w p) (i : Int) :
    Calls Tryd.prog 39 #[.pointer p, .int .i64 i] w fun q w' => q = .returned (.slice none 0 0) ∧ Below w.heap.size w w' := by
  have hL := nLook h i
  have hf : ∀ wx, (Instr.field 54 (.agg flZ.toArray) 2).run Tryd.prog wx = .ok (.slice none 0 0) wx := fun wx => by kernel_rfl
  obtain ⟨Cs, hCs⟩ : ∃ Cs, flZ.toArray = Cs := ⟨_, rfl⟩
  rw [hCs] at hf hL
  clear h hCs
  have hC := fun w' => pClone_none w'
  go_enter Tryd.func39, Tryd.ntmps39
  go_wp2_with fail
  refine hL.mono ?_
  rintro q w1 ⟨rfl, hB⟩
  go_wp2_with fail
  refine (hC w1).mono ?_
  rintro q w2 ⟨rfl, rfl⟩
  go_wp2
  go_ret
  exact ⟨rfl, hB⟩

set_option maxRecDepth 100000 in
set_option maxHeartbeats 1000000 in
theorem nSize {w : World} {p : Option Addr} (h : Dead w p) (i : Int) :
    Calls Tryd.prog 44 #[.pointer p, .int .i64 i] w fun q w' => q = .returned (.int .i64 0) ∧ Below w.heap.size w w' := by
  have hL := nLook h i
  have hf : ∀ wx, (Instr.field 54 (.agg flZ.toArray) 2).run Tryd.prog wx = .ok (.slice none 0 0) wx := fun wx => by kernel_rfl
  obtain ⟨Cs, hCs⟩ : ∃ Cs, flZ.toArray = Cs := ⟨_, rfl⟩
  rw [hCs] at hf hL
  clear h hCs
  go_enter Tryd.func44, Tryd.ntmps44
  go_wp2_with fail
  refine hL.mono ?_
  rintro q w1 ⟨rfl, hB⟩
  go_wp2
  go_ret
  exact ⟨rfl, hB⟩

set_option maxRecDepth 100000 in
set_option maxHeartbeats 1000000 in
theorem nUnits {w : World} {p : Option Addr} (h : Dead w p) (i : Int) :
    Calls Tryd.prog 45 #[.pointer p, .int .i64 i] w fun q w' => q = .returned (.int .i64 0) ∧ Below w.heap.size w w' := by
  have hL := nLook h i
  have hf : ∀ wx, (Instr.field 54 (.agg flZ.toArray) 4).run Tryd.prog wx = .ok (.int .i64 0) wx := fun wx => by kernel_rfl
  obtain ⟨Cs, hCs⟩ : ∃ Cs, flZ.toArray = Cs := ⟨_, rfl⟩
  rw [hCs] at hf hL
  clear h hCs
  go_enter Tryd.func45, Tryd.ntmps45
  go_wp2_with fail
  refine hL.mono ?_
  rintro q w1 ⟨rfl, hB⟩
  go_wp2
  go_ret
  exact ⟨rfl, hB⟩

end Go.Proofs.YtcohbhimhacedaaDoor

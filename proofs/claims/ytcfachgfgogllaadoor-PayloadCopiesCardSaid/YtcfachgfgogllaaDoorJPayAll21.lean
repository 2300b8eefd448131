/-
  Texts of stages that were proved on their own, joined: PpSame. Each begins with its own words.
-/
import Derived.Test.YtcfachgfgogllaaDoorJPayAll5
import Derived.Test.YtcfachgfgogllaaDoorJPayAll10
import Derived.Test.YtcfachgfgogllaaDoorJPayAll13

/-
  What package payload's Same comes to (by slices.EqualFunc, sameTier, bytes.Equal). New memory alone is written. Conditions: fees below 2^32, bytes below 256.
-/
namespace Go.Proofs.YtcfachgfgogllaaDoor
open Go.RowKit

set_option maxRecDepth 100000 in
set_option maxHeartbeats 400000 in
theorem ppEqual_any (a : Option Addr) (n c : Nat) (xs : List Int) (b : Option Addr) (m d : Nat) (ys : List Int) (w : World) (hI : Ints .u8 w a n c xs) (hJ : Ints .u8 w b m d ys) (hx : okB xs) (hy : okB ys) :
    Calls Tryd.prog 58 #[.slice a n c, .slice b m d] w fun q w' => q = .returned (.bool (decide (xs = ys))) ∧ w = w' := by
  have v1 := hI.string (P := Tryd.prog) 27 9 5 Tryd.underlying27 Tryd.underlying5 Tryd.underlying9
  have v2 := hJ.string (P := Tryd.prog) 27 9 5 Tryd.underlying27 Tryd.underlying5 Tryd.underlying9
  have hst := str_eq hx hy
  obtain ⟨SA, hSA⟩ : ∃ S, strOfNums xs = S := ⟨_, rfl⟩
  obtain ⟨SB, hSB⟩ : ∃ S, strOfNums ys = S := ⟨_, rfl⟩
  rw [hSA] at v1 hst
  rw [hSB] at v2 hst
  obtain ⟨F, hF⟩ : ∃ F, decide (xs = ys) = F := ⟨_, rfl⟩
  rw [hF] at hst ⊢
  clear hSA hSB hF hI hJ hx hy
  go_enter Tryd.func58, Tryd.ntmps58
  go_wp2
  go_ret
  exact ⟨by first | rfl | (rw [hst]; rfl), rfl⟩

set_option maxRecDepth 100000 in
set_option maxHeartbeats 800000 in
theorem ppSameTier_any (t u : Tier) (A : Option Addr) (d : Nat) (B : Option Addr) (e : Nat) (w : World) (hI : Ints .u8 w A t.2.length d t.2) (hJ : Ints .u8 w B u.2.length e u.2) (hr : Ranged t) (hs : Ranged u) :
    Calls Tryd.prog 41 #[.agg #[.int .u32 t.1, .slice A t.2.length d], .agg #[.int .u32 u.1, .slice B u.2.length e]] w fun q w' => q = .returned (.bool (decide (t = u))) ∧ Below w.heap.size w w' := by
  have hb := below2 w (.cells #[.int .u32 t.1, .slice A t.2.length d] 41) (.cells #[.int .u32 u.1, .slice B u.2.length e] 41)
  by_cases hf : t.1 = u.1
  · have hE := ppEqual_any A t.2.length d t.2 B u.2.length e u.2 _ (hI.keep hb) (hJ.keep hb) hr.ok hs.ok
    have hd : decide (t = u) = decide (t.2 = u.2) := decide_eq_decide.2 ⟨fun h => by rw [h], fun h => Prod.ext hf h⟩
    rw [hd, hf]
    rw [hf] at hE hb
    obtain ⟨F, hF⟩ : ∃ F, decide (t.2 = u.2) = F := ⟨_, rfl⟩
    rw [hF] at hE ⊢
    obtain ⟨L, hL⟩ : ∃ L, t.2.length = L := ⟨_, rfl⟩
    obtain ⟨M, hM⟩ : ∃ L, u.2.length = L := ⟨_, rfl⟩
    obtain ⟨f, hff⟩ : ∃ f, u.1 = f := ⟨_, rfl⟩
    rw [hL, hM, hff] at hE hb ⊢
    have hbH := Lib.hid hb
    have hEH := Lib.hid hE
    clear hb hE hI hJ hd hF hL hM hff hf hr hs
    go_enter Tryd.func41, Tryd.ntmps41
    go_wp2_with fail
    refine hEH.out.mono ?_
    rintro q w1 ⟨rfl, rfl⟩
    go_wp2
    go_ret
    exact ⟨by cases F <;> rfl, hbH.out⟩
  · have hd : decide (t = u) = false := decide_eq_false (fun h => hf (by rw [h]))
    rw [hd]
    obtain ⟨f, hff⟩ : ∃ f, t.1 = f := ⟨_, rfl⟩
    obtain ⟨g, hgg⟩ : ∃ f, u.1 = f := ⟨_, rfl⟩
    rw [hff, hgg] at hf hb ⊢
    have hfg : (f == g) = false := beq_false_of_ne hf
    have hbH := Lib.hid hb
    clear hb hI hJ hd hff hgg hf hr hs
    go_enter Tryd.func41, Tryd.ntmps41
    go_wp2
    go_ret
    exact ⟨rfl, hbH.out⟩

set_option maxRecDepth 100000 in
set_option maxHeartbeats 2000000 in
theorem ppEqFunc_any (a : Option Addr) (n c : Nat) (ts : List Tier) (a' : Option Addr) (n' c' : Nat) (us : List Tier) (w : World) (hT : TiersAt w a n c ts) (hU : TiersAt w a' n' c' us) (hr : ∀ t ∈ ts, Ranged t) (hs : ∀ t ∈ us, Ranged t) (hn : n ≤ maxLen) :
    Calls Tryd.prog 40 #[.slice a n c, .slice a' n' c', .func (.func 41) #[] #[]] w fun q w' => q = .returned (.bool (decide (ts = us))) ∧ Below w.heap.size w w' := by
  have hl := hT.1
  have hl' := hU.1
  have hnm : (n : Int) ≤ 9223372036854775807 := by unfold maxLen at hn; omega
  obtain ⟨F, hF⟩ : ∃ F, decide (ts = us) = F := ⟨_, rfl⟩
  have hFH := Lib.hid hF
  rw [hF]
  clear hF hn
  by_cases hne : n = n'
  case neg =>
    have hneb : ((n : Int) != (n' : Int)) = true := bne_iff_ne.2 (by omega)
    have hFf : F = false := by rw [← hFH.out]; exact decide_eq_false (fun e => hne (by rw [← hl, ← hl', e]))
    clear hT hU
    go_enter Tryd.func40, Tryd.ntmps40
    go_wp2
    go_ret
    exact ⟨by first | rfl | (rw [hFf]; rfl), Below.refl _ _⟩
  subst hne
  have hTU := Lib.hid (And.intro hT hU)
  clear hT hU
  go_enter Tryd.func40, Tryd.ntmps40
  go_wp2_with fail
  go_loopw [17] (fun i wr => ∃ j : Nat, j ≤ n ∧ i = .int .i64 j ∧ ts.take j = us.take j ∧ TiersAt wr a n c ts ∧ TiersAt wr a' n c' us ∧ Below w.heap.size w wr) (fun i _ => n - (intOf i).toNat)
  case atStart => exact ⟨0, Nat.zero_le _, rfl, rfl, hTU.out.1, hTU.out.2, Below.refl _ _⟩
  case round =>
    obtain ⟨j, hj, rfl, heq, hT1, hU1, hb⟩ := hrel
    by_cases hlt : j < n
    · have hji : (j : Int) < (n : Int) := by omega
      obtain ⟨b, off, t, A, d, rfl, ht, c0, c1, hI, hrg⟩ := hT1.get j hlt
      obtain ⟨b', off', u, A', d', rfl, hu, e0, e1, hJ, hsg⟩ := hU1.get j hlt
      have rt := hr t (List.mem_of_getElem? ht)
      have ru := hs u (List.mem_of_getElem? hu)
      have hFn := Lib.hid (fun (h : ¬ t = u) => (by rw [← hFH.out]; exact decide_eq_false (fun e => h (by rw [e, hu] at ht; injection ht with ht; exact ht.symm)) : F = false))
      have hstep := Lib.hid (fun (h : t = u) => take_eq_step heq ht (h ▸ hu))
      have hltH := Lib.hid hlt
      have b2 := below2 wr (.cells #[.int .u32 t.1, .slice A t.2.length d] 41) (.cells #[.int .u32 u.1, .slice A' u.2.length d'] 41)
      have hS := ppSameTier_any t u A d A' d' _ (hI.keep b2) (hJ.keep b2) rt ru
      have hB2 := hb.trans (b2.mono hb.size)
      have hT2 := hT1.keep b2
      have hU2 := hU1.keep b2
      obtain ⟨F2, hF2⟩ : ∃ F, decide (t = u) = F := ⟨_, rfl⟩
      rw [hF2] at hS
      have hF2H := Lib.hid hF2
      obtain ⟨L, hL⟩ : ∃ L, t.2.length = L := ⟨_, rfl⟩
      obtain ⟨M, hM⟩ : ∃ L, u.2.length = L := ⟨_, rfl⟩
      obtain ⟨f, hff⟩ : ∃ f, t.1 = f := ⟨_, rfl⟩
      obtain ⟨g, hgg⟩ : ∃ f, u.1 = f := ⟨_, rfl⟩
      rw [hL, hff] at hrg
      rw [hM, hgg] at hsg
      rw [hL, hM, hff, hgg] at hS hB2 hT2 hU2
      rw [hff] at c0
      rw [hgg] at e0
      rw [hL] at c1
      rw [hM] at e1
      have hSH := Lib.hid hS
      have hK := Lib.hid (And.intro hT2 (And.intro hU2 hB2))
      have er0 := (below1 wr (.cells #[.int .u32 f, .slice A L d] 41)).cell (World.block_lt_of_cell? wr _ e0)
      have er1 := (below1 wr (.cells #[.int .u32 f, .slice A L d] 41)).cell (World.block_lt_of_cell? wr _ e1)
      rw [e0] at er0
      rw [e1] at er1
      clear hlt hj heq hT1 hU1 hb hI hJ rt ru hS hB2 hT2 hU2 hL hM hff hgg hrg hsg b2 ht hu hF2
      go_wp2_with fail
      refine hSH.out.mono ?_
      rintro q w3 ⟨rfl, b3⟩
      have hT3 := hK.out.1.keep b3
      have hU3 := hK.out.2.1.keep b3
      have hB3 := hK.out.2.2.trans (b3.mono hK.out.2.2.size)
      clear hK hSH b3 c0 c1 e0 e1 er0 er1
      cases F2 with
      | true =>
        have hgo := Lib.hid (hstep.out (of_decide_eq_true hF2H.out))
        go_wp2
        exact ⟨⟨j + 1, by have := hltH.out; omega, by congr 1, hgo.out, hT3, hU3, hB3⟩, by simp only [intOf]; have := hltH.out; omega⟩
      | false =>
        have hFf := hFn.out (of_decide_eq_false hF2H.out)
        go_wp2
        go_ret
        exact ⟨by first | rfl | (rw [hFf]; rfl), hB3⟩
    · obtain rfl : n = j := by omega
      have hji : ¬ (n : Int) < (n : Int) := by omega
      rw [List.take_of_length_le (by omega), List.take_of_length_le (by omega)] at heq
      have hFt : F = true := by rw [← hFH.out]; exact decide_eq_true heq
      clear hlt hj heq
      go_wp2
      go_ret
      exact ⟨by first | rfl | (rw [hFt]; rfl), hb⟩

set_option maxRecDepth 100000 in
set_option maxHeartbeats 800000 in
theorem ppSame_any (a : Option Addr) (n c : Nat) (ts : List Tier) (a' : Option Addr) (n' c' : Nat) (us : List Tier) (w : World) (hT : TiersAt w a n c ts) (hU : TiersAt w a' n' c' us) (hr : ∀ t ∈ ts, Ranged t) (hs : ∀ t ∈ us, Ranged t) (hn : n ≤ maxLen) :
    Calls Tryd.prog 22 #[.agg #[.slice a n c], .agg #[.slice a' n' c']] w fun q w' => q = .returned (.bool (decide (ts = us))) ∧ Below w.heap.size w w' := by
  have b2 := below2 w (.cells #[.slice a n c] 24) (.cells #[.slice a' n' c'] 24)
  have hE := Lib.hid (ppEqFunc_any a n c ts a' n' c' us _ (hT.keep b2) (hU.keep b2) hr hs hn)
  have b2H := Lib.hid b2
  clear hT hU b2 hr hs hn
  go_enter Tryd.func22, Tryd.ntmps22
  go_wp2_with fail
  refine hE.out.mono ?_
  rintro q w3 ⟨rfl, b3⟩
  go_wp2
  go_ret
  exact ⟨rfl, b2H.out.trans (b3.mono b2H.out.size)⟩
end Go.Proofs.YtcfachgfgogllaaDoor

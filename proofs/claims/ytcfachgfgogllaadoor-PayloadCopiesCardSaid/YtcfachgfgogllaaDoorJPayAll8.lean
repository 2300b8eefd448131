/-
  Texts of stages that were proved on their own, joined: PpEncode. Each begins with its own words.
-/
import Derived.Test.YtcfachgfgogllaaDoorJPayAll5
import Derived.Test.YtcfachgfgogllaaDoorJPayAll7

/-
  What package payload's Encode comes to. New memory alone is written. Conditions: fees below 2^32, bytes below 256.
-/
namespace Go.Proofs.YtcfachgfgogllaaDoor
open Go.RowKit

/-- A writer of room 553 that has laid L, and no memory of before was written but its own. -/
def Wd (V : World) (F0 : Nat → Prop) (g : Nat) (w : World) (L : List Int) : Prop := ∃ F, WrAt F w g 553 L 0 ∧ Grows F0 F V ∧ Moved F0 V w
theorem Wd.start {V : World} {F0 : Nat → Prop} {g : Nat} {L : List Int} (h : WrAt F0 V g 553 L 0) : Wd V F0 g V L := ⟨F0, h, grows_self, Moved.rfl'⟩
theorem Wd.blk {V w : World} {F0 : Nat → Prop} {g k : Nat} {L : List Int} {t : TypeId} {cs : List Value} (h : Wd V F0 g w L) (hk : Blk V k t cs) (hn : ¬ F0 k) : Blk w k t cs := by
  obtain ⟨_, _, _, hm⟩ := h
  exact (hm.2 k hk.lt hn).trans hk
theorem Wd.step {V w w' : World} {F0 F F' : Nat → Prop} {g : Nat} {L : List Int} (hg : Grows F0 F V) (hm : Moved F0 V w) (hw : WrAt F' w' g 553 L 0) (hg' : Grows F F' w) (hm' : Moved F w w') : Wd V F0 g w' L := by
  refine ⟨F', hw, fun b hb => ?_, ⟨hm.1.trans hm'.1, fun b hb hf => (hm'.2 b (Nat.lt_of_lt_of_le hb hm.size) (fun hF => ?_)).trans (hm.2 b hb hf)⟩⟩
  · rcases hg' b hb with h | h
    · exact hg b h
    · exact .inr (Nat.le_trans hm.size h)
  · rcases hg b hF with h | h
    · exact hf h
    · omega
theorem wd_num {V w : World} {F0 : Nat → Prop} {g : Nat} {L : List Int} (h : Wd V F0 g w L) (N A : Int) (hf : fits N A) (hN : 0 ≤ N) (hl : (L.length : Int) + A ≤ 553) :
    Calls Tryd.prog 24 #[.pointer (some ⟨g, 0, none⟩), .int .u64 N, .int .i64 A] w fun q w' => q = .returned (.tuple #[]) ∧ Wd V F0 g w' (L ++ beL N A.toNat) := by
  obtain ⟨F, hw, hg, hm⟩ := h
  have h1 := hf.1
  refine (wNum_any hw N A (by omega) hN).mono ?_
  rintro q w' ⟨F', rfl, hw', hg', hm'⟩
  have e : wrNum 553 L 0 N A = (L ++ beL N A.toNat, 0) := by
    unfold wrNum wrStep
    rw [if_pos hf, if_neg (by simp), if_neg (by rw [beL_len]; omega)]
  rw [e] at hw'
  exact ⟨rfl, Wd.step hg hm hw' hg' hm'⟩
theorem wd_bytes {V w : World} {F0 : Nat → Prop} {g : Nat} {L : List Int} (h : Wd V F0 g w L) (b : Option Addr) (m d : Nat) (ys : List Int) (hI : Ints .u8 V b m d ys) (hb : ∀ x, b = some x → 0 < m → ¬ F0 x.block) (hl : L.length + m ≤ 553) :
    Calls Tryd.prog 25 #[.pointer (some ⟨g, 0, none⟩), .slice b m d] w fun q w' => q = .returned (.tuple #[]) ∧ Wd V F0 g w' (L ++ ys) := by
  obtain ⟨F, hw, hg, hm⟩ := h
  have hlt := hI.isIn.2
  refine (wBytes_any hw b m d ys (ints_still' hI hm hb) (fun x hx h0 hF => by
    rcases hg _ hF with h | h
    · exact hb x hx h0 h
    · have := hlt x hx h0; omega) (by omega)).mono ?_
  rintro q w' ⟨F', rfl, hw', hg', hm'⟩
  have e : wrStep 553 L 0 ys = (L ++ ys, 0) := by
    unfold wrStep
    have := hI.len
    rw [if_neg (by simp), if_neg (by omega)]
  rw [e] at hw'
  exact ⟨rfl, Wd.step hg hm hw' hg' hm'⟩
theorem beL_one (n : Nat) (h : n < 256) : beL (n : Int) 1 = [(n : Int)] := by
  show [] ++ [(n : Int) % 256] = _
  rw [List.nil_append]
  congr 1
  omega

set_option maxRecDepth 100000 in
set_option maxHeartbeats 800000 in
theorem ppEncode_bad (a : Option Addr) (n c : Nat) (ts : List Tier) (w : World) (hT : TiersAt w a n c ts) (hr : ∀ t ∈ ts, Ranged t) (hn : n ≤ maxLen) (hg : rightB ts = false) :
    Calls Tryd.prog 9 #[.agg #[.slice a n c]] w fun q w' => q = .returned (.tuple #[.slice none 0 0, .int .i64 1]) ∧ Below w.heap.size w w' := by
  have hb := below1 w (.cells #[.slice a n c] 24)
  have hR := Lib.hid (ppRight_any a n c ts _ (hT.keep hb) hr hn)
  have hbH := Lib.hid hb
  rw [hg] at hR
  clear hT hb hg
  go_enter Tryd.func9, Tryd.ntmps9
  go_wp2_with fail
  refine hR.out.mono ?_
  rintro q w2 ⟨rfl, b2⟩
  go_wp2
  go_ret2
  exact ⟨rfl, hbH.out.trans (b2.mono hbH.out.size)⟩

set_option maxRecDepth 100000 in
set_option maxHeartbeats 2000000 in
theorem ppEncode_ok (a : Option Addr) (n c : Nat) (ts : List Tier) (w : World) (hT : TiersAt w a n c ts) (hr : ∀ t ∈ ts, Ranged t) (hg : rightB ts = true) :
    Calls Tryd.prog 9 #[.agg #[.slice a n c]] w fun q w' => ∃ b d, q = .returned (.tuple #[.slice b (payB ts).length d, .int .i64 0]) ∧ Ints .u8 w' b (payB ts).length d (payB ts) ∧ Below w.heap.size w w' := by
  have hl := hT.1
  have hRL := (rightB_right ts hr).1 hg
  have hn : n ≤ 8 := by have := hRL.2.2; omega
  have h64 : ∀ t ∈ ts, t.2.length ≤ 64 := fun t ht => by
    obtain ⟨i, hi, rfl⟩ := List.mem_iff_getElem.1 ht
    have h2 := (Rises.append (ts.take i) (ts.drop i) (-1) (by rw [List.take_append_drop]; exact hRL.1)).2
    rw [List.drop_eq_getElem_cons hi] at h2
    exact h2.1.len.2
  have hb := below1 w (.cells #[.slice a n c] 24)
  have hk := Blk.new w 24 [.slice a n c]
  have hR := Lib.hid (ppRight_any a n c ts _ (hT.keep hb) hr (by unfold maxLen; omega))
  rw [hg] at hR
  have hbH := Lib.hid hb
  have hkH := Lib.hid hk
  have hTH := Lib.hid hT
  have hnH := Lib.hid hn
  have h64H := Lib.hid h64
  have hnm : (n : Int) ≤ 8 := by omega
  have hn64 : IntKind.u64.wrap (n : Int) = (n : Int) := by rw [IntKind.wrap_u64]; omega
  clear hT hb hk hg hRL hn h64
  go_enter Tryd.func9, Tryd.ntmps9
  go_wp2_with fail
  refine hR.out.mono ?_
  rintro q w2 ⟨rfl, b2⟩
  obtain ⟨G, hG⟩ : ∃ G, w.heap.size = G := ⟨_, rfl⟩
  have hk2 := hkH.out.keep b2 hkH.out.lt
  have hB2 := hbH.out.trans (b2.mono hbH.out.size)
  have hs2 : w.heap.size + 1 ≤ w2.heap.size := by have := b2.size; rw [size1] at this; exact this
  rw [hG] at hk2 ⊢
  have hGH := Lib.hid hG
  clear hR hbH hkH b2 hG
  go_wp2_with fail
  refine (wNew_any 553 w2 (by decide)).mono ?_
  rintro q w3 ⟨g, F, rfl, hw3, hF3, b3⟩
  rw [show max (553 : Int) 0 = 553 by decide] at hw3
  have hk3 := hk2.keep b3 hk2.lt
  have hB3 := hB2.trans (b3.mono hB2.size)
  have hF : ∀ b, F b → w.heap.size + 1 ≤ b := fun b hb => Nat.le_trans hs2 (hF3 b hb)
  have nG : ¬ F G := fun h => by have := hF _ h; have := hGH.out; omega
  have k0 := hk3.cell 0
  have hD := Lib.hid (Wd.start hw3)
  have hk3H := Lib.hid hk3
  clear hk2 b3 hF3 hB2 hs2 hk3 hw3
  go_wp2_with fail
  refine (wd_num hD.out (n : Int) 1 ⟨by decide, by decide, by show (n : Int) < 256; omega⟩ (by omega) (by decide)).mono ?_
  rintro q w4 ⟨rfl, hD4⟩
  rw [List.nil_append, show (1 : Int).toNat = 1 from rfl, beL_one n (by have := hnH.out; omega)] at hD4
  have hk4 := hD4.blk hk3H.out nG
  obtain ⟨F4, hw4, hg4, hm4⟩ := hD4
  have hF4 := hg4.low hF (by have := hk3H.out.lt; have := hGH.out; omega)
  have hB4 := hB3.trans (hm4.below (fun b hb => Nat.le_trans (Nat.le_succ _) (hF b hb)) hB3.size)
  have c4 := hk4.cell 0
  have hKH := Lib.hid (And.intro hw4 (And.intro hF4 (And.intro hk4 hB4)))
  clear hD hk3H hB3 hF nG k0 hg4 hm4 hw4 hF4 hk4 hB4 hn64
  go_wp2_with fail
  clear c4
  go_loopw [20] (fun i wr => ∃ (j : Nat) (F : Nat → Prop), j ≤ n ∧ i = .int .i64 j ∧ WrAt F wr g 553 ((n : Int) :: flatB (ts.take j)) 0 ∧ (∀ b, F b → w.heap.size + 1 ≤ b) ∧ Blk wr G 24 [.slice a n c] ∧ Below w.heap.size w wr) (fun i _ => n - (intOf i).toNat)
  case atStart => exact ⟨0, F4, Nat.zero_le _, rfl, hKH.out.1, hKH.out.2.1, hKH.out.2.2.1, hKH.out.2.2.2⟩
  case round =>
    clear hKH
    obtain ⟨j, F, hj, rfl, hw, hF, hk, hB⟩ := hrel
    by_cases hlt : j < n
    · have hji : (j : Int) < (n : Int) := by omega
      obtain ⟨b, off, t, A, d, rfl, ht, c0, c1, hI, hrg⟩ := hTH.out.got hB j hlt
      have rt := hr t (List.mem_of_getElem? ht)
      have hL64 := h64H.out t (List.mem_of_getElem? ht)
      have hst := flatB_step ht
      have hlen := flatB_le (ts.take j) (fun x hx => h64H.out x (List.mem_of_mem_take hx))
      rw [List.length_take] at hlen
      obtain ⟨cs, hcs⟩ : ∃ cs, (n : Int) :: flatB (ts.take j) = cs := ⟨_, rfl⟩
      have hcl : cs.length ≤ 484 := by rw [← hcs, List.length_cons]; have := hnH.out; omega
      have hst2 : (n : Int) :: flatB (ts.take (j + 1)) = cs ++ tierB t := by rw [hst, ← hcs]; rfl
      rw [hcs] at hw
      have hin := hI.isIn.2
      have b1 := below1 wr (.cells #[.int .u32 t.1, .slice A t.2.length d] 41)
      have hB2 := hB.trans (b1.mono hB.size)
      have hIV := hI.keep hB2
      have hk2 := hk.alloc (.cells #[.int .u32 t.1, .slice A t.2.length d] 41)
      have hN2 := Blk.new wr 41 [.int .u32 t.1, .slice A t.2.length d]
      have hD := Wd.start (hw.keep (fun b hb => b1.block b (hw.lt b hb)) b1.size)
      have nH : ¬ F wr.heap.size := fun h => by have := hw.lt _ h; omega
      have nG : ¬ F G := fun h => by have := hF _ h; have := hGH.out; omega
      have hnA : ∀ x, A = some x → 0 < t.2.length → ¬ F x.block := fun x hx h0 hf => by have := hin x hx h0; have := hF _ hf; omega
      have hf64 : IntKind.u64.wrap t.1 = t.1 := by have := rt.fee; rw [IntKind.wrap_u64]; omega
      have hL8 : IntKind.u64.wrap ((t.2.length : Nat) : Int) = ((t.2.length : Nat) : Int) := by rw [IntKind.wrap_u64]; omega
      have htb : tierB t = beL t.1 4 ++ ([((t.2.length : Nat) : Int)] ++ t.2) := rfl
      rw [htb] at hst2
      have hfe := rt.fee
      obtain ⟨L, hL⟩ : ∃ L, t.2.length = L := ⟨_, rfl⟩
      obtain ⟨f, hf⟩ : ∃ f, t.1 = f := ⟨_, rfl⟩
      obtain ⟨ys, hys⟩ : ∃ ys, t.2 = ys := ⟨_, rfl⟩
      rw [hL] at c1 hrg hL64 hB2 hk2 hN2 hIV hL8 hst2 hD hnA b1
      rw [hf] at c0 hrg hB2 hk2 hN2 hIV hf64 hst2 hD hfe b1
      rw [hys] at hIV hst2
      have hltH := Lib.hid hlt
      have hstH := Lib.hid hst2
      have hclH := Lib.hid hcl
      have hLH := Lib.hid hL64
      have hfH := Lib.hid hfe
      have hKH := Lib.hid (And.intro hk2 (And.intro hN2 (And.intro hIV (And.intro hB2 hF))))
      have hDH := Lib.hid hD
      have b1s := Lib.hid b1.size
      clear hlt hj hw hF hk hB hI rt hst hlen hcs hcl b1 hB2 hk2 hN2 hIV htb hL hf hys hst2 ht hL64 hD hin hfe
      go_wp2_with fail
      refine (wd_num hDH.out f 4 ⟨by decide, by decide, by show f < 4294967296; exact hfH.out.2⟩ hfH.out.1 (by have := hclH.out; omega)).mono ?_
      rintro q w5 ⟨rfl, hD5⟩
      rw [show (4 : Int).toNat = 4 from rfl] at hD5
      have c5 := (hD5.blk hKH.out.2.1 nH).cell 1
      clear c0 c1 hrg
      go_wp2_with fail
      refine (wd_num hD5 (L : Int) 1 ⟨by decide, by decide, by show (L : Int) < 256; have := hLH.out; omega⟩ (by omega) (by have := hclH.out; rw [List.length_append, beL_len]; omega)).mono ?_
      rintro q w6 ⟨rfl, hD6⟩
      rw [show (1 : Int).toNat = 1 from rfl, beL_one L (by have := hLH.out; omega)] at hD6
      have c6 := (hD6.blk hKH.out.2.1 nH).cell 1
      clear c5 hD5
      go_wp2_with fail
      refine (wd_bytes hD6 A L d ys hKH.out.2.2.1 hnA (by have := hclH.out; have := hLH.out; rw [List.length_append, List.length_append, beL_len]; simp only [List.length_cons, List.length_nil]; omega)).mono ?_
      rintro q w7 ⟨rfl, hD7⟩
      rw [List.append_assoc, List.append_assoc, ← hstH.out] at hD7
      have hk7 := hD7.blk hKH.out.1 nG
      obtain ⟨F7, hw7, hg7, hm7⟩ := hD7
      have hF7 := hg7.low hKH.out.2.2.2.2 (by have := hKH.out.1.lt; have := hGH.out; omega)
      have hB7 := hKH.out.2.2.2.1.trans (hm7.below (fun b hb => Nat.le_trans (Nat.le_succ _) (hKH.out.2.2.2.2 b hb)) hKH.out.2.2.2.1.size)
      clear c6 hD6 hDH hKH nH nG hnA hg7 hm7
      go_wp2
      exact ⟨⟨j + 1, F7, by have := hltH.out; omega, by congr 1, hw7, hF7, hk7, hB7⟩, by simp only [intOf]; have := hltH.out; omega⟩
    · obtain rfl : n = j := by omega
      have hji : ¬ (n : Int) < (n : Int) := by omega
      rw [List.take_of_length_le (by omega)] at hw
      have hpay : payB ts = (n : Int) :: flatB ts := by unfold payB; rw [hl]
      rw [← hpay] at hw
      have hpl : (payB ts).length ≤ 100000000 := by
        have := flatB_le ts h64H.out
        rw [hpay, List.length_cons]
        have := hnH.out
        omega
      have hd := wDone_any hw hpl
      rw [if_pos rfl] at hd
      have hdH := Lib.hid hd
      clear hlt hj hw hF hk hpay hpl hd
      go_wp2_with fail
      refine hdH.out.mono ?_
      rintro q w8 ⟨b, d, rfl, ho, b8⟩
      obtain ⟨b', d', hv, hI⟩ := Ints.of_owns ho
      injection hv with e1 _ e2
      subst e1; subst e2
      go_wp2
      go_ret2
      exact ⟨b, d, rfl, hI, hB.trans (b8.mono hB.size)⟩
theorem ppEncode_any (a : Option Addr) (n c : Nat) (ts : List Tier) (w : World) (hT : TiersAt w a n c ts) (hr : ∀ t ∈ ts, Ranged t) (hn : n ≤ maxLen) :
    Calls Tryd.prog 9 #[.agg #[.slice a n c]] w fun q w' => ∃ b d, q = .returned (.tuple #[.slice b (encL ts).1.length d, .int .i64 (encL ts).2]) ∧ Ints .u8 w' b (encL ts).1.length d (encL ts).1 ∧ Below w.heap.size w w' := by
  unfold encL
  by_cases hg : rightB ts = true
  · rw [if_pos hg]
    exact ppEncode_ok a n c ts w hT hr hg
  · rw [if_neg hg]
    refine (ppEncode_bad a n c ts w hT hr hn (by simpa using hg)).mono ?_
    rintro q w' ⟨rfl, hb⟩
    exact ⟨none, 0, rfl, ⟨rfl, Nat.le_refl _, .inl rfl⟩, hb⟩
end Go.Proofs.YtcfachgfgogllaaDoor

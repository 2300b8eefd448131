/-
  Texts of stages that were proved on their own, joined: PayLawR, PayLwR, PayLawB, PayLwB. Each begins with its own words.
-/
import Derived.Test.YtcfachgfgogllaaDoorJPayAll11
import Derived.Test.YtcfachgfgogllaaDoorJPayAll12
import Derived.Test.YtcfachgfgogllaaDoorJPayAll13
import Derived.Test.YtcfachgfgogllaaDoorJPayAll17

/-
  The law PayloadReads, by what the program's payloads and the document's own come to. New memory alone is written. Conditions: sha's package variables hold the constants and the starts; bytes below 256.
-/
namespace Go.Proofs.YtcfachgfgogllaaDoor
open Go.RowKit

theorem decT_none : ∀ (k : Nat) (f : Int) (b : List Int), (decT k f b).2 ≠ 0 → (decT k f b).1 = []
  | 0, f, b, _ => by unfold decT; split <;> rfl
  | k + 1, f, b, h => by
    rw [decT] at h ⊢
    split
    · rfl
    split
    · rfl
    split
    · rfl
    split
    · rfl
    split
    · rfl
    · rename_i h1 h2 h3 h4 h5
      rw [if_neg h1, if_neg h2, if_neg h3, if_neg h4, if_neg h5] at h
      unfold consR at h ⊢
      split
      · rename_i h0
        rw [if_pos h0] at h
        exact absurd rfl h
      · rfl
theorem decP_none {b : List Int} (h : (decP b).2 ≠ 0) : (decP b).1 = [] := by
  unfold decP at h ⊢
  split
  · rfl
  split
  · rfl
  · rename_i h1 h2
    rw [if_neg h1, if_neg h2] at h
    exact decT_none _ _ _ h
theorem Rises.ranged : ∀ (ts : List Tier) (f : Int), Rises f ts → ∀ t ∈ ts, Ranged t
  | [], _, _, t, h => by cases h
  | x :: r, f, h, t, ht => by
    rcases List.mem_cons.1 ht with rfl | ht
    · exact ⟨h.1.fee, h.1.ok⟩
    · exact Rises.ranged r x.1 h.2.2 t ht
theorem decP_cases {b : List Int} (hr : ∀ x ∈ b, 0 ≤ x ∧ x < 256) : (∃ e, e ≠ 0 ∧ decP b = ([], e)) ∨ (∃ ts, decP b = (ts, 0) ∧ payB ts = b ∧ RightL ts ∧ rightB ts = true ∧ ∀ t ∈ ts, Ranged t) := by
  obtain ⟨ts, hts⟩ : ∃ ts, (decP b).1 = ts := ⟨_, rfl⟩
  by_cases h : (decP b).2 = 0
  · have hd : decP b = (ts, 0) := by rw [← hts, ← h]
    obtain ⟨h1, h2⟩ := decP_ok hr hd
    have h3 := Rises.ranged ts (-1) h2.1
    exact .inr ⟨ts, hd, h1, h2, (rightB_right ts h3).2 h2, h3⟩
  · exact .inl ⟨(decP b).2, h, by rw [← decP_none h]⟩

set_option maxRecDepth 100000 in
set_option maxHeartbeats 2000000 in
theorem payReads_any (a : Option Addr) (n c : Nat) (xs : List Int) (w : World) (hG : Glob w) (hI : Ints .u8 w a n c xs) (hr : ∀ x ∈ xs, 0 ≤ x ∧ x < 256) :
    Calls Tryd.prog 4 #[.slice a n c] w fun q w' => q = .returned (.bool true) ∧ Below w.heap.size w w' := by
  by_cases hn : 1000 < n
  · have hni : 1000 < (n : Int) := by omega
    go_enter Tryd.func4, Tryd.ntmps4
    go_wp2_with fail
    refine (alive13_any _ hG).mono ?_
    rintro q w9 ⟨rfl, b9⟩
    go_wp2
    go_ret
    exact ⟨rfl, b9⟩
  have hni : ¬ 1000 < (n : Int) := by omega
  have hl := hI.len
  have gl := Lib.hid (fun w' (h : Below w.heap.size w w') => hG.keep h (Nat.le_refl _))
  have IK := Lib.hid (fun w' (h : Below w.heap.size w w') => hI.keep h)
  have alH := Lib.hid (fun w' h => alive13_any w' (gl.out w' h))
  have pd := fun w' h => ppDecode_any a n c xs w' (IK.out w' h) hr (by omega)
  have rd := fun w' h => r13Decode_any a n c xs w' (IK.out w' h) hr (by omega)
  have cv := Lib.hid (fun (w' : World) (b : Option Addr) (k d : Nat) (zs : List Int) (h : Ints .u8 w' b k d zs) => h.string (P := Tryd.prog) 27 9 5 Tryd.underlying27 Tryd.underlying5 Tryd.underlying9)
  rcases decP_cases hr with ⟨e, he, hd⟩ | ⟨ts, hd, hp, hR, hB, hgr⟩
  · obtain ⟨ts, hts⟩ : ∃ ts : List Tier, [] = ts := ⟨_, rfl⟩
    obtain ⟨m, hm⟩ : ∃ m : Nat, 0 = m := ⟨_, rfl⟩
    have hgH := Lib.hid (show ∀ t ∈ ts, Ranged t by rw [← hts]; simp)
    have hmH := Lib.hid (show m ≤ maxLen by rw [← hm]; exact Nat.zero_le _)
    rw [hd] at pd rd
    dsimp only [List.length_nil] at pd rd
    rw [hts, hm] at pd rd
    have pdH := Lib.hid pd
    have rdH := Lib.hid rd
    have heb : (e != 0) = true := bne_iff_ne.2 he
    have hee : (e != e) = false := by simp
    have hm0 := Lib.hid hm
    clear pd rd hd hn hl hG hI hr he hts hm
    go_enter Tryd.func4, Tryd.ntmps4
    go_wp2_with fail
    refine (pdH.out w (Below.refl _ _)).mono ?_
    rintro q w1 ⟨b, d, rfl, hT, b1⟩
    have hK := Blk.new w1 24 [.slice b m d]
    have b2 := below1 w1 (.cells #[.slice b m d] 24)
    have hT2 := hT.keep b2
    have B2 := b1.trans (b2.mono b1.size)
    clear hT b2 b1
    go_wp2_with fail
    obtain ⟨G, hGe⟩ : ∃ G, w1.heap.size = G := ⟨_, rfl⟩
    obtain ⟨W2, hW2⟩ : ∃ W, w1.alloc (.cells #[.slice b m d] 24) = W := ⟨_, rfl⟩
    rw [hGe, hW2]
    rw [hGe, hW2] at hK
    rw [hW2] at hT2 B2
    clear hGe hW2
    refine (rdH.out W2 B2).mono ?_
    rintro q w3 ⟨b', d', rfl, hT', b3⟩
    have hK3 := hK.keep b3 hK.lt
    have hT3 := hT2.keep b3
    have B3 := B2.trans (b3.mono B2.size)
    have hL := Blk.new w3 24 [.slice b' m d']
    have b4 := below1 w3 (.cells #[.slice b' m d'] 24)
    have hK4 := hK3.keep b4 hK3.lt
    have hT4 := hT3.keep b4
    have hT4' := hT'.keep b4
    have B4 := B3.trans (b4.mono B3.size)
    have k4 := hK4.cell 0
    have l4 := hL.cell 0
    have sm0 := r13Same_any b m d ts b' m d' ts _ hT4 hT4' hgH.out hgH.out hmH.out
    rw [decide_eq_true (rfl : ts = ts)] at sm0
    have sm := Lib.hid sm0
    have hB4 := Lib.hid (And.intro hK4 (And.intro hT4 B4))
    clear sm0 hK hT2 B2 hT' b3 hK3 hT3 B3 hL b4 hK4 hT4 hT4' B4 pdH rdH
    go_wp2_with fail
    refine sm.out.mono ?_
    rintro q w5 ⟨rfl, b5⟩
    obtain ⟨hK4, hT4, B4⟩ := hB4.out
    have k5 := (hK4.keep b5 hK4.lt).cell 0
    have KC := Lib.hid (fun w' (h : Below w5.heap.size w5 w') => ((hK4.keep b5 hK4.lt).keep h (hK4.keep b5 hK4.lt).lt).cell 0)
    have TC := Lib.hid (fun w' (h : Below w5.heap.size w5 w') => (hT4.keep b5).keep h)
    have B5 := B4.trans (b5.mono B4.size)
    clear sm hB4 hK4 hT4 B4 b5 k4 l4
    obtain rfl := hm0.out
    go_wp2_with fail
    refine (alH.out w5 B5).mono ?_
    rintro q w9 ⟨rfl, b9⟩
    go_wp2
    go_ret
    exact ⟨rfl, B5.trans (b9.mono B5.size)⟩
  · obtain ⟨m, hm⟩ : ∃ m, ts.length = m := ⟨_, rfl⟩
    have hm8 : m ≤ 8 := by have := hR.2.2; omega
    have hgH := Lib.hid hgr
    have hmH := Lib.hid (show m ≤ maxLen by unfold maxLen; omega)
    rw [hd] at pd rd
    dsimp only at pd rd
    rw [hm] at pd rd
    have pdH := Lib.hid pd
    have rdH := Lib.hid rd
    have hel : encL ts = (xs, 0) := by unfold encL; rw [hB, hp]; rfl
    have ec := fun w' b d (h : TiersAt w' b m d ts) => ppEncode_any b m d ts w' h hgr hmH.out
    have rc := Lib.hid (fun w' b d (h : TiersAt w' b m d ts) => ppRight_any b m d ts w' h hgr hmH.out)
    rw [hel] at ec
    rw [hB] at rc
    dsimp only at ec
    rw [hl] at ec
    have ecH := Lib.hid ec
    have hee : ((0 : Int) != 0) = false := by decide
    clear pd rd hd hn hl hG hI hr hm hm8 hel hp hR hB hgr ec
    go_enter Tryd.func4, Tryd.ntmps4
    go_wp2_with fail
    refine (pdH.out w (Below.refl _ _)).mono ?_
    rintro q w1 ⟨b, d, rfl, hT, b1⟩
    have hK := Blk.new w1 24 [.slice b m d]
    have b2 := below1 w1 (.cells #[.slice b m d] 24)
    have hT2 := hT.keep b2
    have B2 := b1.trans (b2.mono b1.size)
    clear hT b2 b1
    go_wp2_with fail
    obtain ⟨G, hGe⟩ : ∃ G, w1.heap.size = G := ⟨_, rfl⟩
    obtain ⟨W2, hW2⟩ : ∃ W, w1.alloc (.cells #[.slice b m d] 24) = W := ⟨_, rfl⟩
    rw [hGe, hW2]
    rw [hGe, hW2] at hK
    rw [hW2] at hT2 B2
    clear hGe hW2
    refine (rdH.out W2 B2).mono ?_
    rintro q w3 ⟨b', d', rfl, hT', b3⟩
    have hK3 := hK.keep b3 hK.lt
    have hT3 := hT2.keep b3
    have B3 := B2.trans (b3.mono B2.size)
    have hL := Blk.new w3 24 [.slice b' m d']
    have b4 := below1 w3 (.cells #[.slice b' m d'] 24)
    have hK4 := hK3.keep b4 hK3.lt
    have hT4 := hT3.keep b4
    have hT4' := hT'.keep b4
    have B4 := B3.trans (b4.mono B3.size)
    have k4 := hK4.cell 0
    have l4 := hL.cell 0
    have sm0 := r13Same_any b m d ts b' m d' ts _ hT4 hT4' hgH.out hgH.out hmH.out
    rw [decide_eq_true (rfl : ts = ts)] at sm0
    have sm := Lib.hid sm0
    have hB4 := Lib.hid (And.intro hK4 (And.intro hT4 B4))
    clear sm0 hK hT2 B2 hT' b3 hK3 hT3 B3 hL b4 hK4 hT4 hT4' B4 pdH rdH
    go_wp2_with fail
    refine sm.out.mono ?_
    rintro q w5 ⟨rfl, b5⟩
    obtain ⟨hK4, hT4, B4⟩ := hB4.out
    have k5 := (hK4.keep b5 hK4.lt).cell 0
    have KC := Lib.hid (fun w' (h : Below w5.heap.size w5 w') => ((hK4.keep b5 hK4.lt).keep h (hK4.keep b5 hK4.lt).lt).cell 0)
    have TC := Lib.hid (fun w' (h : Below w5.heap.size w5 w') => (hT4.keep b5).keep h)
    have B5 := B4.trans (b5.mono B4.size)
    clear sm hB4 hK4 hT4 B4 b5 k4 l4
    go_wp2_with fail
    refine (ecH.out w5 b d (TC.out w5 (Below.refl _ _))).mono ?_
    rintro q w6 ⟨u, ud, rfl, hI6, b6⟩
    have k6 := KC.out w6 b6
    have B6 := B5.trans (b6.mono B5.size)
    have v1 := cv.out w6 u n ud xs hI6
    have v2 := cv.out w6 a n c xs (IK.out w6 B6)
    obtain ⟨X, hX⟩ : ∃ X, strOfNums xs = X := ⟨_, rfl⟩
    rw [hX] at v1 v2
    have rc6 := Lib.hid (rc.out w6 b d (TC.out w6 b6))
    clear hI6 hX k5 b6 B5 KC TC ecH
    go_wp2_with fail
    refine rc6.out.mono ?_
    rintro q w7 ⟨rfl, b7⟩
    have B7 := B6.trans (b7.mono B6.size)
    clear rc6 b7 B6 v1 v2 k6
    go_wp2_with fail
    refine (alH.out w7 B7).mono ?_
    rintro q w9 ⟨rfl, b9⟩
    go_wp2
    go_ret
    exact ⟨rfl, B7.trans (b9.mono B7.size)⟩
end Go.Proofs.YtcfachgfgogllaaDoor

/-
  The law PayloadReads, as its statement's frame takes it. Conditions: the rows' own.
-/
namespace Go.Proofs.YtcfachgfgogllaaDoor
open Go.RowKit

theorem law_payreads (a : Option Addr) (n c : Nat) (xs : List Int) (w : World) (hG : Glob w) (hI : Ints .u8 w a n c xs) (hr : ∀ x ∈ xs, (Lit.int .u8 x).wf = true) (_ : c ≤ maxLen) :
    Calls Tryd.prog 4 #[.slice a n c] w fun q w' => q = .returned (.bool true) ∧ Below w.heap.size w w' :=
  payReads_any a n c xs w hG hI (fun x hx => by
    have h := hr x hx
    simp [Lit.wf, IntKind.min, IntKind.max, IntKind.signed, IntKind.bits] at h
    omega)
end Go.Proofs.YtcfachgfgogllaaDoor

/-
  The law PayloadBytes, by what the program's payloads and the document's own come to. New memory alone is written. Conditions: sha's package variables hold the constants and the starts; fees below 2^32, bytes below 256.
-/
namespace Go.Proofs.YtcfachgfgogllaaDoor
open Go.RowKit

theorem run_cutTo {P : Program} (ty e : TypeId) (hu : P.underlying ty = some (.slice e)) (hs : (P.info? e).map (·.size) = some 1) (w : World) (g off m c : Nat) (k : IntKind) (h : Nat) (hc : h ≤ c) :
    (Instr.sliceAt ty (.slice (some ⟨g, off, none⟩) m c) none (some (.int k (h : Int))) none).run P w = .ok (.slice (some ⟨g, off, none⟩) h c) w := by
  have he : P.elem ty = e := by simp [Program.elem, hu]
  rw [run_sliceAt_slice w ty _ _ _ _ (by rw [he]; exact hu), run_slice_h w ty (some ⟨g, off, none⟩) m c (by rw [he]; exact hu) k h (by omega) (by omega)]
  cases hq : P.info? e with
  | none => simp [hq] at hs
  | some i =>
    have hi : i.size = 1 := by simpa [hq] using hs
    simp [he, sizeOf, typeInfo, hq, hi, sliced, Addr.add, Result.andThen]
/-- The first numbers of a slice. -/
theorem Ints.short {kd : IntKind} {w : World} {a : Option Addr} {n cap : Nat} {xs : List Int} (hi : Ints kd w a n cap xs) (h : Nat) (hn : h ≤ n) : Ints kd w a h cap (xs.take h) := by
  refine ⟨by rw [List.length_take, hi.1]; omega, Nat.le_trans hn hi.2.1, ?_⟩
  by_cases h0 : h = 0
  · exact .inl h0
  · obtain ⟨b, off, ha, hcell⟩ := hi.at (by omega)
    refine .inr ⟨b, off, ha, fun i hil => ?_⟩
    rw [hcell i (by omega), List.getD_eq_getElem?_getD, List.getD_eq_getElem?_getD, List.getElem?_take_of_lt hil]

theorem r13Same_self (a : Option Addr) (n c : Nat) (ts : List Tier) (a' : Option Addr) (c' : Nat) (w : World) (hT : TiersAt w a n c ts) (hU : TiersAt w a' n c' ts) (hr : ∀ t ∈ ts, Ranged t) (hn : n ≤ maxLen) :
    Calls Tryd.prog 14 #[.agg #[.slice a n c], .agg #[.slice a' n c']] w fun q w' => q = .returned (.bool true) ∧ Below w.heap.size w w' := by
  have h := r13Same_any a n c ts a' n c' ts w hT hU hr hr hn
  rwa [decide_eq_true (rfl : ts = ts)] at h

set_option maxRecDepth 100000 in
set_option maxHeartbeats 2000000 in
theorem payBytes_any (a : Option Addr) (n c : Nat) (ts : List Tier) (w : World) (hG : Glob w) (hT : TiersAt w a n c ts) (hr : ∀ t ∈ ts, Ranged t) (hn : n ≤ maxLen) :
    Calls Tryd.prog 3 #[.agg #[.slice a n c]] w fun q w' => q = .returned (.bool true) ∧ Below w.heap.size w w' := by
  have b0 := below1 w (.cells #[.slice a n c] 24)
  have hk0 := Blk.new w 24 [.slice a n c]
  have b0H := Lib.hid b0
  have gl := Lib.hid (fun w' (h : Below w.heap.size w w') => hG.keep h (Nat.le_refl _))
  have TK := Lib.hid (fun w' (h : Below w.heap.size w w') => hT.keep h)
  have kc := Lib.hid (fun w' (h : Below (w.alloc (.cells #[.slice a n c] 24)).heap.size (w.alloc (.cells #[.slice a n c] 24)) w') => (hk0.keep h hk0.lt).cell 0)
  have fw := r13Few_any a n c ts _ (hT.keep b0) hn
  have alH := Lib.hid (fun w' h => alive13_any w' (gl.out w' h))
  have en := fun w' h => ppEncode_any a n c ts w' (TK.out w' h) hr hn
  have re := fun w' h => r13Encode_any a n c ts w' (TK.out w' h) hr hn
  have rg := fun w' h => ppRight_any a n c ts w' (TK.out w' h) hr hn
  have rr := fun w' h => r13Right_any a n c ts w' (TK.out w' h) hr hn
  have cv := Lib.hid (fun (w' : World) (b : Option Addr) (k d : Nat) (zs : List Int) (h : Ints .u8 w' b k d zs) => h.string (P := Tryd.prog) 27 9 5 Tryd.underlying27 Tryd.underlying5 Tryd.underlying9)
  have hrH := Lib.hid hr
  cases hf : fewB ts with
  | false =>
    rw [hf] at fw
    clear en re rg rr cv TK kc hk0 b0 hT hG hr hn hf hrH
    go_enter Tryd.func3, Tryd.ntmps3
    go_wp2_with fail
    refine fw.mono ?_
    rintro q w1 ⟨rfl, b1⟩
    have B1 := b0H.out.trans (b1.mono b0H.out.size)
    clear fw b1
    go_wp2_with fail
    refine (alH.out w1 B1).mono ?_
    rintro q w2 ⟨rfl, b2⟩
    go_wp2
    go_ret
    exact ⟨rfl, B1.trans (b2.mono B1.size)⟩
  | true =>
    rw [hf] at fw
    have fw := Lib.hid fw
    cases hF : rightB ts with
    | false =>
      have he : encL ts = ([], 1) := by unfold encL; rw [hF]; rfl
      rw [he] at en re
      rw [hF] at rg rr
      dsimp only [List.length_nil] at en re
      obtain ⟨P, hP⟩ : ∃ P : List Int, [] = P := ⟨_, rfl⟩
      obtain ⟨K, hK⟩ : ∃ K : Nat, 0 = K := ⟨_, rfl⟩
      rw [hP, hK] at en re
      have enH := Lib.hid en
      have reH := Lib.hid re
      have rgH := Lib.hid rg
      have rrH := Lib.hid rr
      have hKH := Lib.hid hK
      clear en re rg rr he hF hf hk0 b0 hT hG hr hn hP hK
      go_enter Tryd.func3, Tryd.ntmps3
      go_wp2_with fail
      refine fw.out.mono ?_
      rintro q w1 ⟨rfl, b1⟩
      have B1 := b0H.out.trans (b1.mono b0H.out.size)
      have k1 := kc.out w1 b1
      clear fw
      go_wp2_with fail
      refine (enH.out w1 B1).mono ?_
      rintro q w2 ⟨b, d, rfl, hI, b2⟩
      have c2 := b1.trans (b2.mono b1.size)
      have B2 := B1.trans (b2.mono B1.size)
      have k2 := kc.out w2 c2
      clear k1 b1 B1 b2 enH
      go_wp2_with fail
      refine (reH.out w2 B2).mono ?_
      rintro q w3 ⟨b', d', rfl, hI', b3⟩
      have hI3 := hI.keep b3
      have c3 := c2.trans (b3.mono c2.size)
      have B3 := B2.trans (b3.mono B2.size)
      clear k2 c2 B2 b3 reH hI
      go_wp2_with fail
      have b4 : Below w3.heap.size w3 w3.drew := (Below.refl _ _).drew
      have KC := Lib.hid (fun w' (h : Below w3.heap.size w3 w') => kc.out w' (c3.trans (h.mono c3.size)))
      have RG := Lib.hid (fun w' (h : Below w3.heap.size w3 w') => rgH.out w' (B3.trans (h.mono B3.size)))
      have RR := Lib.hid (fun w' (h : Below w3.heap.size w3 w') => rrH.out w' (B3.trans (h.mono B3.size)))
      have v1 := Lib.hid (fun w' (h : Below w3.heap.size w3 w') => cv.out w' b K d P (hI3.keep h))
      have v2 := Lib.hid (fun w' (h : Below w3.heap.size w3 w') => cv.out w' b' K d' P (hI'.keep h))
      have B3H := Lib.hid B3
      have c3H := Lib.hid c3
      have I3H := Lib.hid hI3
      clear rgH rrH hI' B3 c3 hI3
      refine region_seqS (fun w' => Below w3.heap.size w3 w') (by kernel_rfl) b4 ?_
      simp only [pairs, Nat.reduceAdd]
      repeat (first
        | (refine SeqS.take (v := ?_) (by first | assumption | trivial) (by kernel_rfl) (by decide +kernel) (by decide +kernel) (Or.inl ⟨by rfl, ?_⟩) ?_
           rotate_left
           focus
             intro w' hb'
             go_simp
             with_reducible rfl
           simp only [Act.put, List.setIfInBounds_toArray, List.set_cons_zero, List.set_cons_succ])
        | (refine SeqS.take (v := ?_) (by first | assumption | trivial) (by kernel_rfl) (by decide +kernel) (by decide +kernel) (Or.inl ⟨by rfl, ?_⟩) ?_
           rotate_left
           focus
             intro w' hb'
             have d0 := KC.out w' hb'
             go_simp
             with_reducible rfl
           simp only [Act.put, List.setIfInBounds_toArray, List.set_cons_zero, List.set_cons_succ])
        | (refine SeqS.take (v := undef) (by first | assumption | trivial) (by kernel_rfl) (by decide +kernel) (by decide +kernel) (Or.inr ⟨by rfl, rfl⟩) ?_
           simp only [Act.put, List.setIfInBounds_toArray, List.set_cons_zero, List.set_cons_succ])
        | (refine SeqS.take1 (v := ?_) (by first | assumption | trivial) (by kernel_rfl) (by decide +kernel) (by decide +kernel) (Or.inl ⟨by rfl, ?_⟩) ?_
           rotate_left
           focus
             intro w' hb'
             go_simp
             with_reducible rfl
           simp only [Act.put, List.setIfInBounds_toArray, List.set_cons_zero, List.set_cons_succ])
        | (refine SeqS.take1 (v := ?_) (by first | assumption | trivial) (by kernel_rfl) (by decide +kernel) (by decide +kernel) (Or.inl ⟨by rfl, ?_⟩) ?_
           rotate_left
           focus
             intro w' hb'
             have d0 := KC.out w' hb'
             go_simp
             with_reducible rfl
           simp only [Act.put, List.setIfInBounds_toArray, List.set_cons_zero, List.set_cons_succ])
        | (refine SeqS.take1 (v := undef) (by first | assumption | trivial) (by kernel_rfl) (by decide +kernel) (by decide +kernel) (Or.inr ⟨by rfl, rfl⟩) ?_
           simp only [Act.put, List.setIfInBounds_toArray, List.set_cons_zero, List.set_cons_succ])
        | (refine SeqS.take2 (v := ?_) (by first | assumption | trivial) (by kernel_rfl) (by decide +kernel) (by decide +kernel) (Or.inl ⟨by rfl, ?_⟩) ?_
           rotate_left
           focus
             intro w' hb'
             go_simp
             with_reducible rfl
           simp only [Act.put, List.setIfInBounds_toArray, List.set_cons_zero, List.set_cons_succ])
        | (refine SeqS.take2 (v := ?_) (by first | assumption | trivial) (by kernel_rfl) (by decide +kernel) (by decide +kernel) (Or.inl ⟨by rfl, ?_⟩) ?_
           rotate_left
           focus
             intro w' hb'
             have d0 := KC.out w' hb'
             go_simp
             with_reducible rfl
           simp only [Act.put, List.setIfInBounds_toArray, List.set_cons_zero, List.set_cons_succ])
        | (refine SeqS.take2 (v := undef) (by first | assumption | trivial) (by kernel_rfl) (by decide +kernel) (by decide +kernel) (Or.inr ⟨by rfl, rfl⟩) ?_
           simp only [Act.put, List.setIfInBounds_toArray, List.set_cons_zero, List.set_cons_succ])
        | (refine SeqS.take3 (v := ?_) (by first | assumption | trivial) (by kernel_rfl) (by decide +kernel) (by decide +kernel) (Or.inl ⟨by rfl, ?_⟩) ?_
           rotate_left
           focus
             intro w' hb'
             go_simp
             with_reducible rfl
           simp only [Act.put, List.setIfInBounds_toArray, List.set_cons_zero, List.set_cons_succ])
        | (refine SeqS.take3 (v := ?_) (by first | assumption | trivial) (by kernel_rfl) (by decide +kernel) (by decide +kernel) (Or.inl ⟨by rfl, ?_⟩) ?_
           rotate_left
           focus
             intro w' hb'
             have d0 := KC.out w' hb'
             go_simp
             with_reducible rfl
           simp only [Act.put, List.setIfInBounds_toArray, List.set_cons_zero, List.set_cons_succ])
        | (refine SeqS.take3 (v := undef) (by first | assumption | trivial) (by kernel_rfl) (by decide +kernel) (by decide +kernel) (Or.inr ⟨by rfl, rfl⟩) ?_
           simp only [Act.put, List.setIfInBounds_toArray, List.set_cons_zero, List.set_cons_succ])
        | (refine SeqS.take4 (v := ?_) (by first | assumption | trivial) (by kernel_rfl) (by decide +kernel) (by decide +kernel) (Or.inl ⟨by rfl, ?_⟩) ?_
           rotate_left
           focus
             intro w' hb'
             go_simp
             with_reducible rfl
           simp only [Act.put, List.setIfInBounds_toArray, List.set_cons_zero, List.set_cons_succ])
        | (refine SeqS.take4 (v := ?_) (by first | assumption | trivial) (by kernel_rfl) (by decide +kernel) (by decide +kernel) (Or.inl ⟨by rfl, ?_⟩) ?_
           rotate_left
           focus
             intro w' hb'
             have d0 := KC.out w' hb'
             go_simp
             with_reducible rfl
           simp only [Act.put, List.setIfInBounds_toArray, List.set_cons_zero, List.set_cons_succ])
        | (refine SeqS.take4 (v := undef) (by first | assumption | trivial) (by kernel_rfl) (by decide +kernel) (by decide +kernel) (Or.inr ⟨by rfl, rfl⟩) ?_
           simp only [Act.put, List.setIfInBounds_toArray, List.set_cons_zero, List.set_cons_succ]))
      refine SeqS.alone (by decide +kernel) (by rfl) (fun K hK => ?_)
      go_simp
      go_at_call 11
      refine (RG.out _ b4).mono ?_
      rintro e w5 ⟨rfl, b5⟩
      go_simp
      have S5 : Below w3.heap.size w3 w5 := b4.trans (b5.mono b4.size)
      refine hK _ _ S5 ?_
      clear hK K
      refine SeqS.alone (by decide +kernel) (by rfl) (fun K hK => ?_)
      go_simp
      go_at_call 12
      refine (RR.out _ S5).mono ?_
      rintro e w6 ⟨rfl, b6⟩
      go_simp
      have S6 : Below w3.heap.size w3 w6 := S5.trans (b6.mono S5.size)
      refine hK _ _ S6 ?_
      clear hK K
      repeat (first
        | (refine SeqS.take (v := ?_) (by first | assumption | trivial) (by kernel_rfl) (by decide +kernel) (by decide +kernel) (Or.inl ⟨by rfl, ?_⟩) ?_
           rotate_left
           focus
             intro w' hb'
             go_simp
             with_reducible rfl
           simp only [Act.put, List.setIfInBounds_toArray, List.set_cons_zero, List.set_cons_succ])
        | (refine SeqS.take (v := ?_) (by first | assumption | trivial) (by kernel_rfl) (by decide +kernel) (by decide +kernel) (Or.inl ⟨by rfl, ?_⟩) ?_
           rotate_left
           focus
             intro w' hb'
             have d0 := v1.out w' hb'
             go_simp
             with_reducible rfl
           simp only [Act.put, List.setIfInBounds_toArray, List.set_cons_zero, List.set_cons_succ])
        | (refine SeqS.take (v := ?_) (by first | assumption | trivial) (by kernel_rfl) (by decide +kernel) (by decide +kernel) (Or.inl ⟨by rfl, ?_⟩) ?_
           rotate_left
           focus
             intro w' hb'
             have d0 := v2.out w' hb'
             go_simp
             with_reducible rfl
           simp only [Act.put, List.setIfInBounds_toArray, List.set_cons_zero, List.set_cons_succ])
        | (refine SeqS.take (v := undef) (by first | assumption | trivial) (by kernel_rfl) (by decide +kernel) (by decide +kernel) (Or.inr ⟨by rfl, rfl⟩) ?_
           simp only [Act.put, List.setIfInBounds_toArray, List.set_cons_zero, List.set_cons_succ])
        | (refine SeqS.take1 (v := ?_) (by first | assumption | trivial) (by kernel_rfl) (by decide +kernel) (by decide +kernel) (Or.inl ⟨by rfl, ?_⟩) ?_
           rotate_left
           focus
             intro w' hb'
             go_simp
             with_reducible rfl
           simp only [Act.put, List.setIfInBounds_toArray, List.set_cons_zero, List.set_cons_succ])
        | (refine SeqS.take1 (v := ?_) (by first | assumption | trivial) (by kernel_rfl) (by decide +kernel) (by decide +kernel) (Or.inl ⟨by rfl, ?_⟩) ?_
           rotate_left
           focus
             intro w' hb'
             have d0 := v1.out w' hb'
             go_simp
             with_reducible rfl
           simp only [Act.put, List.setIfInBounds_toArray, List.set_cons_zero, List.set_cons_succ])
        | (refine SeqS.take1 (v := ?_) (by first | assumption | trivial) (by kernel_rfl) (by decide +kernel) (by decide +kernel) (Or.inl ⟨by rfl, ?_⟩) ?_
           rotate_left
           focus
             intro w' hb'
             have d0 := v2.out w' hb'
             go_simp
             with_reducible rfl
           simp only [Act.put, List.setIfInBounds_toArray, List.set_cons_zero, List.set_cons_succ])
        | (refine SeqS.take1 (v := undef) (by first | assumption | trivial) (by kernel_rfl) (by decide +kernel) (by decide +kernel) (Or.inr ⟨by rfl, rfl⟩) ?_
           simp only [Act.put, List.setIfInBounds_toArray, List.set_cons_zero, List.set_cons_succ])
        | (refine SeqS.take2 (v := ?_) (by first | assumption | trivial) (by kernel_rfl) (by decide +kernel) (by decide +kernel) (Or.inl ⟨by rfl, ?_⟩) ?_
           rotate_left
           focus
             intro w' hb'
             go_simp
             with_reducible rfl
           simp only [Act.put, List.setIfInBounds_toArray, List.set_cons_zero, List.set_cons_succ])
        | (refine SeqS.take2 (v := ?_) (by first | assumption | trivial) (by kernel_rfl) (by decide +kernel) (by decide +kernel) (Or.inl ⟨by rfl, ?_⟩) ?_
           rotate_left
           focus
             intro w' hb'
             have d0 := v1.out w' hb'
             go_simp
             with_reducible rfl
           simp only [Act.put, List.setIfInBounds_toArray, List.set_cons_zero, List.set_cons_succ])
        | (refine SeqS.take2 (v := ?_) (by first | assumption | trivial) (by kernel_rfl) (by decide +kernel) (by decide +kernel) (Or.inl ⟨by rfl, ?_⟩) ?_
           rotate_left
           focus
             intro w' hb'
             have d0 := v2.out w' hb'
             go_simp
             with_reducible rfl
           simp only [Act.put, List.setIfInBounds_toArray, List.set_cons_zero, List.set_cons_succ])
        | (refine SeqS.take2 (v := undef) (by first | assumption | trivial) (by kernel_rfl) (by decide +kernel) (by decide +kernel) (Or.inr ⟨by rfl, rfl⟩) ?_
           simp only [Act.put, List.setIfInBounds_toArray, List.set_cons_zero, List.set_cons_succ]))
      refine SeqS.done (by decide +kernel) ?_
      have B6 := B3H.out.trans (S6.mono B3H.out.size)
      have hI6 := I3H.out.keep S6
      have k6 := KC.out w6 S6
      have c6 := c3H.out.trans (S6.mono c3H.out.size)
      clear b4 b5 b6 S5 RG RR v1 v2 KC B3H c3H I3H
      obtain rfl := hKH.out
      go_wp2_with fail
      refine (alH.out w6 B6).mono ?_
      rintro q w7 ⟨rfl, b7⟩
      go_wp2
      go_ret
      exact ⟨rfl, B6.trans (b7.mono B6.size)⟩
    | true =>
      have hRL := (rightB_right ts hr).1 hF
      have he : encL ts = (payB ts, 0) := by unfold encL; rw [hF]; rfl
      rw [he] at en re
      rw [hF] at rg rr
      dsimp only at en re
      have hpr := payB_range hRL
      have hpl := payB_len hRL
      have d1 := decP_payB hRL
      have d2 := decP_less hRL
      have d3 := decP_more hRL 0
      have hp0 : 0 < (payB ts).length := by show 0 < (flatB ts).length + 1; omega
      obtain ⟨P, hP⟩ : ∃ P : List Int, payB ts = P := ⟨_, rfl⟩
      obtain ⟨K, hK⟩ : ∃ K : Nat, P.length = K := ⟨_, rfl⟩
      rw [hP] at en re hpr hpl d1 d2 d3 hp0
      rw [hK] at en re hpl hp0
      have enH := Lib.hid en
      have reH := Lib.hid re
      have rgH := Lib.hid rg
      have rrH := Lib.hid rr
      have hKH := Lib.hid hK
      have dH := Lib.hid (And.intro hpr (And.intro hpl (And.intro d1 (And.intro d2 (And.intro d3 hp0)))))
      have hTn := Lib.hid (And.intro hT.1 hn)
      clear en re rg rr he hF hf hk0 b0 hT hG hr hn hP hK hpr hpl d1 d2 d3 hp0 hRL
      go_enter Tryd.func3, Tryd.ntmps3
      go_wp2_with fail
      refine fw.out.mono ?_
      rintro q w1 ⟨rfl, b1⟩
      have B1 := b0H.out.trans (b1.mono b0H.out.size)
      have k1 := kc.out w1 b1
      clear fw
      go_wp2_with fail
      refine (enH.out w1 B1).mono ?_
      rintro q w2 ⟨b, d, rfl, hI, b2⟩
      have c2 := b1.trans (b2.mono b1.size)
      have B2 := B1.trans (b2.mono B1.size)
      have k2 := kc.out w2 c2
      clear k1 b1 B1 b2 enH
      go_wp2_with fail
      refine (reH.out w2 B2).mono ?_
      rintro q w3 ⟨b', d', rfl, hI', b3⟩
      have hI3 := hI.keep b3
      have c3 := c2.trans (b3.mono c2.size)
      have B3 := B2.trans (b3.mono B2.size)
      clear k2 c2 B2 b3 reH hI
      go_wp2_with fail
      have b4 : Below w3.heap.size w3 w3.drew := (Below.refl _ _).drew
      have KC := Lib.hid (fun w' (h : Below w3.heap.size w3 w') => kc.out w' (c3.trans (h.mono c3.size)))
      have RG := Lib.hid (fun w' (h : Below w3.heap.size w3 w') => rgH.out w' (B3.trans (h.mono B3.size)))
      have RR := Lib.hid (fun w' (h : Below w3.heap.size w3 w') => rrH.out w' (B3.trans (h.mono B3.size)))
      have v1 := Lib.hid (fun w' (h : Below w3.heap.size w3 w') => cv.out w' b K d P (hI3.keep h))
      have v2 := Lib.hid (fun w' (h : Below w3.heap.size w3 w') => cv.out w' b' K d' P (hI'.keep h))
      have B3H := Lib.hid B3
      have c3H := Lib.hid c3
      have I3H := Lib.hid hI3
      clear rgH rrH hI' B3 c3 hI3
      refine region_seqS (fun w' => Below w3.heap.size w3 w') (by kernel_rfl) b4 ?_
      simp only [pairs, Nat.reduceAdd]
      repeat (first
        | (refine SeqS.take (v := ?_) (by first | assumption | trivial) (by kernel_rfl) (by decide +kernel) (by decide +kernel) (Or.inl ⟨by rfl, ?_⟩) ?_
           rotate_left
           focus
             intro w' hb'
             go_simp
             with_reducible rfl
           simp only [Act.put, List.setIfInBounds_toArray, List.set_cons_zero, List.set_cons_succ])
        | (refine SeqS.take (v := ?_) (by first | assumption | trivial) (by kernel_rfl) (by decide +kernel) (by decide +kernel) (Or.inl ⟨by rfl, ?_⟩) ?_
           rotate_left
           focus
             intro w' hb'
             have d0 := KC.out w' hb'
             go_simp
             with_reducible rfl
           simp only [Act.put, List.setIfInBounds_toArray, List.set_cons_zero, List.set_cons_succ])
        | (refine SeqS.take (v := undef) (by first | assumption | trivial) (by kernel_rfl) (by decide +kernel) (by decide +kernel) (Or.inr ⟨by rfl, rfl⟩) ?_
           simp only [Act.put, List.setIfInBounds_toArray, List.set_cons_zero, List.set_cons_succ])
        | (refine SeqS.take1 (v := ?_) (by first | assumption | trivial) (by kernel_rfl) (by decide +kernel) (by decide +kernel) (Or.inl ⟨by rfl, ?_⟩) ?_
           rotate_left
           focus
             intro w' hb'
             go_simp
             with_reducible rfl
           simp only [Act.put, List.setIfInBounds_toArray, List.set_cons_zero, List.set_cons_succ])
        | (refine SeqS.take1 (v := ?_) (by first | assumption | trivial) (by kernel_rfl) (by decide +kernel) (by decide +kernel) (Or.inl ⟨by rfl, ?_⟩) ?_
           rotate_left
           focus
             intro w' hb'
             have d0 := KC.out w' hb'
             go_simp
             with_reducible rfl
           simp only [Act.put, List.setIfInBounds_toArray, List.set_cons_zero, List.set_cons_succ])
        | (refine SeqS.take1 (v := undef) (by first | assumption | trivial) (by kernel_rfl) (by decide +kernel) (by decide +kernel) (Or.inr ⟨by rfl, rfl⟩) ?_
           simp only [Act.put, List.setIfInBounds_toArray, List.set_cons_zero, List.set_cons_succ])
        | (refine SeqS.take2 (v := ?_) (by first | assumption | trivial) (by kernel_rfl) (by decide +kernel) (by decide +kernel) (Or.inl ⟨by rfl, ?_⟩) ?_
           rotate_left
           focus
             intro w' hb'
             go_simp
             with_reducible rfl
           simp only [Act.put, List.setIfInBounds_toArray, List.set_cons_zero, List.set_cons_succ])
        | (refine SeqS.take2 (v := ?_) (by first | assumption | trivial) (by kernel_rfl) (by decide +kernel) (by decide +kernel) (Or.inl ⟨by rfl, ?_⟩) ?_
           rotate_left
           focus
             intro w' hb'
             have d0 := KC.out w' hb'
             go_simp
             with_reducible rfl
           simp only [Act.put, List.setIfInBounds_toArray, List.set_cons_zero, List.set_cons_succ])
        | (refine SeqS.take2 (v := undef) (by first | assumption | trivial) (by kernel_rfl) (by decide +kernel) (by decide +kernel) (Or.inr ⟨by rfl, rfl⟩) ?_
           simp only [Act.put, List.setIfInBounds_toArray, List.set_cons_zero, List.set_cons_succ])
        | (refine SeqS.take3 (v := ?_) (by first | assumption | trivial) (by kernel_rfl) (by decide +kernel) (by decide +kernel) (Or.inl ⟨by rfl, ?_⟩) ?_
           rotate_left
           focus
             intro w' hb'
             go_simp
             with_reducible rfl
           simp only [Act.put, List.setIfInBounds_toArray, List.set_cons_zero, List.set_cons_succ])
        | (refine SeqS.take3 (v := ?_) (by first | assumption | trivial) (by kernel_rfl) (by decide +kernel) (by decide +kernel) (Or.inl ⟨by rfl, ?_⟩) ?_
           rotate_left
           focus
             intro w' hb'
             have d0 := KC.out w' hb'
             go_simp
             with_reducible rfl
           simp only [Act.put, List.setIfInBounds_toArray, List.set_cons_zero, List.set_cons_succ])
        | (refine SeqS.take3 (v := undef) (by first | assumption | trivial) (by kernel_rfl) (by decide +kernel) (by decide +kernel) (Or.inr ⟨by rfl, rfl⟩) ?_
           simp only [Act.put, List.setIfInBounds_toArray, List.set_cons_zero, List.set_cons_succ])
        | (refine SeqS.take4 (v := ?_) (by first | assumption | trivial) (by kernel_rfl) (by decide +kernel) (by decide +kernel) (Or.inl ⟨by rfl, ?_⟩) ?_
           rotate_left
           focus
             intro w' hb'
             go_simp
             with_reducible rfl
           simp only [Act.put, List.setIfInBounds_toArray, List.set_cons_zero, List.set_cons_succ])
        | (refine SeqS.take4 (v := ?_) (by first | assumption | trivial) (by kernel_rfl) (by decide +kernel) (by decide +kernel) (Or.inl ⟨by rfl, ?_⟩) ?_
           rotate_left
           focus
             intro w' hb'
             have d0 := KC.out w' hb'
             go_simp
             with_reducible rfl
           simp only [Act.put, List.setIfInBounds_toArray, List.set_cons_zero, List.set_cons_succ])
        | (refine SeqS.take4 (v := undef) (by first | assumption | trivial) (by kernel_rfl) (by decide +kernel) (by decide +kernel) (Or.inr ⟨by rfl, rfl⟩) ?_
           simp only [Act.put, List.setIfInBounds_toArray, List.set_cons_zero, List.set_cons_succ]))
      refine SeqS.alone (by decide +kernel) (by rfl) (fun K hK => ?_)
      go_simp
      go_at_call 11
      refine (RG.out _ b4).mono ?_
      rintro e w5 ⟨rfl, b5⟩
      go_simp
      have S5 : Below w3.heap.size w3 w5 := b4.trans (b5.mono b4.size)
      refine hK _ _ S5 ?_
      clear hK K
      refine SeqS.alone (by decide +kernel) (by rfl) (fun K hK => ?_)
      go_simp
      go_at_call 12
      refine (RR.out _ S5).mono ?_
      rintro e w6 ⟨rfl, b6⟩
      go_simp
      have S6 : Below w3.heap.size w3 w6 := S5.trans (b6.mono S5.size)
      refine hK _ _ S6 ?_
      clear hK K
      repeat (first
        | (refine SeqS.take (v := ?_) (by first | assumption | trivial) (by kernel_rfl) (by decide +kernel) (by decide +kernel) (Or.inl ⟨by rfl, ?_⟩) ?_
           rotate_left
           focus
             intro w' hb'
             go_simp
             with_reducible rfl
           simp only [Act.put, List.setIfInBounds_toArray, List.set_cons_zero, List.set_cons_succ])
        | (refine SeqS.take (v := ?_) (by first | assumption | trivial) (by kernel_rfl) (by decide +kernel) (by decide +kernel) (Or.inl ⟨by rfl, ?_⟩) ?_
           rotate_left
           focus
             intro w' hb'
             have d0 := v1.out w' hb'
             go_simp
             with_reducible rfl
           simp only [Act.put, List.setIfInBounds_toArray, List.set_cons_zero, List.set_cons_succ])
        | (refine SeqS.take (v := ?_) (by first | assumption | trivial) (by kernel_rfl) (by decide +kernel) (by decide +kernel) (Or.inl ⟨by rfl, ?_⟩) ?_
           rotate_left
           focus
             intro w' hb'
             have d0 := v2.out w' hb'
             go_simp
             with_reducible rfl
           simp only [Act.put, List.setIfInBounds_toArray, List.set_cons_zero, List.set_cons_succ])
        | (refine SeqS.take (v := undef) (by first | assumption | trivial) (by kernel_rfl) (by decide +kernel) (by decide +kernel) (Or.inr ⟨by rfl, rfl⟩) ?_
           simp only [Act.put, List.setIfInBounds_toArray, List.set_cons_zero, List.set_cons_succ])
        | (refine SeqS.take1 (v := ?_) (by first | assumption | trivial) (by kernel_rfl) (by decide +kernel) (by decide +kernel) (Or.inl ⟨by rfl, ?_⟩) ?_
           rotate_left
           focus
             intro w' hb'
             go_simp
             with_reducible rfl
           simp only [Act.put, List.setIfInBounds_toArray, List.set_cons_zero, List.set_cons_succ])
        | (refine SeqS.take1 (v := ?_) (by first | assumption | trivial) (by kernel_rfl) (by decide +kernel) (by decide +kernel) (Or.inl ⟨by rfl, ?_⟩) ?_
           rotate_left
           focus
             intro w' hb'
             have d0 := v1.out w' hb'
             go_simp
             with_reducible rfl
           simp only [Act.put, List.setIfInBounds_toArray, List.set_cons_zero, List.set_cons_succ])
        | (refine SeqS.take1 (v := ?_) (by first | assumption | trivial) (by kernel_rfl) (by decide +kernel) (by decide +kernel) (Or.inl ⟨by rfl, ?_⟩) ?_
           rotate_left
           focus
             intro w' hb'
             have d0 := v2.out w' hb'
             go_simp
             with_reducible rfl
           simp only [Act.put, List.setIfInBounds_toArray, List.set_cons_zero, List.set_cons_succ])
        | (refine SeqS.take1 (v := undef) (by first | assumption | trivial) (by kernel_rfl) (by decide +kernel) (by decide +kernel) (Or.inr ⟨by rfl, rfl⟩) ?_
           simp only [Act.put, List.setIfInBounds_toArray, List.set_cons_zero, List.set_cons_succ])
        | (refine SeqS.take2 (v := ?_) (by first | assumption | trivial) (by kernel_rfl) (by decide +kernel) (by decide +kernel) (Or.inl ⟨by rfl, ?_⟩) ?_
           rotate_left
           focus
             intro w' hb'
             go_simp
             with_reducible rfl
           simp only [Act.put, List.setIfInBounds_toArray, List.set_cons_zero, List.set_cons_succ])
        | (refine SeqS.take2 (v := ?_) (by first | assumption | trivial) (by kernel_rfl) (by decide +kernel) (by decide +kernel) (Or.inl ⟨by rfl, ?_⟩) ?_
           rotate_left
           focus
             intro w' hb'
             have d0 := v1.out w' hb'
             go_simp
             with_reducible rfl
           simp only [Act.put, List.setIfInBounds_toArray, List.set_cons_zero, List.set_cons_succ])
        | (refine SeqS.take2 (v := ?_) (by first | assumption | trivial) (by kernel_rfl) (by decide +kernel) (by decide +kernel) (Or.inl ⟨by rfl, ?_⟩) ?_
           rotate_left
           focus
             intro w' hb'
             have d0 := v2.out w' hb'
             go_simp
             with_reducible rfl
           simp only [Act.put, List.setIfInBounds_toArray, List.set_cons_zero, List.set_cons_succ])
        | (refine SeqS.take2 (v := undef) (by first | assumption | trivial) (by kernel_rfl) (by decide +kernel) (by decide +kernel) (Or.inr ⟨by rfl, rfl⟩) ?_
           simp only [Act.put, List.setIfInBounds_toArray, List.set_cons_zero, List.set_cons_succ]))
      refine SeqS.done (by decide +kernel) ?_
      have B6 := B3H.out.trans (S6.mono B3H.out.size)
      have hI6 := I3H.out.keep S6
      have k6 := KC.out w6 S6
      have c6 := c3H.out.trans (S6.mono c3H.out.size)
      clear b4 b5 b6 S5 RG RR v1 v2 KC B3H c3H I3H
      obtain ⟨hpr, hpl, d1, d2, d3, hp0⟩ := dH.out
      have hKP := hKH.out
      have pd1 := ppDecode_any b K d P w6 hI6 hpr (by omega)
      rw [d1] at pd1
      dsimp only at pd1
      obtain ⟨g, off, rfl, _⟩ := hI6.at hp0
      have hKd := hI6.2.1
      have hsl := fun wx => run_cutTo (P := Tryd.prog) 27 5 Tryd.underlying27 size8_13 wx g off K d .i64 (K - 1) (by omega)
      rw [show ((K - 1 : Nat) : Int) = (K : Int) - 1 by omega] at hsl
      have hdl : P.take (K - 1) = P.dropLast := by rw [List.dropLast_eq_take, hKP]
      have pd2 := Lib.hid (fun w' (h : Below w6.heap.size w6 w') => ppDecode_any (some ⟨g, off, none⟩) (K - 1) d P.dropLast w' (by rw [← hdl]; exact (hI6.keep h).short (K - 1) (by omega)) (fun x hx => by rw [← hdl] at hx; exact hpr x (List.mem_of_mem_take hx)) (by omega))
      have pd3 := Lib.hid (fun w' A C (h : Ints .u8 w' A (K + 1) C (P ++ [0])) => ppDecode_any A (K + 1) C (P ++ [0]) w' h (fun x hx => by
        rcases List.mem_append.1 hx with hx | hx
        · exact hpr x hx
        · obtain rfl := List.mem_singleton.1 hx
          exact ⟨by decide, by decide⟩) (by omega))
      have hd2 := d2
      have hd3 := d3
      have hK1 : 1 ≤ (K : Int) := by omega
      have hK2 : (K : Int) ≤ 553 := by omega
      rw [hTn.out.1] at pd1
      obtain ⟨i0, hi, hz0, hz1, hz2⟩ := info_u8b
      have I6H := Lib.hid hI6
      have hKn : K ≤ 553 := hpl
      have hKnH := Lib.hid hKn
      clear dH hpr hpl d1 d2 d3 hp0 hKP hI6 hKd hdl hKH hKn
      go_wp2_with fail
      refine pd1.mono ?_
      rintro q w7 ⟨u, ud, rfl, hT7, b7⟩
      have hQ := Blk.new w7 24 [.slice u n ud]
      have b8 := below1 w7 (.cells #[.slice u n ud] 24)
      have b68 := b7.trans (b8.mono b7.size)
      have hU8 := hT7.keep b8
      have p2 := pd2.out _ b68
      rw [hd2] at p2
      dsimp only [List.length_nil] at p2
      have p2H := Lib.hid p2
      have hst := Lib.hid (And.intro hQ (And.intro hU8 b68))
      have B6H := Lib.hid (And.intro B6 c6)
      clear hQ b8 b68 hU8 p2 pd1 hT7 b7 B6 c6 k6 pd2 hd2
      go_wp2_with fail
      refine p2H.out.mono ?_
      rintro q w9 ⟨u2, e2, rfl, _, b9⟩
      obtain ⟨hQ, hU8, b68⟩ := hst.out
      have hQ9 := hQ.keep b9 hQ.lt
      have hU9 := hU8.keep b9
      have b69 := b68.trans (b9.mono b68.size)
      have bA := below1 w9 (.cells #[.slice u2 0 e2] 24)
      have hQA := hQ9.keep bA hQ9.lt
      have hUA := hU9.keep bA
      have b6A := b69.trans (bA.mono b69.size)
      have bB := below1 (w9.alloc (.cells #[.slice u2 0 e2] 24)) (.cells #[] 5)
      have I6B := Lib.hid (I6H.out.keep (b6A.trans (bB.mono b6A.size)))
      have own00 := World.ownsRow_made (e := 5) (size := 1) (w9.alloc (.cells #[.slice u2 0 e2] 24)) #[] 0 (Nat.le_refl _) (Nat.zero_le _) rfl
      have hsA : (w9.alloc (.cells #[.slice u2 0 e2] 24)).heap.size = w9.heap.size + 1 := size1 w9 _
      rw [hsA] at own00
      have own0 := Lib.hid own00
      obtain ⟨Q, hQe⟩ : ∃ Q, w7.heap.size = Q := ⟨_, rfl⟩
      rw [hQe] at hQA
      rw [hQe]
      have hst2 := Lib.hid (And.intro hQA (And.intro hUA (And.intro b6A bB)))
      have hsAH := Lib.hid hsA
      clear own00 hsA hQ hU8 b68 hQ9 hU9 b69 bA hQA hUA b6A bB hst b9 p2H hQe
      go_wp2_with (at_builtin
                   refine wpList_append_ints rfl (.tmp 67) (.tmp 68) 27 rfl _ 5 i0 (.int .u8 0) 1 Tryd.underlying27 hi hz0 hz1 hz2 rfl rfl own0.out rfl I6B.out ?_ ?_ (by rw [← hsAH.out]; exact hst2.out.2.2.2.size) ?_
                   (have := hKnH.out; unfold maxLen; omega)
                   (have := hKnH.out; omega)
                   intro v11 w11 o11 g11
                   refine RowKit.Hid.out ?_)
      refine Lib.hid ?_
      rw [List.nil_append, Nat.zero_add] at o11
      obtain ⟨hQA, hUA, b6A, bB⟩ := hst2.out
      have bA11 := bB.grown g11 bB.size (fun q hq => by rw [hsAH.out]; exact (own0.out.lt q hq).1)
      rw [← hsAH.out] at o11
      obtain ⟨WA, hWA⟩ : ∃ W, w9.alloc (.cells #[.slice u2 0 e2] 24) = W := ⟨_, rfl⟩
      rw [hWA] at hQA hUA b6A bA11 o11
      have hsl11 : ∃ oa oc, v11 = .slice oa K oc := own_slice32 o11
      obtain ⟨oa, oc, hv11⟩ := hsl11
      rw [hv11] at o11 ⊢
      have b12 := below1 w11 (.cells #[.int .u8 0] 5)
      have bA12 := bA11.trans (b12.mono bA11.size)
      have o12 := Lib.hid (o11.alloc (.cells #[.int .u8 0] 5))
      have I12 := Lib.hid (one_at w11 .u8 5 0)
      have hst3 := Lib.hid (And.intro hQA (And.intro hUA (And.intro b6A bA12)))
      clear hQA hUA b6A bB bA11 o11 g11 hv11 hst2 own0 I6B b12 bA12 hWA hsAH
      go_wp2_with (at_builtin
                   refine wpList_append_ints rfl (.tmp 70) (.tmp 71) 27 rfl _ 5 i0 (.int .u8 0) 1 Tryd.underlying27 hi hz0 hz1 hz2 rfl rfl o12.out rfl I12.out ?_ ?_ hst3.out.2.2.2.size ?_
                   (have := hKnH.out; unfold maxLen; omega)
                   (have := hKnH.out; omega)
                   intro v13 w13 o13 g13
                   refine RowKit.Hid.out ?_)
      refine Lib.hid ?_
      obtain ⟨hQA, hUA, b6A, bA12⟩ := hst3.out
      have bA13 := bA12.grown g13 bA12.size (fun q hq => (o12.out.lt q hq).1)
      have hI13 : ∃ oa oc, v13 = .slice oa (K + 1) oc ∧ Ints .u8 w13 oa (K + 1) oc (P ++ [0]) := by
        obtain ⟨a', c', hv, hi⟩ := Ints.of_owns (xs := P ++ [0]) (by rw [List.map_append]; exact o13)
        exact ⟨a', c', hv, hi⟩
      obtain ⟨ma, mc, hv13, hI13⟩ := hI13
      rw [hv13]
      have p3 := pd3.out w13 ma mc hI13
      rw [hd3] at p3
      dsimp only [List.length_nil] at p3
      have p3H := Lib.hid p3
      have hQ13 := hQA.keep bA13 hQA.lt
      have hU13 := hUA.keep bA13
      have b613 := b6A.trans (bA13.mono b6A.size)
      have hst4 := Lib.hid (And.intro hQ13 (And.intro hU13 b613))
      clear hQA hUA b6A bA12 bA13 hI13 hv13 p3 hQ13 hU13 b613 o13 g13 hst3 o12 I12 pd3 hd3
      go_wp2_with fail
      refine p3H.out.mono ?_
      rintro q w14 ⟨u3, e3, rfl, _, b14⟩
      obtain ⟨hQ13, hU13, b613⟩ := hst4.out
      have bC := below1 w14 (.cells #[.slice u3 0 e3] 24)
      have hQ14 := (hQ13.keep b14 hQ13.lt).keep bC (hQ13.keep b14 hQ13.lt).lt
      have hU14 := (hU13.keep b14).keep bC
      have b614 := (b613.trans (b14.mono b613.size)).trans (bC.mono (b613.trans (b14.mono b613.size)).size)
      obtain ⟨B6, c6⟩ := B6H.out
      have BC := B6.trans (b614.mono B6.size)
      have cC := c6.trans (b614.mono c6.size)
      have kC := kc.out _ cC
      have qC := hQ14.cell 0
      have SM := Lib.hid (r13Same_self a n c ts u ud _ (TK.out _ BC) hU14 hrH.out hTn.out.2)
      have BCH := Lib.hid BC
      clear hQ13 hU13 b613 bC hst4 p3H b14 hQ14 hU14 b614 B6 c6 cC BC
      go_wp2_with fail
      refine SM.out.mono ?_
      rintro q w15 ⟨rfl, b15⟩
      have B15 := BCH.out.trans (b15.mono BCH.out.size)
      clear SM BCH b15 kC qC
      go_wp2_with fail
      refine (alH.out w15 B15).mono ?_
      rintro q w16 ⟨rfl, b16⟩
      go_wp2
      go_ret
      exact ⟨rfl, B15.trans (b16.mono B15.size)⟩
end Go.Proofs.YtcfachgfgogllaaDoor

/-
  The law PayloadBytes, as its statement's frame takes it. Conditions: the rows' own.
-/
namespace Go.Proofs.YtcfachgfgogllaaDoor
open Go.RowKit

theorem law_paybytes (a : Option Addr) (n c : Nat) (ts : List Tier) (w : World) (hG : Glob w) (hT : TiersAt w a n c ts) (hr : ∀ t ∈ ts, Ranged t) (hm : c ≤ maxLen) :
    Calls Tryd.prog 3 #[.agg #[.slice a n c]] w fun q w' => q = .returned (.bool true) ∧ Below w.heap.size w w' :=
  payBytes_any a n c ts w hG hT hr (Nat.le_trans hT.2.1 hm)
end Go.Proofs.YtcfachgfgogllaaDoor

/-
  Texts of stages that were proved on their own, joined: PpCopy, PayRefD. Each begins with its own words.
-/
import Derived.Test.YtcfachgfgogllaaDoorJPayAll5
import Derived.Test.YtcfachgfgogllaaDoorJPayAll2
import Derived.Test.YtcfachgfgogllaaDoorSteps
import Derived.Deep.Slices
import Derived.Test.YtcfachgfgogllaaDoorJPayAll4

/-
  What package payload's Copy comes to (by slices.Clone and bytes.Clone). New memory alone is written. Conditions: at most a thousand tiers of at most a thousand bytes.
-/
namespace Go.Proofs.YtcfachgfgogllaaDoor
open Go.RowKit

theorem info_tier : ∃ i, Tryd.prog.info? 41 = some i ∧ i.zero = some (.agg #[.int .u32 0, .slice none 0 0]) ∧ i.size = 2 ∧ i.bytes = 32 := by
  have h : (Tryd.prog.info? 41).map (fun i => (i.zero, i.size, i.bytes)) = some (some (.agg #[.int .u32 0, .slice none 0 0]), 2, 32) := by kernel_rfl
  cases hq : Tryd.prog.info? 41 with
  | none => simp [hq] at h
  | some i => rw [hq] at h; simp at h; exact ⟨i, rfl, h.1, h.2.1, h.2.2⟩
theorem tNone (cap : Nat) (w : World) : Sem.run Tryd.prog (binOp BinOp.eql 22 (.slice none 0 cap) (.slice none 0 0)) w = .ok (.bool true) w := by kernel_rfl
theorem tSome (x : Addr) (n cap : Nat) (w : World) : Sem.run Tryd.prog (binOp BinOp.eql 22 (.slice (some x) n cap) (.slice none 0 0)) w = .ok (.bool false) w := by kernel_rfl
theorem list_of13 {α : Type} (n : Nat) (d : α) (p : Nat → α → Prop) (h : ∀ i, i < n → ∃ v, p i v) : ∃ l : List α, l.length = n ∧ ∀ i, i < n → p i (l.getD i d) := by
  induction n with
  | zero => exact ⟨[], rfl, fun i hi => absurd hi (Nat.not_lt_zero i)⟩
  | succ n ih =>
    obtain ⟨l, hl, hp⟩ := ih (fun i hi => h i (by omega))
    obtain ⟨v, hv⟩ := h n (Nat.lt_succ_self n)
    refine ⟨l ++ [v], by simp [hl], fun i hi => ?_⟩
    rw [List.getD_eq_getElem?_getD]
    by_cases hlt : i < n
    · rw [List.getElem?_append_left (by omega), ← List.getD_eq_getElem?_getD]
      exact hp i hlt
    · obtain rfl : i = n := by omega
      rw [List.getElem?_append_right (by omega), hl, Nat.sub_self]
      exact hv
/-- The bytes of tiers, at these places. -/
def InnerAt (w : World) (ts : List Tier) (ps : List (Option Addr × Nat)) : Prop := ∀ (i : Nat) (t : Tier) (p : Option Addr × Nat), ts[i]? = some t → ps[i]? = some p → Ints .u8 w p.1 t.2.length p.2 t.2
theorem TiersAt.places {w : World} {a : Option Addr} {n c : Nat} {ts : List Tier} (h : TiersAt w a n c ts) : ∃ ps : List (Option Addr × Nat), ps.length = ts.length ∧ InnerAt w ts ps ∧ (n = 0 ∨ ∃ b off, a = some ⟨b, off, none⟩ ∧ ∀ j u, (tcells ts ps)[j]? = some u → w.cell? ⟨b, off + j, none⟩ = some u) := by
  rcases h.2.2 with h0 | ⟨b, off, ha, hc⟩
  · have hts : ts = [] := List.length_eq_zero_iff.1 (h.1.trans h0)
    subst hts
    exact ⟨[], rfl, fun i t p h => by simp at h, .inl h0⟩
  · obtain ⟨ps, hpl, hp⟩ := list_of13 ts.length ((none, 0) : Option Addr × Nat) (fun i p => ∀ t, ts[i]? = some t → w.rangeAt b (off + i * 2) [.int .u32 t.1, .slice p.1 t.2.length p.2] ∧ Ints .u8 w p.1 t.2.length p.2 t.2) (fun i hi => by
      obtain ⟨A, d, h1, h2⟩ := hc i ts[i] (List.getElem?_eq_getElem hi)
      exact ⟨(A, d), fun t ht => by
        rw [List.getElem?_eq_getElem hi] at ht
        injection ht with ht
        subst ht
        exact ⟨h1, h2⟩⟩)
    have hg : ∀ (i : Nat) (t : Tier) (p : Option Addr × Nat), ts[i]? = some t → ps[i]? = some p → w.rangeAt b (off + i * 2) [.int .u32 t.1, .slice p.1 t.2.length p.2] ∧ Ints .u8 w p.1 t.2.length p.2 t.2 := by
      intro i t p ht hpi
      have hi := (List.getElem?_eq_some_iff.1 ht).1
      have := hp i hi t ht
      rw [List.getD_eq_getElem?_getD, hpi] at this
      exact this
    refine ⟨ps, hpl, fun i t p ht hpi => (hg i t p ht hpi).2, .inr ⟨b, off, ha, fun j u hj => ?_⟩⟩
    have hjl := (List.getElem?_eq_some_iff.1 hj).1
    rw [tcells_len ts ps hpl] at hjl
    obtain ⟨t, ht⟩ : ∃ t, ts[j / 2]? = some t := ⟨ts[j / 2]'(by omega), List.getElem?_eq_getElem (by omega)⟩
    obtain ⟨p, hpi⟩ : ∃ p, ps[j / 2]? = some p := ⟨ps[j / 2]'(by omega), List.getElem?_eq_getElem (by omega)⟩
    obtain ⟨e0, e1⟩ := tcells_at ts ps (j / 2) t p ht hpi
    have hr := (hg (j / 2) t p ht hpi).1
    by_cases hm : j % 2 = 0
    · rw [show j = j / 2 * 2 by omega, e0] at hj
      have := hr 0 u hj
      rw [show off + j = off + j / 2 * 2 + 0 by omega]
      exact this
    · rw [show j = j / 2 * 2 + 1 by omega, e1] at hj
      have := hr 1 u hj
      rw [show off + j = off + j / 2 * 2 + 1 by omega]
      exact this
/-- A store into a cell that held no number. -/
theorem Ints.stored {k : IntKind} {w : World} {a : Option Addr} {n cap : Nat} {xs : List Int} (h : Ints k w a n cap xs) {p : Addr} {v : Value} (hp : w.cell? p = some v) (hv : ∀ z, v ≠ .int k z) (u : Value) : Ints k (w.setCell p u) a n cap xs := by
  refine ⟨h.1, h.2.1, ?_⟩
  rcases h.2.2 with h0 | ⟨b, off, ha, hc⟩
  · exact .inl h0
  · refine .inr ⟨b, off, ha, fun i hi => ?_⟩
    have h1 := hc i hi
    rw [World.cell?_setCell_other w p ⟨b, off + i, none⟩ u (fun e => by
      rw [e, h1] at hp
      injection hp with hp
      exact hv _ hp.symm)]
    exact h1
theorem tcells_set : ∀ (ts : List Tier) (ps : List (Option Addr × Nat)) (j : Nat) (t : Tier) (p : Option Addr × Nat), ps.length = ts.length → ts[j]? = some t → (tcells ts ps).set (j * 2 + 1) (.slice p.1 t.2.length p.2) = tcells ts (ps.set j p)
  | [], _, j, t, _, _, h => by simp at h
  | _ :: _, [], _, _, _, h, _ => by simp at h
  | x :: r, y :: q, 0, t, p, h, ht => by
    obtain rfl : x = t := by simpa using ht
    rfl
  | x :: r, y :: q, j + 1, t, p, h, ht => by
    have := tcells_set r q j t p (by simpa using h) (by simpa using ht)
    rw [show (j + 1) * 2 + 1 = j * 2 + 1 + 1 + 1 by omega]
    show _ :: _ :: (tcells r q).set (j * 2 + 1) _ = _ :: _ :: tcells r (q.set j p)
    rw [this]

set_option maxRecDepth 100000 in
set_option maxHeartbeats 800000 in
theorem ppClone_any (a : Option Addr) (n c : Nat) (ts : List Tier) (w : World) (hT : TiersAt w a n c ts) (hn : n ≤ 1000) :
    Calls Tryd.prog 38 #[.slice a n c] w fun e w' => ∃ b d ps, e = .returned (.slice b n d) ∧ (n = 0 ∨ (ps.length = ts.length ∧ InnerAt w ts ps ∧ w'.ownsRow w.heap.size 41 2 (.slice b n d) n (tcells ts ps))) ∧ Below w.heap.size w w' := by
  obtain ⟨i0, hi, hz0, hz1, hz2⟩ := info_tier
  obtain ⟨ps, hpl, hin, hsrc⟩ := hT.places
  have hl := hT.1
  have hnH := Lib.hid hn
  clear hn
  cases a with
  | none =>
    have h0 : n = 0 := by
      rcases hsrc with h | ⟨b, off, h, _⟩
      · exact h
      · cases h
    subst h0
    have heq := tNone c
    go_enter Tryd.func38, Tryd.ntmps38
    go_wp2
    go_ret
    exact ⟨⟨none, 0, rfl⟩, Below.refl _ _⟩
  | some ad =>
    have q3 : Below w.heap.size w (w.alloc (.cells #[] 41)) := below1 _ _
    have heq := tSome ad n c
    have hcl := Lib.hid ((tcells_len ts ps hpl).trans (by rw [hl] : ts.length * 2 = n * 2))
    have hone := Lib.hid (tcells_one ts ps)
    have hcells := Lib.hid (show ∀ j u, (tcells ts ps)[j]? = some u → (w.alloc (.cells #[] 41)).cell? (ad.add j) = some u by
      rcases hsrc with h0 | ⟨b, off, hA, hc⟩
      · intro j u hj
        have := (List.getElem?_eq_some_iff.1 hj).1
        rw [tcells_len ts ps hpl, hl] at this
        omega
      · injection hA with hA
        subst hA
        intro j u hj
        have h1 := hc j u hj
        rw [show (⟨b, off, none⟩ : Addr).add j = ⟨b, off + j, none⟩ by simp [Addr.add]]
        exact (q3.cell (World.block_lt_of_cell? w _ h1)).trans h1)
    have q3H := Lib.hid q3
    have hinH := Lib.hid hin
    have hplH := Lib.hid hpl
    obtain ⟨CS, hCS⟩ : ∃ CS, tcells ts ps = CS := ⟨_, rfl⟩
    rw [hCS] at hcl hone hcells
    have hCSH := Lib.hid hCS
    clear hT hsrc hin hpl hl q3 hCS
    go_enter Tryd.func38, Tryd.ntmps38
    go_wp2_with (at_builtin
                 refine wpList_append_own _ rfl (.tmp 5) (.tmp 6) 22 rfl w.heap.size 41 i0 _ 2 32 Tryd.underlying22 hi hz0 hz1 hz2 (by simp [Value.cells]) (by decide) (.slice (some ⟨w.heap.size, 0, none⟩) 0 0) 0 [] rfl (World.ownsRow_made w #[] 0 (Nat.le_refl _) (Nat.zero_le _) rfl) ad n c CS rfl hcl.out hcells.out hone.out ?_ ?_ q3H.out.size ?_
                 (have := hnH.out; unfold maxLen; omega)
                 (have := hnH.out; omega)
                 intro v4 w4 hown4 hg4 _
                 refine RowKit.Hid.out ?_)
    refine Lib.hid ?_
    rw [List.nil_append, Nat.zero_add] at hown4
    have hex : ∃ b c, v4 = .slice b n c := own_slice32 hown4
    obtain ⟨b, d, hv⟩ := hex
    rw [hv] at hown4 ⊢
    have hB : Below w.heap.size w w4 := q3H.out.grown hg4 q3H.out.size (fun q hq => by injection hq with hq; rw [← hq]; exact Nat.le_refl _)
    go_wp2
    go_ret
    exact ⟨b, d, ps, rfl, .inr ⟨hplH.out, hinH.out, by rw [hCSH.out]; exact hown4⟩, hB⟩

set_option maxRecDepth 100000 in
set_option maxHeartbeats 2000000 in
theorem ppCopy_any (a : Option Addr) (n c : Nat) (ts : List Tier) (w : World) (hT : TiersAt w a n c ts) (hs : Small ts) :
    Calls Tryd.prog 21 #[.agg #[.slice a n c]] w fun q w' => ∃ b d, q = .returned (.agg #[.slice b n d]) ∧ (n = 0 ∨ ∃ ps, Made w' w.heap.size (.slice b n d) n ts ps) ∧ Below w.heap.size w w' := by
  have hl := hT.1
  have hn8 : n ≤ 1000 := by have := hs.1; omega
  have hnm : (n : Int) ≤ 1000 := by omega
  have hn8H := Lib.hid hn8
  have hsm := Lib.hid hs.2
  have b2 := below2 w (.cells #[.slice a n c] 24) (.cells #[.slice none 0 0] 24)
  have hcl := Lib.hid (ppClone_any a n c ts _ (hT.keep b2) hn8)
  have hkc := ((Blk.new w 24 [.slice a n c]).alloc (.cells #[.slice none 0 0] 24)).cell 0
  have hR := Lib.hid (Blk.new1 w (.cells #[.slice a n c] 24) 24 [.slice none 0 0])
  have b2H := Lib.hid b2
  clear hT hs hn8 b2
  go_enter Tryd.func21, Tryd.ntmps21
  go_wp2_with fail
  refine hcl.out.mono ?_
  rintro q w1 ⟨b, d, ps, rfl, hrow, b1⟩
  obtain ⟨R, hRe⟩ : ∃ R, w.heap.size + 1 = R := ⟨_, rfl⟩
  have hR1 := hR.out.keep b1 hR.out.lt
  have hB1 := b2H.out.trans (b1.mono b2H.out.size)
  have hs2 : (w.alloc (.cells #[.slice a n c] 24) |>.alloc (.cells #[.slice none 0 0] 24)).heap.size = w.heap.size + 2 := size2 w _ _
  have hrow1 : n = 0 ∨ (ps.length = ts.length ∧ InnerAt w1 ts ps ∧ w1.ownsRow (w.heap.size + 2) 41 2 (.slice b n d) n (tcells ts ps)) := by
    rcases hrow with h0 | ⟨h1, h2, h3⟩
    · exact .inl h0
    · exact .inr ⟨h1, fun i t p ht hp => (h2 i t p ht hp).keep b1, by rw [hs2] at h3; exact h3⟩
  rw [hRe] at hR1
  have hReH := Lib.hid hRe
  rw [hRe]
  clear hcl hkc hR hs2 hrow b1 b2H hRe
  go_wp2_with fail
  have hrowH := Lib.hid hrow1
  clear hrow1
  go_loopw [10] (fun i wr => ∃ (j : Nat) (qs : List (Option Addr × Nat)), j ≤ n ∧ i = .int .i64 j ∧ (n = 0 ∨ (qs.length = ts.length ∧ InnerAt wr ts qs ∧ (∀ i t p, i < j → ts[i]? = some t → qs[i]? = some p → Inner wr w.heap.size t p) ∧ wr.ownsRow (w.heap.size + 2) 41 2 (.slice b n d) n (tcells ts qs))) ∧ Blk wr R 24 [.slice none 0 0] ∧ Below w.heap.size w wr) (fun i _ => n - (intOf i).toNat)
  case atStart =>
    refine ⟨0, ps, Nat.zero_le _, rfl, ?_, hR1, hB1⟩
    rcases hrowH.out with h0 | ⟨h1, h2, h3⟩
    · exact .inl h0
    · exact .inr ⟨h1, h2, fun i t p hi => absurd hi (Nat.not_lt_zero i), h3⟩
  case round =>
    clear hR1 hB1 hrowH
    obtain ⟨j, qs, hj, rfl, hrow, hR, hB⟩ := hrel
    by_cases hlt : j < n
    · have hji : (j : Int) < (n : Int) := by omega
      rcases hrow with h0 | ⟨hql, hin, hdone, hown⟩
      · omega
      obtain ⟨t, ht⟩ : ∃ t, ts[j]? = some t := ⟨ts[j]'(by omega), List.getElem?_eq_getElem (by omega)⟩
      obtain ⟨p, hp⟩ : ∃ p, qs[j]? = some p := ⟨qs[j]'(by omega), List.getElem?_eq_getElem (by omega)⟩
      obtain ⟨_, e1⟩ := tcells_at ts qs j t p ht hp
      have hI := hin j t p ht hp
      have hlen := hsm.out t (List.mem_of_getElem? ht)
      obtain ⟨g, hg⟩ : ∃ g, b = some ⟨g, 0, none⟩ := by
        rcases hown.2 with ⟨_, h0⟩ | ⟨g, _, _, hv, _⟩
        · omega
        · injection hv with hv _ _
          exact ⟨g, hv⟩
      subst hg
      have c1 : wr.cell? ⟨g, j * 2 + 1, none⟩ = some (.slice p.1 t.2.length p.2) := by rw [hown.cellAt (j * 2 + 1) (by omega)]; exact e1
      have hgl : g < wr.heap.size := World.block_lt_of_cell? wr _ c1
      have hc := Lib.hid (pClone_any p.1 t.2.length p.2 t.2 wr hI (by omega))
      obtain ⟨A, hA⟩ : ∃ A, p.1 = A := ⟨_, rfl⟩
      obtain ⟨dd, hd⟩ : ∃ A, p.2 = A := ⟨_, rfl⟩
      obtain ⟨L, hL⟩ : ∃ L, t.2.length = L := ⟨_, rfl⟩
      rw [hA, hd, hL] at hc c1
      have hltH := Lib.hid hlt
      have hLH := Lib.hid hL
      have htH := Lib.hid ht
      have hKH := Lib.hid (And.intro hql (And.intro hin (And.intro hdone (And.intro hown (And.intro hR hB)))))
      clear hj hlt hql hin hdone hown hR hB hp e1 hI hlen hA hd hL ht
      go_wp2_with fail
      refine hc.out.mono ?_
      rintro q w3 ⟨b3, d3, rfl, ho3, B3⟩
      obtain ⟨hql, hin, hdone, hown, hR, hB⟩ := hKH.out
      have hown3 := own_stay9 hown B3
      have f1 := hown3.frozenAt (j * 2 + 1)
      have c3 : w3.cell? ⟨g, j * 2 + 1, none⟩ = some (.slice A L dd) := by rw [B3.cell (p := ⟨g, j * 2 + 1, none⟩) hgl, c1]
      have hst := hown3.stored (j * 2 + 1) (.slice b3 L d3)
      have hgR : g ≠ R := by
        have := (hown.lt g rfl).1
        have := hReH.out
        omega
      have hgB : w.heap.size ≤ g := by have := (hown.lt g rfl).1; omega
      have hR3 := (hR.keep B3 hR.lt).far (p := ⟨g, j * 2 + 1, none⟩) (by simp; omega) (.slice b3 L d3)
      have hBN := (hB.trans (B3.mono hB.size)).setCell (p := ⟨g, j * 2 + 1, none⟩) hgB (.slice b3 L d3)
      have hset := tcells_set ts qs j t (b3, d3) hql htH.out
      dsimp only at hset
      rw [hLH.out] at hset
      rw [hset] at hst
      have htt : 5 ≠ 41 := by decide
      have hLb : t.2.length = L := hLH.out
      have inNew : Inner (w3.setCell ⟨g, j * 2 + 1, none⟩ (.slice b3 L d3)) w.heap.size t (b3, d3) := by
        unfold Inner
        dsimp only
        rw [hLb]
        exact (own_low9 ho3 hB.size).kept hst.2 (owns_apart ho3 hown3 htt)
      have hrowN := Lib.hid (show n = 0 ∨ ((qs.set j (b3, d3)).length = ts.length ∧ InnerAt (w3.setCell ⟨g, j * 2 + 1, none⟩ (.slice b3 L d3)) ts (qs.set j (b3, d3)) ∧ (∀ i t p, i < j + 1 → ts[i]? = some t → (qs.set j (b3, d3))[i]? = some p → Inner (w3.setCell ⟨g, j * 2 + 1, none⟩ (.slice b3 L d3)) w.heap.size t p) ∧ (w3.setCell ⟨g, j * 2 + 1, none⟩ (.slice b3 L d3)).ownsRow (w.heap.size + 2) 41 2 (.slice (some ⟨g, 0, none⟩) n d) n (tcells ts (qs.set j (b3, d3)))) from
        .inr ⟨by rw [List.length_set]; exact hql, fun i u q hu hq => by
          by_cases hij : i = j
          · subst hij
            obtain rfl : t = u := by rw [htH.out] at hu; injection hu
            obtain rfl : (b3, d3) = q := by rw [List.getElem?_set_self (by omega)] at hq; injection hq
            obtain ⟨a5, c5, hv5, hi5⟩ := Ints.of_owns inNew
            injection hv5 with e5 _ e6
            rw [← e5, ← e6] at hi5
            exact hi5
          · rw [List.getElem?_set_ne (fun e => hij e.symm)] at hq
            have h1 := (hin i u q hu hq).keep B3
            exact h1.stored c3 (fun z => by simp) _, fun i u q hi hu hq => by
          by_cases hij : i = j
          · subst hij
            obtain rfl : t = u := by rw [htH.out] at hu; injection hu
            obtain rfl : (b3, d3) = q := by rw [List.getElem?_set_self (by omega)] at hq; injection hq
            exact inNew
          · rw [List.getElem?_set_ne (fun e => hij e.symm)] at hq
            have h1 := own_stay9 (hdone i u q (by omega) hu hq) B3
            exact h1.kept hst.2 (owns_apart h1 hown3 htt), hst.1⟩)
      have hR3H := Lib.hid hR3
      have hBNH := Lib.hid hBN
      clear hql hin hdone hown hR hB hown3 hst hR3 hBN hset inNew hc hKH ho3 c1 B3
      go_wp2
      exact ⟨⟨j + 1, _, by have := hltH.out; omega, by congr 1, hrowN.out, hR3H.out, hBNH.out⟩, by simp only [intOf]; have := hltH.out; omega⟩
    · obtain rfl : n = j := by omega
      have hji : ¬ (n : Int) < (n : Int) := by omega
      have hk0 := hR.cell 0
      have hf0 := hR.frozen 0
      have hBN := hB.setCell (p := ⟨R, 0, none⟩) (by have := hReH.out; show w.heap.size ≤ R; omega) (.slice b n d)
      have hRN := hR.set 0 (.slice b n d)
      have hrowN : n = 0 ∨ ∃ ps, Made (wr.setCell ⟨R, 0, none⟩ (.slice b n d)) w.heap.size (.slice b n d) n ts ps := by
        rcases hrow with h0 | ⟨hql, hin, hdone, hown⟩
        · exact .inl h0
        · have hgr := grown_setCell wr R 0 (.slice b n d)
          have hne : ∀ {B s m : Nat} {e : TypeId} {v : Value} {xs : List Value}, wr.ownsRow B e s v m xs → 24 ≠ e → v.ownBlock = none ∨ v.ownBlock ≠ some R := by
            intro B s m e v xs ho he
            rcases ho.2 with ⟨rfl, _⟩ | ⟨k, cap, cur, rfl, _, hk, _⟩
            · exact .inl rfl
            · refine .inr fun hb => ?_
              have hb : some k = some R := hb
              injection hb with hb
              subst hb
              unfold Blk at hR
              rw [hR] at hk
              injection hk with hk
              injection hk with _ h2 _
              exact he h2
          refine .inr ⟨qs, hl, hql, own_low9 (hown.kept hgr (hne hown (by decide))) (by omega), fun i t p ht hp => ?_⟩
          have h1 := hdone i t p (by have := (List.getElem?_eq_some_iff.1 ht).1; omega) ht hp
          exact h1.kept hgr (hne h1 (by decide))
      have hrowNH := Lib.hid hrowN
      have hBNH := Lib.hid hBN
      have hRNH := Lib.hid hRN
      clear hlt hj hrow hR hB hBN hRN hrowN
      go_wp2_with fail
      have hRN := hRNH.out
      have rowPay : IsRow Tryd.prog 24 ([.slice b n d] : List Value).length := IsRow.struct Tryd.underlying24 (by kernel_rfl)
      refine bodyPost_ret (results_blk rfl rfl hRN rowPay) rfl ?_
      exact ⟨b, d, rfl, hrowNH.out, hBNH.out⟩
end Go.Proofs.YtcfachgfgogllaaDoor

/-
  The document's own Decode of a payload (layer 13). New memory alone is written. Conditions: bytes below 256, at most ten thousand.
-/
namespace Go.Proofs.YtcfachgfgogllaaDoor
open Go.RowKit

theorem decT_4 {k : Nat} {f : Int} {b : List Int} (h : b.length < 4) : decT (k + 1) f b = ([], 2) := by rw [decT, if_pos h]
theorem decT_fee {k : Nat} {f : Int} {b : List Int} (h : ¬ b.length < 4) (h2 : be (b.take 4) ≤ f) : decT (k + 1) f b = ([], 4) := by rw [decT, if_neg h, if_pos h2]
theorem decT_5 {k : Nat} {f : Int} {b : List Int} (h : ¬ b.length < 4) (h2 : ¬ be (b.take 4) ≤ f) (h3 : b.length < 5) : decT (k + 1) f b = ([], 2) := by rw [decT, if_neg h, if_neg h2, if_pos h3]
theorem decT_n {k : Nat} {f : Int} {b : List Int} (h2 : ¬ be (b.take 4) ≤ f) (h3 : ¬ b.length < 5) (h4 : b.getD 4 0 < 1 ∨ 64 < b.getD 4 0) : decT (k + 1) f b = ([], 4) := by rw [decT, if_neg (by omega), if_neg h2, if_neg h3, if_pos h4]
theorem decT_cut {k N : Nat} {f : Int} {b : List Int} (h2 : ¬ be (b.take 4) ≤ f) (h3 : ¬ b.length < 5) (h4 : ¬ (b.getD 4 0 < 1 ∨ 64 < b.getD 4 0)) (hN : b.getD 4 0 = (N : Int)) (h5 : b.length < 5 + N) : decT (k + 1) f b = ([], 2) := by
  rw [decT, if_neg (by omega), if_neg h2, if_neg h3, if_neg h4, if_pos (by rw [hN]; exact h5)]
theorem decT_go {k N : Nat} {f : Int} {b : List Int} (h2 : ¬ be (b.take 4) ≤ f) (h3 : ¬ b.length < 5) (h4 : ¬ (b.getD 4 0 < 1 ∨ 64 < b.getD 4 0)) (hN : b.getD 4 0 = (N : Int)) (h5 : ¬ b.length < 5 + N) : decT (k + 1) f b = consR (be (b.take 4), (b.drop 5).take N) (decT k (be (b.take 4)) (b.drop (5 + N))) := by
  rw [decT, if_neg (by omega), if_neg h2, if_neg h3, if_neg h4, if_neg (by rw [hN]; exact h5), hN]
  rfl
theorem be4 {b : List Int} (h : ¬ b.length < 4) : be (b.take 4) = b.getD 0 0 * 16777216 + b.getD 1 0 * 65536 + b.getD 2 0 * 256 + b.getD 3 0 := by
  match b, h with
  | x :: y :: z :: u :: r, _ =>
    show 256 * (256 * (256 * (256 * 0 + x) + y) + z) + u = x * 16777216 + y * 65536 + z * 256 + u
    omega
  | [], h => simp at h
  | [_], h => simp at h
  | [_, _], h => simp at h
  | [_, _, _], h => simp at h
theorem size8_13' : (Tryd.prog.info? 5).map (·.size) = some 1 := by kernel_rfl
theorem sizePay : (Tryd.prog.info? 24).map (·.size) = some 1 := by kernel_rfl
theorem rowPay : IsRow Tryd.prog 24 1 := IsRow.struct Tryd.underlying24 sizePay

set_option maxRecDepth 100000 in
set_option maxHeartbeats 800000 in
theorem r13Dec_bad (a : Option Addr) (n c : Nat) (xs : List Int) (w : World) (hI : Ints .u8 w a n c xs) (hr : ∀ x ∈ xs, 0 ≤ x ∧ x < 256) (hb : n = 0 ∨ xs.getD 0 0 < 1 ∨ 8 < xs.getD 0 0) :
    Calls Tryd.prog 15 #[.slice a n c] w fun q w' => q = .returned (.tuple #[.agg #[.slice none 0 0], .int .i64 (decP xs).2]) ∧ (decP xs).1 = [] ∧ Below w.heap.size w w' := by
  have hl := hI.len
  have b2 := Lib.hid (below2 w (.cells #[.slice none 0 0] 24) (.cells #[.slice none 0 0] 24))
  have hR := Lib.hid ((Blk.new w 24 [.slice none 0 0]).alloc (.cells #[.slice none 0 0] 24))
  by_cases h0 : n = 0
  · have hx : xs = [] := List.length_eq_zero_iff.1 (by omega)
    have hd : decP xs = ([], 2) := by rw [hx]; rfl
    rw [hd]
    have hn1 : (n : Int) < 1 := by omega
    clear hI hr hb h0 hx hd hl
    go_enter Tryd.func15, Tryd.ntmps15
    go_wp2_with fail
    refine bodyPost_ret (results_blk_tmp rfl rfl hR.out rowPay) rfl ?_
    first | exact ⟨rfl, rfl, b2.out⟩ | exact ⟨rfl, b2.out⟩ | exact ⟨trivial, b2.out⟩ | exact ⟨trivial, trivial, b2.out⟩ | exact ⟨rfl, trivial, b2.out⟩
  · have hb' : xs.getD 0 0 < 1 ∨ 8 < xs.getD 0 0 := hb.resolve_left h0
    have hd : decP xs = ([], 4) := by
      unfold decP
      rw [if_neg (by intro e; rw [e] at hl; simp at hl; omega), if_pos hb']
    rw [hd]
    have hn1 : ¬ (n : Int) < 1 := by omega
    have hI2 := hI.keep b2.out
    obtain ⟨b, off, rfl, hc⟩ := hI2.at (by omega)
    have c0 := hc 0 (by omega)
    have hx0 := hr (xs.getD 0 0) (by rw [List.getD_eq_getElem?_getD, List.getElem?_eq_getElem (by omega)]; exact List.getElem_mem _)
    obtain ⟨x, hx⟩ : ∃ x, xs.getD 0 0 = x := ⟨_, rfl⟩
    rw [hx] at c0 hx0 hb'
    rw [Nat.add_zero] at c0
    have h64 : wrap64 x = x := by unfold wrap64; omega
    have hnp : 0 < n := by omega
    clear hI hI2 hc hr hb hx hd hl h0
    by_cases h1 : x < 1
    · clear hb' hx0
      go_enter Tryd.func15, Tryd.ntmps15
      go_wp2_with fail
      refine bodyPost_ret (results_blk_tmp rfl rfl hR.out rowPay) rfl ?_
      first | exact ⟨rfl, rfl, b2.out⟩ | exact ⟨rfl, b2.out⟩ | exact ⟨trivial, b2.out⟩ | exact ⟨trivial, trivial, b2.out⟩ | exact ⟨rfl, trivial, b2.out⟩
    · have h8 : 8 < x := by omega
      clear hb' hx0
      go_enter Tryd.func15, Tryd.ntmps15
      go_wp2_with fail
      refine bodyPost_ret (results_blk_tmp rfl rfl hR.out rowPay) rfl ?_
      first | exact ⟨rfl, rfl, b2.out⟩ | exact ⟨rfl, b2.out⟩ | exact ⟨trivial, b2.out⟩ | exact ⟨trivial, trivial, b2.out⟩ | exact ⟨rfl, trivial, b2.out⟩

set_option maxRecDepth 100000 in
set_option maxHeartbeats 4000000 in
theorem r13Dec_ok (a : Option Addr) (n c : Nat) (xs : List Int) (N : Nat) (w : World) (hI : Ints .u8 w a n c xs) (hr : ∀ x ∈ xs, 0 ≤ x ∧ x < 256) (hm : n ≤ 10000) (h0 : n ≠ 0) (hN : xs.getD 0 0 = (N : Int)) (h1 : 1 ≤ N) (h8 : N ≤ 8) :
    Calls Tryd.prog 15 #[.slice a n c] w fun q w' => ∃ b d, q = .returned (.tuple #[.agg #[.slice b (decP xs).1.length d], .int .i64 (decP xs).2]) ∧ TiersAt w' b (decP xs).1.length d (decP xs).1 ∧ Below w.heap.size w w' := by
  have hl := hI.len
  obtain ⟨i1, hi1, hy0, hy1, hy2⟩ := info_u8b
  obtain ⟨i0, hi, hz0, hz1, hz2⟩ := info_tier
  have hdec : decP xs = decT N (-1) (xs.drop 1) := by
    unfold decP
    rw [if_neg (by intro e; rw [e] at hl; simp at hl; omega), hN, if_neg (by omega), Int.toNat_natCast]
  have b2 := below2 w (.cells #[.slice none 0 0] 24) (.cells #[.slice none 0 0] 24)
  have b3 := b2.alloc (b2.size) (.cells #[.slice none 0 0] 24)
  have hR0 := ((Blk.new w 24 [.slice none 0 0]).alloc (.cells #[.slice none 0 0] 24)).alloc (.cells #[.slice none 0 0] 24)
  have hN0 := (Blk.new1 w (.cells #[.slice none 0 0] 24) 24 [.slice none 0 0]).alloc (.cells #[.slice none 0 0] 24)
  have hP0 := Blk.new1 (w.alloc (.cells #[.slice none 0 0] 24)) (.cells #[.slice none 0 0] 24) 24 [.slice none 0 0]
  rw [size1] at hP0
  have hI2 := hI.keep b2
  obtain ⟨b, off, rfl, hc⟩ := hI2.at (by omega)
  have c0 := hc 0 (by omega)
  rw [hN, Nat.add_zero] at c0
  have h64 : wrap64 (N : Int) = (N : Int) := by unfold wrap64; omega
  have hn1 : ¬ (n : Int) < 1 := by omega
  have hn1' : (1 : Int) ≤ (n : Int) := by omega
  have hN1 : ¬ (N : Int) < 1 := by omega
  have hN8 : ¬ (8 : Int) < (N : Int) := by omega
  have hnp : 0 < n := by omega
  have g1 : decide ((N : Int) < 1) = false := decide_eq_false hN1
  have g8 : decide ((8 : Int) < (N : Int)) = false := decide_eq_false hN8
  have hcut := hI.cutAt 1 (by omega)
  have s1 := fun wx => run_cut (P := Tryd.prog) 27 5 Tryd.underlying27 size8_13' wx (some ⟨b, off, none⟩) n c .i64 1 (by omega)
  rw [show ((1 : Nat) : Int) = 1 from rfl] at s1
  obtain ⟨A0, hA0⟩ : ∃ A, cutAddr (some ⟨b, off, none⟩) c 1 = A := ⟨_, rfl⟩
  obtain ⟨m0, hm0⟩ : ∃ m, n - 1 = m := ⟨_, rfl⟩
  obtain ⟨d0, hd0⟩ : ∃ m, c - 1 = m := ⟨_, rfl⟩
  rw [hA0, hm0, hd0] at hcut s1
  have hcutH := Lib.hid hcut
  have hm0H := Lib.hid (show m0 ≤ 10000 by omega)
  have hdecH := Lib.hid hdec
  have hNN := Lib.hid (And.intro h1 h8)
  have hKH := Lib.hid (And.intro hR0 (And.intro hN0 (And.intro hP0 b3)))
  have hrd := Lib.hid (fun x (hx : x ∈ xs.drop 1) => hr x (List.mem_of_mem_drop hx))
  clear hI hI2 hc hN h1 h8 hcut hA0 hm0 hd0 hdec b2 b3 hR0 hN0 hP0 hr hl h0 hm
  go_enter Tryd.func15, Tryd.ntmps15
  go_wp2_with fail
  obtain ⟨V, hV⟩ : ∃ V, ((w.alloc (.cells #[.slice none 0 0] 24)).alloc (.cells #[.slice none 0 0] 24)).alloc (.cells #[.slice none 0 0] 24) = V := ⟨_, rfl⟩
  obtain ⟨R, hRe⟩ : ∃ R, w.heap.size = R := ⟨_, rfl⟩
  obtain ⟨E, hEe⟩ : ∃ E, w.heap.size + 1 = E := ⟨_, rfl⟩
  obtain ⟨P, hPe⟩ : ∃ P, w.heap.size + 1 + 1 = P := ⟨_, rfl⟩
  have hKV : Blk V R 24 [.slice none 0 0] ∧ Blk V E 24 [.slice none 0 0] ∧ Blk V P 24 [.slice none 0 0] ∧ Below w.heap.size w V := by
    rw [← hV, ← hRe, ← hEe, ← hPe]
    exact hKH.out
  have hRH := Lib.hid hRe
  have hEH := Lib.hid hEe
  have hPH := Lib.hid hPe
  rw [hV, hPe, hEe, hRe]
  clear hV hKH hRe hEe hPe s1 c0 h64 hn1' hnp g1 g8
  go_loopw [0, 7] (fun v i wr => ∃ (j : Nat) (us : List Tier) (ps : List (Option Addr × Nat)) (u : Value) (A : Option Addr) (m d : Nat) (rest : List Int), j ≤ N ∧ i = .int .i64 j ∧ v = .slice A m d ∧ m ≤ 10000 ∧ Ints .u8 w A m d rest ∧ (∀ x ∈ rest, 0 ≤ x ∧ x < 256) ∧ (∀ t ∈ us, Ranged t) ∧ decP xs = us.foldr consR (decT (N - j) (lastF (-1) us) rest) ∧ Made wr (w.heap.size + 3) u j us ps ∧ Blk wr R 24 [.slice none 0 0] ∧ Blk wr E 24 [.slice none 0 0] ∧ Blk wr P 24 [u] ∧ Below w.heap.size w wr) (fun _ i _ => N - (intOf i).toNat)
  case atStart => exact ⟨0, [], [], .slice none 0 0, A0, m0, d0, xs.drop 1, Nat.zero_le _, rfl, rfl, hm0H.out, hcutH.out, hrd.out, by simp, hdecH.out, Made.nil _ _, hKV.1, hKV.2.1, hKV.2.2.1, hKV.2.2.2⟩
  case round =>
    clear hKV hcutH hdecH hrd hm0H
    obtain ⟨j, us, ps, u, A, m, d, rest, hj, rfl, rfl, hm, hI, hrr, hur, hdec, hM, hR, hE, hP, hB⟩ := hrel
    have hl := hI.len
    have kE := hE.cell 0
    have kR := hR.cell 0
    have fR := hR.frozen 0
    by_cases hlt : j < N
    · have hji : (j : Int) < (N : Int) := by omega
      obtain ⟨k, hk⟩ : ∃ k, N - j = k + 1 := ⟨N - j - 1, by omega⟩
      rw [hk] at hdec
      by_cases h4 : m < 4
      · have h4i : (m : Int) < 4 := by omega
        rw [decT_4 (by omega), foldr_bad us (by decide)] at hdec
        have hend := Lib.hid hdec
        clear hlt h4 hI hrr hur hl hj hm hdec
        have hRS := Lib.hid (hR.set 0 (.slice none 0 0))
        have hBS := Lib.hid (hB.setCell (p := ⟨R, 0, none⟩) (by have := hRH.out; show w.heap.size ≤ R; omega) (.slice none 0 0))
        clear hR hE hP hB hM
        go_wp2_with fail
        refine bodyPost_ret (results_blk_tmp rfl rfl hRS.out rowPay) rfl ?_
        rw [hend.out]
        exact ⟨none, 0, rfl, ⟨rfl, Nat.le_refl _, .inl rfl⟩, hBS.out⟩
      have h4i : ¬ (m : Int) < 4 := by omega
      obtain ⟨b, off, rfl, hc⟩ := (hI.keep hB).at (by omega)
      have d0 := hc 0 (by omega)
      have d1 := hc 1 (by omega)
      have d2 := hc 2 (by omega)
      have d3 := hc 3 (by omega)
      have hbe := be4 (b := rest) (by omega)
      have hx : ∀ i, i < m → 0 ≤ rest.getD i 0 ∧ rest.getD i 0 < 256 := fun i hi => hrr _ (by rw [List.getD_eq_getElem?_getD, List.getElem?_eq_getElem (by omega)]; exact List.getElem_mem _)
      have r0 := hx 0 (by omega)
      have r1 := hx 1 (by omega)
      have r2 := hx 2 (by omega)
      have r3 := hx 3 (by omega)
      obtain ⟨x0, hx0⟩ : ∃ x, rest.getD 0 0 = x := ⟨_, rfl⟩
      obtain ⟨x1, hx1⟩ : ∃ x, rest.getD 1 0 = x := ⟨_, rfl⟩
      obtain ⟨x2, hx2⟩ : ∃ x, rest.getD 2 0 = x := ⟨_, rfl⟩
      obtain ⟨x3, hx3⟩ : ∃ x, rest.getD 3 0 = x := ⟨_, rfl⟩
      rw [hx0] at d0 hbe r0
      rw [hx1] at d1 hbe r1
      rw [hx2] at d2 hbe r2
      rw [hx3] at d3 hbe r3
      have l0 := Lib.hid (World.block_lt_of_cell? wr _ d0)
      have e0 := Lib.hid d0
      have e1 := Lib.hid d1
      have e2 := Lib.hid d2
      have e3 := Lib.hid d3
      have w0 : IntKind.u32.wrap x0 = x0 := by rw [IntKind.wrap_u32]; omega
      have w1 : IntKind.u32.wrap x1 = x1 := by rw [IntKind.wrap_u32]; omega
      have w2 : IntKind.u32.wrap x2 = x2 := by rw [IntKind.wrap_u32]; omega
      have w3 : IntKind.u32.wrap x3 = x3 := by rw [IntKind.wrap_u32]; omega
      have v0 : IntKind.u32.wrap (x0 * 16777216) = x0 * 16777216 := by rw [IntKind.wrap_u32]; omega
      have v1 : IntKind.u32.wrap (x1 * 65536) = x1 * 65536 := by rw [IntKind.wrap_u32]; omega
      have v2 : IntKind.u32.wrap (x2 * 256) = x2 * 256 := by rw [IntKind.wrap_u32]; omega
      have v3 : IntKind.u32.wrap (x0 * 16777216 + x1 * 65536) = x0 * 16777216 + x1 * 65536 := by rw [IntKind.wrap_u32]; omega
      have v4 : IntKind.u32.wrap (x0 * 16777216 + x1 * 65536 + x2 * 256) = x0 * 16777216 + x1 * 65536 + x2 * 256 := by rw [IntKind.wrap_u32]; omega
      have v5 : IntKind.u32.wrap (x0 * 16777216 + x1 * 65536 + x2 * 256 + x3) = x0 * 16777216 + x1 * 65536 + x2 * 256 + x3 := by rw [IntKind.wrap_u32]; omega
      have hKH := Lib.hid (And.intro hM (And.intro hR (And.intro hE (And.intro hP hB))))
      have hJH := Lib.hid (And.intro hI (And.intro hrr (And.intro hur (And.intro hdec (And.intro hl (And.intro hm (And.intro hx0 (And.intro hx1 (And.intro hx2 (And.intro hx3 (And.intro hx hbe)))))))))))
      have hltH := Lib.hid hlt
      have h4m := Lib.hid h4
      have m0 : 0 < m := by omega
      have m1 : 1 < m := by omega
      have m2 : 2 < m := by omega
      have m3 : 3 < m := by omega
      have m1i : (1 : Int) < (m : Int) := by omega
      have m2i : (2 : Int) < (m : Int) := by omega
      have m3i : (3 : Int) < (m : Int) := by omega
      have rH := Lib.hid (And.intro r0 (And.intro r1 (And.intro r2 r3)))
      clear hM hR hE hP hB hI hrr hur hdec hl hm hx0 hx1 hx2 hx3 hx hbe hlt hj r0 r1 r2 r3 hc d0 d1 d2 d3 h4
      go_wp2_with fail
      have b1 : Below wr.heap.size wr wr.drew := (Below.refl _ _).drew
      refine region_seqS (fun w' => Below wr.heap.size wr w') (by kernel_rfl) b1 ?_
      simp only [pairs, Nat.reduceAdd]
      repeat (first
        | (refine SeqS.take (v := ?_) (by first | assumption | trivial) (by kernel_rfl) (by decide +kernel) (by decide +kernel) (Or.inl ⟨by rfl, ?_⟩) ?_
           rotate_left
           focus
             intro w' hb'
             go_simp
             with_reducible rfl
           simp only [Act.put, List.setIfInBounds_toArray, List.set_cons_zero, List.set_cons_succ])
        | (refine SeqS.take (v := ?_) (by first | assumption | trivial) (by kernel_rfl) (by decide +kernel) (by decide +kernel) (Or.inl ⟨by rfl, ?_⟩) ?_
           rotate_left
           focus
             intro w' hb'
             have d0 : w'.cell? ⟨b, off, none⟩ = some (.int .u8 x0) := (hb'.cell l0.out).trans e0.out
             go_simp
             with_reducible rfl
           simp only [Act.put, List.setIfInBounds_toArray, List.set_cons_zero, List.set_cons_succ])
        | (refine SeqS.take (v := ?_) (by first | assumption | trivial) (by kernel_rfl) (by decide +kernel) (by decide +kernel) (Or.inl ⟨by rfl, ?_⟩) ?_
           rotate_left
           focus
             intro w' hb'
             have d0 : w'.cell? ⟨b, off + 1, none⟩ = some (.int .u8 x1) := (hb'.cell l0.out).trans e1.out
             go_simp
             with_reducible rfl
           simp only [Act.put, List.setIfInBounds_toArray, List.set_cons_zero, List.set_cons_succ])
        | (refine SeqS.take (v := ?_) (by first | assumption | trivial) (by kernel_rfl) (by decide +kernel) (by decide +kernel) (Or.inl ⟨by rfl, ?_⟩) ?_
           rotate_left
           focus
             intro w' hb'
             have d0 : w'.cell? ⟨b, off + 2, none⟩ = some (.int .u8 x2) := (hb'.cell l0.out).trans e2.out
             go_simp
             with_reducible rfl
           simp only [Act.put, List.setIfInBounds_toArray, List.set_cons_zero, List.set_cons_succ])
        | (refine SeqS.take (v := ?_) (by first | assumption | trivial) (by kernel_rfl) (by decide +kernel) (by decide +kernel) (Or.inl ⟨by rfl, ?_⟩) ?_
           rotate_left
           focus
             intro w' hb'
             have d0 : w'.cell? ⟨b, off + 3, none⟩ = some (.int .u8 x3) := (hb'.cell l0.out).trans e3.out
             go_simp
             with_reducible rfl
           simp only [Act.put, List.setIfInBounds_toArray, List.set_cons_zero, List.set_cons_succ])
        | (refine SeqS.take (v := undef) (by first | assumption | trivial) (by kernel_rfl) (by decide +kernel) (by decide +kernel) (Or.inr ⟨by rfl, rfl⟩) ?_
           simp only [Act.put, List.setIfInBounds_toArray, List.set_cons_zero, List.set_cons_succ])
        | (refine SeqS.take1 (v := ?_) (by first | assumption | trivial) (by kernel_rfl) (by decide +kernel) (by decide +kernel) (Or.inl ⟨by rfl, ?_⟩) ?_
           rotate_left
           focus
             intro w' hb'
             go_simp
             with_reducible rfl
           simp only [Act.put, List.setIfInBounds_toArray, List.set_cons_zero, List.set_cons_succ])
        | (refine SeqS.take1 (v := ?_) (by first | assumption | trivial) (by kernel_rfl) (by decide +kernel) (by decide +kernel) (Or.inl ⟨by rfl, ?_⟩) ?_
           rotate_left
           focus
             intro w' hb'
             have d0 : w'.cell? ⟨b, off, none⟩ = some (.int .u8 x0) := (hb'.cell l0.out).trans e0.out
             go_simp
             with_reducible rfl
           simp only [Act.put, List.setIfInBounds_toArray, List.set_cons_zero, List.set_cons_succ])
        | (refine SeqS.take1 (v := ?_) (by first | assumption | trivial) (by kernel_rfl) (by decide +kernel) (by decide +kernel) (Or.inl ⟨by rfl, ?_⟩) ?_
           rotate_left
           focus
             intro w' hb'
             have d0 : w'.cell? ⟨b, off + 1, none⟩ = some (.int .u8 x1) := (hb'.cell l0.out).trans e1.out
             go_simp
             with_reducible rfl
           simp only [Act.put, List.setIfInBounds_toArray, List.set_cons_zero, List.set_cons_succ])
        | (refine SeqS.take1 (v := ?_) (by first | assumption | trivial) (by kernel_rfl) (by decide +kernel) (by decide +kernel) (Or.inl ⟨by rfl, ?_⟩) ?_
           rotate_left
           focus
             intro w' hb'
             have d0 : w'.cell? ⟨b, off + 2, none⟩ = some (.int .u8 x2) := (hb'.cell l0.out).trans e2.out
             go_simp
             with_reducible rfl
           simp only [Act.put, List.setIfInBounds_toArray, List.set_cons_zero, List.set_cons_succ])
        | (refine SeqS.take1 (v := ?_) (by first | assumption | trivial) (by kernel_rfl) (by decide +kernel) (by decide +kernel) (Or.inl ⟨by rfl, ?_⟩) ?_
           rotate_left
           focus
             intro w' hb'
             have d0 : w'.cell? ⟨b, off + 3, none⟩ = some (.int .u8 x3) := (hb'.cell l0.out).trans e3.out
             go_simp
             with_reducible rfl
           simp only [Act.put, List.setIfInBounds_toArray, List.set_cons_zero, List.set_cons_succ])
        | (refine SeqS.take1 (v := undef) (by first | assumption | trivial) (by kernel_rfl) (by decide +kernel) (by decide +kernel) (Or.inr ⟨by rfl, rfl⟩) ?_
           simp only [Act.put, List.setIfInBounds_toArray, List.set_cons_zero, List.set_cons_succ])
        | (refine SeqS.take2 (v := ?_) (by first | assumption | trivial) (by kernel_rfl) (by decide +kernel) (by decide +kernel) (Or.inl ⟨by rfl, ?_⟩) ?_
           rotate_left
           focus
             intro w' hb'
             go_simp
             with_reducible rfl
           simp only [Act.put, List.setIfInBounds_toArray, List.set_cons_zero, List.set_cons_succ])
        | (refine SeqS.take2 (v := ?_) (by first | assumption | trivial) (by kernel_rfl) (by decide +kernel) (by decide +kernel) (Or.inl ⟨by rfl, ?_⟩) ?_
           rotate_left
           focus
             intro w' hb'
             have d0 : w'.cell? ⟨b, off, none⟩ = some (.int .u8 x0) := (hb'.cell l0.out).trans e0.out
             go_simp
             with_reducible rfl
           simp only [Act.put, List.setIfInBounds_toArray, List.set_cons_zero, List.set_cons_succ])
        | (refine SeqS.take2 (v := ?_) (by first | assumption | trivial) (by kernel_rfl) (by decide +kernel) (by decide +kernel) (Or.inl ⟨by rfl, ?_⟩) ?_
           rotate_left
           focus
             intro w' hb'
             have d0 : w'.cell? ⟨b, off + 1, none⟩ = some (.int .u8 x1) := (hb'.cell l0.out).trans e1.out
             go_simp
             with_reducible rfl
           simp only [Act.put, List.setIfInBounds_toArray, List.set_cons_zero, List.set_cons_succ])
        | (refine SeqS.take2 (v := ?_) (by first | assumption | trivial) (by kernel_rfl) (by decide +kernel) (by decide +kernel) (Or.inl ⟨by rfl, ?_⟩) ?_
           rotate_left
           focus
             intro w' hb'
             have d0 : w'.cell? ⟨b, off + 2, none⟩ = some (.int .u8 x2) := (hb'.cell l0.out).trans e2.out
             go_simp
             with_reducible rfl
           simp only [Act.put, List.setIfInBounds_toArray, List.set_cons_zero, List.set_cons_succ])
        | (refine SeqS.take2 (v := ?_) (by first | assumption | trivial) (by kernel_rfl) (by decide +kernel) (by decide +kernel) (Or.inl ⟨by rfl, ?_⟩) ?_
           rotate_left
           focus
             intro w' hb'
             have d0 : w'.cell? ⟨b, off + 3, none⟩ = some (.int .u8 x3) := (hb'.cell l0.out).trans e3.out
             go_simp
             with_reducible rfl
           simp only [Act.put, List.setIfInBounds_toArray, List.set_cons_zero, List.set_cons_succ])
        | (refine SeqS.take2 (v := undef) (by first | assumption | trivial) (by kernel_rfl) (by decide +kernel) (by decide +kernel) (Or.inr ⟨by rfl, rfl⟩) ?_
           simp only [Act.put, List.setIfInBounds_toArray, List.set_cons_zero, List.set_cons_succ])
        | (refine SeqS.take3 (v := ?_) (by first | assumption | trivial) (by kernel_rfl) (by decide +kernel) (by decide +kernel) (Or.inl ⟨by rfl, ?_⟩) ?_
           rotate_left
           focus
             intro w' hb'
             go_simp
             with_reducible rfl
           simp only [Act.put, List.setIfInBounds_toArray, List.set_cons_zero, List.set_cons_succ])
        | (refine SeqS.take3 (v := ?_) (by first | assumption | trivial) (by kernel_rfl) (by decide +kernel) (by decide +kernel) (Or.inl ⟨by rfl, ?_⟩) ?_
           rotate_left
           focus
             intro w' hb'
             have d0 : w'.cell? ⟨b, off, none⟩ = some (.int .u8 x0) := (hb'.cell l0.out).trans e0.out
             go_simp
             with_reducible rfl
           simp only [Act.put, List.setIfInBounds_toArray, List.set_cons_zero, List.set_cons_succ])
        | (refine SeqS.take3 (v := ?_) (by first | assumption | trivial) (by kernel_rfl) (by decide +kernel) (by decide +kernel) (Or.inl ⟨by rfl, ?_⟩) ?_
           rotate_left
           focus
             intro w' hb'
             have d0 : w'.cell? ⟨b, off + 1, none⟩ = some (.int .u8 x1) := (hb'.cell l0.out).trans e1.out
             go_simp
             with_reducible rfl
           simp only [Act.put, List.setIfInBounds_toArray, List.set_cons_zero, List.set_cons_succ])
        | (refine SeqS.take3 (v := ?_) (by first | assumption | trivial) (by kernel_rfl) (by decide +kernel) (by decide +kernel) (Or.inl ⟨by rfl, ?_⟩) ?_
           rotate_left
           focus
             intro w' hb'
             have d0 : w'.cell? ⟨b, off + 2, none⟩ = some (.int .u8 x2) := (hb'.cell l0.out).trans e2.out
             go_simp
             with_reducible rfl
           simp only [Act.put, List.setIfInBounds_toArray, List.set_cons_zero, List.set_cons_succ])
        | (refine SeqS.take3 (v := ?_) (by first | assumption | trivial) (by kernel_rfl) (by decide +kernel) (by decide +kernel) (Or.inl ⟨by rfl, ?_⟩) ?_
           rotate_left
           focus
             intro w' hb'
             have d0 : w'.cell? ⟨b, off + 3, none⟩ = some (.int .u8 x3) := (hb'.cell l0.out).trans e3.out
             go_simp
             with_reducible rfl
           simp only [Act.put, List.setIfInBounds_toArray, List.set_cons_zero, List.set_cons_succ])
        | (refine SeqS.take3 (v := undef) (by first | assumption | trivial) (by kernel_rfl) (by decide +kernel) (by decide +kernel) (Or.inr ⟨by rfl, rfl⟩) ?_
           simp only [Act.put, List.setIfInBounds_toArray, List.set_cons_zero, List.set_cons_succ]))
      refine SeqS.done (by decide +kernel) ?_
      obtain ⟨hM, hR, hE, hP, hB⟩ := hKH.out
      obtain ⟨hI, hrr, hur, hdec, hl, hm, hx0, hx1, hx2, hx3, hx, hbe⟩ := hJH.out
      obtain ⟨r0, r1, r2, r3⟩ := rH.out
      have hlt := hltH.out
      obtain ⟨f, hf⟩ : ∃ f, x0 * 16777216 + x1 * 65536 + x2 * 256 + x3 = f := ⟨_, rfl⟩
      rw [hf] at hbe ⊢
      have hfr : 0 ≤ f ∧ f < 4294967296 := by omega
      obtain ⟨W, hW⟩ : ∃ W, wr.drew = W := ⟨_, rfl⟩
      rw [hW] at b1 ⊢
      have hM := hM.keep b1
      have hR := hR.keep b1 hR.lt
      have hE := hE.keep b1 hE.lt
      have hP := hP.keep b1 hP.lt
      have hB := hB.trans (b1.mono hB.size)
      have kE := hE.cell 0
      have kR := hR.cell 0
      have fR := hR.frozen 0
      have kP := hP.cell 0
      clear hKH hJH rH hW b1 w0 w1 w2 w3 v0 v1 v2 v3 v4 v5 hf r0 r1 r2 r3 l0 e0 e1 e2 e3 hx0 hx1 hx2 hx3 m0 m1 m2 m3 m1i m2i m3i
      have hfee : lastF (-1) us < f ↔ ¬ be (rest.take 4) ≤ lastF (-1) us := by rw [hbe]; omega
      by_cases hge : ¬ lastF (-1) us < f
      · have hj0 : j ≠ 0 := by
          intro e
          have := hM.len
          have hus : us = [] := List.length_eq_zero_iff.1 (by omega)
          rw [hus] at hge
          exact hge (show (-1 : Int) < f by omega)
        obtain ⟨ub, uc, rfl⟩ := hM.slice
        obtain ⟨pb, po, t, pA, pd, hua, ht, c0, c1, _, _⟩ := hM.at.get (j - 1) (by omega)
        have hlast := lastF_take (-1) ht
        rw [List.take_of_length_le (by have := hM.len; omega)] at hlast
        rw [hlast] at hge
        rw [decT_fee (by omega) (by rw [hbe, hlast]; omega), foldr_bad us (by decide)] at hdec
        have hend := Lib.hid hdec
        obtain ⟨g, hg⟩ : ∃ g, t.1 = g := ⟨_, rfl⟩
        rw [hg] at c0 hge
        have hj1 : (0 : Int) < (j : Int) := by omega
        have gj : decide ((0 : Int) < (j : Int)) = true := decide_eq_true hj1
        have hle : f ≤ g := by omega
        have gle : decide (f ≤ g) = true := decide_eq_true hle
        subst hua
        clear hdec hj0 hg hge ht c1 hlast hfee hbe hI hrr hur hl hm hx hlt hk
        have hRS := Lib.hid (hR.set 0 (.slice none 0 0))
        have hBS := Lib.hid (hB.setCell (p := ⟨R, 0, none⟩) (by have := hRH.out; show w.heap.size ≤ R; omega) (.slice none 0 0))
        clear hR hE hP hB hM
        go_wp2_with fail
        refine bodyPost_ret (results_blk_tmp rfl rfl hRS.out rowPay) rfl ?_
        rw [hend.out]
        exact ⟨none, 0, rfl, ⟨rfl, Nat.le_refl _, .inl rfl⟩, hBS.out⟩
      have hok : lastF (-1) us < f := by omega
      have hnb : ¬ be (rest.take 4) ≤ lastF (-1) us := hfee.1 hok
      obtain ⟨ub, uc, rfl⟩ := hM.slice
      have hfl : (0 : Int) < (j : Int) → ∃ pb po g, ub = some ⟨pb, po, none⟩ ∧ W.cell? ⟨pb, po + (j - 1) * 2, none⟩ = some (.int .u32 g) ∧ ¬ f ≤ g := by
        intro hj1
        obtain ⟨pb, po, t, pA, pd, hua, ht, c0, c1, _, _⟩ := hM.at.get (j - 1) (by omega)
        have hlast := lastF_take (-1) ht
        rw [List.take_of_length_le (by have := hM.len; omega)] at hlast
        rw [hlast] at hok
        exact ⟨pb, po, t.1, hua, c0, by omega⟩
      have hflH := Lib.hid hfl
      clear hfl hge hfee
      by_cases h5 : m < 5
      · have h5i : (m : Int) < 5 := by omega
        rw [decT_5 (by omega) hnb (by omega), foldr_bad us (by decide)] at hdec
        have hend := Lib.hid hdec
        clear hdec hI hrr hur hl hm hx hbe hok hnb hfr hlt h5
        by_cases hj0 : j = 0
        · have hj1 : ¬ (0 : Int) < (j : Int) := by omega
          have gj : decide ((0 : Int) < (j : Int)) = false := decide_eq_false hj1
          clear hflH
          have hRS := Lib.hid (hR.set 0 (.slice none 0 0))
          have hBS := Lib.hid (hB.setCell (p := ⟨R, 0, none⟩) (by have := hRH.out; show w.heap.size ≤ R; omega) (.slice none 0 0))
          clear hR hE hP hB hM
          go_wp2_with fail
          refine bodyPost_ret (results_blk_tmp rfl rfl hRS.out rowPay) rfl ?_
          rw [hend.out]
          exact ⟨none, 0, rfl, ⟨rfl, Nat.le_refl _, .inl rfl⟩, hBS.out⟩
        · have hj1 : (0 : Int) < (j : Int) := by omega
          have gj : decide ((0 : Int) < (j : Int)) = true := decide_eq_true hj1
          obtain ⟨pb, po, g, rfl, c0, hle⟩ := hflH.out hj1
          have gle : decide (f ≤ g) = false := decide_eq_false hle
          clear hflH
          have hRS := Lib.hid (hR.set 0 (.slice none 0 0))
          have hBS := Lib.hid (hB.setCell (p := ⟨R, 0, none⟩) (by have := hRH.out; show w.heap.size ≤ R; omega) (.slice none 0 0))
          clear hR hE hP hB hM
          go_wp2_with fail
          refine bodyPost_ret (results_blk_tmp rfl rfl hRS.out rowPay) rfl ?_
          rw [hend.out]
          exact ⟨none, 0, rfl, ⟨rfl, Nat.le_refl _, .inl rfl⟩, hBS.out⟩
      have h5i : ¬ (m : Int) < 5 := by omega
      obtain ⟨_, _, hbo, hc⟩ := (hI.keep hB).at (by omega)
      injection hbo with hbo
      injection hbo with hb1 hb2
      subst hb1; subst hb2
      have d4 := hc 4 (by omega)
      have r4 := hx 4 (by omega)
      obtain ⟨L, hL⟩ : ∃ L : Nat, rest.getD 4 0 = (L : Int) := ⟨(rest.getD 4 0).toNat, by omega⟩
      rw [hL] at d4 r4
      have m4i : (4 : Int) < (m : Int) := by omega
      have m4 : 4 < m := by omega
      have h64H := Lib.hid (show wrap64 (L : Int) = (L : Int) by unfold wrap64; omega)
      have hl5 : ¬ rest.length < 5 := by omega
      by_cases hL1 : L < 1
      · have q1 : (L : Int) < 1 := by omega
        have g1 : decide ((L : Int) < 1) = true := decide_eq_true q1
        have eL : rest.getD 4 0 < 1 ∨ 64 < rest.getD 4 0 := .inl (by rw [hL]; omega)
        rw [decT_n hnb hl5 eL, foldr_bad us (by decide)] at hdec
        have hend := Lib.hid hdec
        clear hdec hI hrr hur hl hm hx hbe hok hnb hfr hlt h5 hL1 hL hc r4
        have h64 := h64H.out
        by_cases hj0 : j = 0
        · have hj1 : ¬ (0 : Int) < (j : Int) := by omega
          have gj : decide ((0 : Int) < (j : Int)) = false := decide_eq_false hj1
          clear hflH
          have hRS := Lib.hid (hR.set 0 (.slice none 0 0))
          have hBS := Lib.hid (hB.setCell (p := ⟨R, 0, none⟩) (by have := hRH.out; show w.heap.size ≤ R; omega) (.slice none 0 0))
          clear hR hE hP hB hM
          go_wp2_with fail
          refine bodyPost_ret (results_blk_tmp rfl rfl hRS.out rowPay) rfl ?_
          rw [hend.out]
          exact ⟨none, 0, rfl, ⟨rfl, Nat.le_refl _, .inl rfl⟩, hBS.out⟩
        · have hj1 : (0 : Int) < (j : Int) := by omega
          have gj : decide ((0 : Int) < (j : Int)) = true := decide_eq_true hj1
          obtain ⟨pb, po, g, rfl, c0, hle⟩ := hflH.out hj1
          have gle : decide (f ≤ g) = false := decide_eq_false hle
          clear hflH
          have hRS := Lib.hid (hR.set 0 (.slice none 0 0))
          have hBS := Lib.hid (hB.setCell (p := ⟨R, 0, none⟩) (by have := hRH.out; show w.heap.size ≤ R; omega) (.slice none 0 0))
          clear hR hE hP hB hM
          go_wp2_with fail
          refine bodyPost_ret (results_blk_tmp rfl rfl hRS.out rowPay) rfl ?_
          rw [hend.out]
          exact ⟨none, 0, rfl, ⟨rfl, Nat.le_refl _, .inl rfl⟩, hBS.out⟩
      have q1 : ¬ (L : Int) < 1 := by omega
      have g1 : decide ((L : Int) < 1) = false := decide_eq_false q1
      by_cases hL2 : 64 < L
      · have q2 : (64 : Int) < (L : Int) := by omega
        have g2 : decide ((64 : Int) < (L : Int)) = true := decide_eq_true q2
        have eL : rest.getD 4 0 < 1 ∨ 64 < rest.getD 4 0 := .inr (by rw [hL]; omega)
        rw [decT_n hnb hl5 eL, foldr_bad us (by decide)] at hdec
        have hend := Lib.hid hdec
        clear hdec hI hrr hur hl hm hx hbe hok hnb hfr hlt h5 hL1 hL2 hL hc r4
        have h64 := h64H.out
        by_cases hj0 : j = 0
        · have hj1 : ¬ (0 : Int) < (j : Int) := by omega
          have gj : decide ((0 : Int) < (j : Int)) = false := decide_eq_false hj1
          clear hflH
          have hRS := Lib.hid (hR.set 0 (.slice none 0 0))
          have hBS := Lib.hid (hB.setCell (p := ⟨R, 0, none⟩) (by have := hRH.out; show w.heap.size ≤ R; omega) (.slice none 0 0))
          clear hR hE hP hB hM
          go_wp2_with fail
          refine bodyPost_ret (results_blk_tmp rfl rfl hRS.out rowPay) rfl ?_
          rw [hend.out]
          exact ⟨none, 0, rfl, ⟨rfl, Nat.le_refl _, .inl rfl⟩, hBS.out⟩
        · have hj1 : (0 : Int) < (j : Int) := by omega
          have gj : decide ((0 : Int) < (j : Int)) = true := decide_eq_true hj1
          obtain ⟨pb, po, g, rfl, c0, hle⟩ := hflH.out hj1
          have gle : decide (f ≤ g) = false := decide_eq_false hle
          clear hflH
          have hRS := Lib.hid (hR.set 0 (.slice none 0 0))
          have hBS := Lib.hid (hB.setCell (p := ⟨R, 0, none⟩) (by have := hRH.out; show w.heap.size ≤ R; omega) (.slice none 0 0))
          clear hR hE hP hB hM
          go_wp2_with fail
          refine bodyPost_ret (results_blk_tmp rfl rfl hRS.out rowPay) rfl ?_
          rw [hend.out]
          exact ⟨none, 0, rfl, ⟨rfl, Nat.le_refl _, .inl rfl⟩, hBS.out⟩
      have q2 : ¬ (64 : Int) < (L : Int) := by omega
      have g2 : decide ((64 : Int) < (L : Int)) = false := decide_eq_false q2
      have eL : ¬ (rest.getD 4 0 < 1 ∨ 64 < rest.getD 4 0) := by rw [hL]; omega
      by_cases hcut : m < 5 + L
      · have q3 : (m : Int) < 5 + (L : Int) := by omega
        have ec : rest.length < 5 + L := by omega
        rw [decT_cut hnb hl5 eL hL ec, foldr_bad us (by decide)] at hdec
        have hend := Lib.hid hdec
        clear hdec hI hrr hur hl hm hx hbe hok hnb hfr hlt h5 hL1 hL2 hL hc r4 hcut
        by_cases hj0 : j = 0
        · have hj1 : ¬ (0 : Int) < (j : Int) := by omega
          have gj : decide ((0 : Int) < (j : Int)) = false := decide_eq_false hj1
          clear hflH
          have hRS := Lib.hid (hR.set 0 (.slice none 0 0))
          have hBS := Lib.hid (hB.setCell (p := ⟨R, 0, none⟩) (by have := hRH.out; show w.heap.size ≤ R; omega) (.slice none 0 0))
          clear hR hE hP hB hM
          go_wp2_with fail
          refine bodyPost_ret (results_blk_tmp rfl rfl hRS.out rowPay) rfl ?_
          rw [hend.out]
          exact ⟨none, 0, rfl, ⟨rfl, Nat.le_refl _, .inl rfl⟩, hBS.out⟩
        · have hj1 : (0 : Int) < (j : Int) := by omega
          have gj : decide ((0 : Int) < (j : Int)) = true := decide_eq_true hj1
          obtain ⟨pb, po, g, rfl, c0, hle⟩ := hflH.out hj1
          have gle : decide (f ≤ g) = false := decide_eq_false hle
          clear hflH
          have hRS := Lib.hid (hR.set 0 (.slice none 0 0))
          have hBS := Lib.hid (hB.setCell (p := ⟨R, 0, none⟩) (by have := hRH.out; show w.heap.size ≤ R; omega) (.slice none 0 0))
          clear hR hE hP hB hM
          go_wp2_with fail
          refine bodyPost_ret (results_blk_tmp rfl rfl hRS.out rowPay) rfl ?_
          rw [hend.out]
          exact ⟨none, 0, rfl, ⟨rfl, Nat.le_refl _, .inl rfl⟩, hBS.out⟩
      have q3 : ¬ (m : Int) < 5 + (L : Int) := by omega
      have ec : ¬ rest.length < 5 + L := by omega
      rw [decT_go (N := L) hnb hl5 eL hL ec, hbe] at hdec
      have hys := hI.cut2 5 (5 + L) (by omega) (by omega)
      rw [show 5 + L - 5 = L by omega] at hys
      have hnx := hI.cutAt (5 + L) (by omega)
      have s2 := fun wx => run_cut2 (P := Tryd.prog) 27 5 Tryd.underlying27 size8_13' wx (some ⟨b, off, none⟩) m d .i64 .i64 5 (5 + L) (by omega) (by have := hI.2.1; omega)
      have s3 := fun wx => run_cut (P := Tryd.prog) 27 5 Tryd.underlying27 size8_13' wx (some ⟨b, off, none⟩) m d .i64 (5 + L) (by omega)
      rw [show 5 + L - 5 = L by omega, show ((5 + L : Nat) : Int) = 5 + (L : Int) by omega, show ((5 : Nat) : Int) = 5 from rfl] at s2
      rw [show ((5 + L : Nat) : Int) = 5 + (L : Int) by omega] at s3
      have hysr : ∀ x ∈ (rest.drop 5).take L, 0 ≤ x ∧ x < 256 := fun x hx => hrr x (List.mem_of_mem_drop (List.mem_of_mem_take hx))
      have hnxr : ∀ x ∈ rest.drop (5 + L), 0 ≤ x ∧ x < 256 := fun x hx => hrr x (List.mem_of_mem_drop hx)
      obtain ⟨ys, hyse⟩ : ∃ ys, (rest.drop 5).take L = ys := ⟨_, rfl⟩
      obtain ⟨nx, hnxe⟩ : ∃ ys, rest.drop (5 + L) = ys := ⟨_, rfl⟩
      rw [hyse] at hys hysr hdec
      rw [hnxe] at hnx hnxr hdec
      have hdec2 : decP xs = (us ++ [(f, ys)]).foldr consR (decT (N - (j + 1)) (lastF (-1) (us ++ [(f, ys)])) nx) := by
        rw [List.foldr_append, lastF_append, show N - (j + 1) = k by omega]
        exact hdec
      have hur2 : ∀ t ∈ us ++ [(f, ys)], Ranged t := fun t ht => by
        rcases List.mem_append.1 ht with ht | ht
        · exact hur t ht
        · obtain rfl := List.mem_singleton.1 ht
          exact ⟨hfr, hysr⟩
      obtain ⟨A2, hA2⟩ : ∃ A, cutAddr (some ⟨b, off, none⟩) d 5 = A := ⟨_, rfl⟩
      obtain ⟨d5, hd5⟩ : ∃ x, d - 5 = x := ⟨_, rfl⟩
      obtain ⟨A3, hA3⟩ : ∃ A, cutAddr (some ⟨b, off, none⟩) d (5 + L) = A := ⟨_, rfl⟩
      obtain ⟨m9, hm9⟩ : ∃ x, m - (5 + L) = x := ⟨_, rfl⟩
      obtain ⟨d9, hd9⟩ : ∃ x, d - (5 + L) = x := ⟨_, rfl⟩
      rw [hA2, hd5] at hys s2
      rw [hA3, hm9, hd9] at hnx s3
      have hm9i : m9 ≤ 10000 := by omega
      have hN1 := Lib.hid (And.intro hnx (And.intro hnxr (And.intro hur2 (And.intro hdec2 (And.intro hm9i hlt)))))
      have hyH := Lib.hid hys
      have hKH := Lib.hid (And.intro hM (And.intro hR (And.intro hE (And.intro hP hB))))
      have hL64 := Lib.hid (show L ≤ 64 by omega)
      have w5H := Lib.hid (show IntKind.i64.wrap (5 + (L : Int)) = 5 + (L : Int) by rw [IntKind.wrap_i64]; omega)
      clear hM hR hE hP hB hI hrr hur hl hm hx hbe hok hnb hfr hlt h5 hL1 hL2 hL hc r4 hcut hdec hys hnx hysr hnxr hyse hnxe hdec2 hur2 hA2 hd5 hA3 hm9 hd9 hm9i hk
      by_cases hj0 : j = 0
      · subst hj0
        clear hflH
        go_wp2_with fail
        obtain ⟨V0, hV0⟩ : ∃ V, W.drew = V := ⟨_, rfl⟩
        have bV : Below W.heap.size W V0 := by rw [← hV0]; exact (Below.refl _ _).drew
        obtain ⟨hM, hR, hE, hP, hB⟩ := hKH.out
        have hM0 := hM.keep bV
        have hR0 := hR.keep bV hR.lt
        have hE0 := hE.keep bV hE.lt
        have hP0 := hP.keep bV hP.lt
        have hB0 := hB.trans (bV.mono hB.size)
        refine region_seqS (fun _ => True) (by kernel_rfl) trivial ?_
        simp only [pairs, Nat.reduceAdd]
        rw [hV0]
        clear hV0 hM hR hE hP hB bV hKH kE kR fR kP d4
        have w5 := w5H.out
        repeat (first
          | (refine SeqS.take (v := ?_) (by first | assumption | trivial) (by kernel_rfl) (by decide +kernel) (by decide +kernel) (Or.inl ⟨by rfl, ?_⟩) ?_
             rotate_left
             focus
               intro w' hb'
               go_simp
               with_reducible rfl
             simp only [Act.put, List.setIfInBounds_toArray, List.set_cons_zero, List.set_cons_succ])
          | (refine SeqS.take (v := ?_) (by first | assumption | trivial) (by kernel_rfl) (by decide +kernel) (by decide +kernel) (Or.inl ⟨by rfl, ?_⟩) ?_
             rotate_left
             focus
               intro w' hb'
               have d0 := s2 w'
               go_simp
               with_reducible rfl
             simp only [Act.put, List.setIfInBounds_toArray, List.set_cons_zero, List.set_cons_succ])
          | (refine SeqS.take (v := undef) (by first | assumption | trivial) (by kernel_rfl) (by decide +kernel) (by decide +kernel) (Or.inr ⟨by rfl, rfl⟩) ?_
             simp only [Act.put, List.setIfInBounds_toArray, List.set_cons_zero, List.set_cons_succ])
          | (refine SeqS.take1 (v := ?_) (by first | assumption | trivial) (by kernel_rfl) (by decide +kernel) (by decide +kernel) (Or.inl ⟨by rfl, ?_⟩) ?_
             rotate_left
             focus
               intro w' hb'
               go_simp
               with_reducible rfl
             simp only [Act.put, List.setIfInBounds_toArray, List.set_cons_zero, List.set_cons_succ])
          | (refine SeqS.take1 (v := ?_) (by first | assumption | trivial) (by kernel_rfl) (by decide +kernel) (by decide +kernel) (Or.inl ⟨by rfl, ?_⟩) ?_
             rotate_left
             focus
               intro w' hb'
               have d0 := s2 w'
               go_simp
               with_reducible rfl
             simp only [Act.put, List.setIfInBounds_toArray, List.set_cons_zero, List.set_cons_succ])
          | (refine SeqS.take1 (v := undef) (by first | assumption | trivial) (by kernel_rfl) (by decide +kernel) (by decide +kernel) (Or.inr ⟨by rfl, rfl⟩) ?_
             simp only [Act.put, List.setIfInBounds_toArray, List.set_cons_zero, List.set_cons_succ])
          | (refine SeqS.take2 (v := ?_) (by first | assumption | trivial) (by kernel_rfl) (by decide +kernel) (by decide +kernel) (Or.inl ⟨by rfl, ?_⟩) ?_
             rotate_left
             focus
               intro w' hb'
               go_simp
               with_reducible rfl
             simp only [Act.put, List.setIfInBounds_toArray, List.set_cons_zero, List.set_cons_succ])
          | (refine SeqS.take2 (v := ?_) (by first | assumption | trivial) (by kernel_rfl) (by decide +kernel) (by decide +kernel) (Or.inl ⟨by rfl, ?_⟩) ?_
             rotate_left
             focus
               intro w' hb'
               have d0 := s2 w'
               go_simp
               with_reducible rfl
             simp only [Act.put, List.setIfInBounds_toArray, List.set_cons_zero, List.set_cons_succ])
          | (refine SeqS.take2 (v := undef) (by first | assumption | trivial) (by kernel_rfl) (by decide +kernel) (by decide +kernel) (Or.inr ⟨by rfl, rfl⟩) ?_
             simp only [Act.put, List.setIfInBounds_toArray, List.set_cons_zero, List.set_cons_succ])
          | (refine SeqS.take3 (v := ?_) (by first | assumption | trivial) (by kernel_rfl) (by decide +kernel) (by decide +kernel) (Or.inl ⟨by rfl, ?_⟩) ?_
             rotate_left
             focus
               intro w' hb'
               go_simp
               with_reducible rfl
             simp only [Act.put, List.setIfInBounds_toArray, List.set_cons_zero, List.set_cons_succ])
          | (refine SeqS.take3 (v := ?_) (by first | assumption | trivial) (by kernel_rfl) (by decide +kernel) (by decide +kernel) (Or.inl ⟨by rfl, ?_⟩) ?_
             rotate_left
             focus
               intro w' hb'
               have d0 := s2 w'
               go_simp
               with_reducible rfl
             simp only [Act.put, List.setIfInBounds_toArray, List.set_cons_zero, List.set_cons_succ])
          | (refine SeqS.take3 (v := undef) (by first | assumption | trivial) (by kernel_rfl) (by decide +kernel) (by decide +kernel) (Or.inr ⟨by rfl, rfl⟩) ?_
             simp only [Act.put, List.setIfInBounds_toArray, List.set_cons_zero, List.set_cons_succ])
          | (refine SeqS.take4 (v := ?_) (by first | assumption | trivial) (by kernel_rfl) (by decide +kernel) (by decide +kernel) (Or.inl ⟨by rfl, ?_⟩) ?_
             rotate_left
             focus
               intro w' hb'
               go_simp
               with_reducible rfl
             simp only [Act.put, List.setIfInBounds_toArray, List.set_cons_zero, List.set_cons_succ])
          | (refine SeqS.take4 (v := ?_) (by first | assumption | trivial) (by kernel_rfl) (by decide +kernel) (by decide +kernel) (Or.inl ⟨by rfl, ?_⟩) ?_
             rotate_left
             focus
               intro w' hb'
               have d0 := s2 w'
               go_simp
               with_reducible rfl
             simp only [Act.put, List.setIfInBounds_toArray, List.set_cons_zero, List.set_cons_succ])
          | (refine SeqS.take4 (v := undef) (by first | assumption | trivial) (by kernel_rfl) (by decide +kernel) (by decide +kernel) (Or.inr ⟨by rfl, rfl⟩) ?_
             simp only [Act.put, List.setIfInBounds_toArray, List.set_cons_zero, List.set_cons_succ])
          | (refine SeqS.take5 (v := ?_) (by first | assumption | trivial) (by kernel_rfl) (by decide +kernel) (by decide +kernel) (Or.inl ⟨by rfl, ?_⟩) ?_
             rotate_left
             focus
               intro w' hb'
               go_simp
               with_reducible rfl
             simp only [Act.put, List.setIfInBounds_toArray, List.set_cons_zero, List.set_cons_succ])
          | (refine SeqS.take5 (v := ?_) (by first | assumption | trivial) (by kernel_rfl) (by decide +kernel) (by decide +kernel) (Or.inl ⟨by rfl, ?_⟩) ?_
             rotate_left
             focus
               intro w' hb'
               have d0 := s2 w'
               go_simp
               with_reducible rfl
             simp only [Act.put, List.setIfInBounds_toArray, List.set_cons_zero, List.set_cons_succ])
          | (refine SeqS.take5 (v := undef) (by first | assumption | trivial) (by kernel_rfl) (by decide +kernel) (by decide +kernel) (Or.inr ⟨by rfl, rfl⟩) ?_
             simp only [Act.put, List.setIfInBounds_toArray, List.set_cons_zero, List.set_cons_succ])
          | (refine SeqS.take6 (v := ?_) (by first | assumption | trivial) (by kernel_rfl) (by decide +kernel) (by decide +kernel) (Or.inl ⟨by rfl, ?_⟩) ?_
             rotate_left
             focus
               intro w' hb'
               go_simp
               with_reducible rfl
             simp only [Act.put, List.setIfInBounds_toArray, List.set_cons_zero, List.set_cons_succ])
          | (refine SeqS.take6 (v := ?_) (by first | assumption | trivial) (by kernel_rfl) (by decide +kernel) (by decide +kernel) (Or.inl ⟨by rfl, ?_⟩) ?_
             rotate_left
             focus
               intro w' hb'
               have d0 := s2 w'
               go_simp
               with_reducible rfl
             simp only [Act.put, List.setIfInBounds_toArray, List.set_cons_zero, List.set_cons_succ])
          | (refine SeqS.take6 (v := undef) (by first | assumption | trivial) (by kernel_rfl) (by decide +kernel) (by decide +kernel) (Or.inr ⟨by rfl, rfl⟩) ?_
             simp only [Act.put, List.setIfInBounds_toArray, List.set_cons_zero, List.set_cons_succ]))
        clear w5
        obtain ⟨V1, hV1⟩ : ∃ V, V0.alloc (.cells #[] 5) = V := ⟨_, rfl⟩
        have own1 : V1.ownsRow V0.heap.size 5 1 (.slice (some ⟨V0.heap.size, 0, none⟩) 0 0) 0 [] := by rw [← hV1]; exact World.ownsRow_made V0 #[] 0 (Nat.le_refl _) (Nat.zero_le _) rfl
        have b01 : Below V0.heap.size V0 V1 := by rw [← hV1]; exact below1 V0 _
        have II1 := hyH.out.keep (hB0.trans (b01.mono hB0.size))
        have kP0 := hP0.cell 0
        have kP1 := (hP0.keep b01 hP0.lt).cell 0
        have hBs : w.heap.size + 3 ≤ V0.heap.size := by have := hPH.out; have := hP0.lt; omega
        refine SeqS.either (rs := [1, 3]) (by decide +kernel) ?_
        intro o ho
        simp only [List.mem_cons, List.not_mem_nil, or_false] at ho
        rcases ho with rfl | rfl
        · refine ⟨[], _, [_, _, _, _, _, _, _], rfl, by rfl, fun K hK => ?_⟩
          go_simp
          refine hK _ _ trivial ?_
          clear hK K
          (try simp only [Act.put, List.setIfInBounds_toArray, List.set_cons_zero, List.set_cons_succ])
          refine SeqS.alone (by decide +kernel) (by rfl) (fun K hK => ?_)
          go_simp
          try rw [hV1]
          refine hK _ _ trivial ?_
          clear hK K
          (try simp only [Act.put, List.setIfInBounds_toArray, List.set_cons_zero, List.set_cons_succ])
          refine SeqS.alone (by decide +kernel) (by rfl) (fun K hK => ?_)
          refine wp_append_ints (.tmp 97) (.tmp 101) 27 rfl V0.heap.size 5 i1 (.int .u8 0) 1 Tryd.underlying27 hi1 hy0 hy1 hy2 rfl rfl own1 rfl II1 (by have := hL64.out; unfold maxLen; omega) (by have := hL64.out; omega) b01.size ?_
          intro v2 V2 hown2 hg2
          rw [List.nil_append, Nat.zero_add] at hown2
          have hsl2 : ∃ b c, v2 = .slice b L c := own_slice32 hown2
          obtain ⟨b2, c2, hv2⟩ := hsl2
          rw [hv2] at hown2 ⊢
          have b02 : Below V0.heap.size V0 V2 := b01.grown hg2 b01.size (fun q hq => by injection hq with hq; rw [← hq]; exact Nat.le_refl _)
          have kP2 := (hP0.keep b02 hP0.lt).cell 0
          refine hK _ _ trivial ?_
          clear hK K
          (try simp only [Act.put, List.setIfInBounds_toArray, List.set_cons_zero, List.set_cons_succ])
          repeat (first
            | (refine SeqS.take (v := ?_) (by first | assumption | trivial) (by kernel_rfl) (by decide +kernel) (by decide +kernel) (Or.inl ⟨by rfl, ?_⟩) ?_
               rotate_left
               focus
                 intro w' hb'
                 go_simp
                 with_reducible rfl
               simp only [Act.put, List.setIfInBounds_toArray, List.set_cons_zero, List.set_cons_succ])
            | (refine SeqS.take (v := undef) (by first | assumption | trivial) (by kernel_rfl) (by decide +kernel) (by decide +kernel) (Or.inr ⟨by rfl, rfl⟩) ?_
               simp only [Act.put, List.setIfInBounds_toArray, List.set_cons_zero, List.set_cons_succ])
            | (refine SeqS.take1 (v := ?_) (by first | assumption | trivial) (by kernel_rfl) (by decide +kernel) (by decide +kernel) (Or.inl ⟨by rfl, ?_⟩) ?_
               rotate_left
               focus
                 intro w' hb'
                 go_simp
                 with_reducible rfl
               simp only [Act.put, List.setIfInBounds_toArray, List.set_cons_zero, List.set_cons_succ])
            | (refine SeqS.take1 (v := undef) (by first | assumption | trivial) (by kernel_rfl) (by decide +kernel) (by decide +kernel) (Or.inr ⟨by rfl, rfl⟩) ?_
               simp only [Act.put, List.setIfInBounds_toArray, List.set_cons_zero, List.set_cons_succ])
            | (refine SeqS.take2 (v := ?_) (by first | assumption | trivial) (by kernel_rfl) (by decide +kernel) (by decide +kernel) (Or.inl ⟨by rfl, ?_⟩) ?_
               rotate_left
               focus
                 intro w' hb'
                 go_simp
                 with_reducible rfl
               simp only [Act.put, List.setIfInBounds_toArray, List.set_cons_zero, List.set_cons_succ])
            | (refine SeqS.take2 (v := undef) (by first | assumption | trivial) (by kernel_rfl) (by decide +kernel) (by decide +kernel) (Or.inr ⟨by rfl, rfl⟩) ?_
               simp only [Act.put, List.setIfInBounds_toArray, List.set_cons_zero, List.set_cons_succ]))
          refine SeqS.alone (by decide +kernel) (by rfl) (fun K hK => ?_)
          go_simp
          have hnew3 := Blk.new V2 41 [.int .u32 f, .slice b2 L c2]
          have b23 := below1 V2 (.cells #[.int .u32 f, .slice b2 L c2] 41)
          have b03 := b02.trans (b23.mono b02.size)
          obtain ⟨V3, hV3⟩ : ∃ V, V2.alloc (.cells #[.int .u32 f, .slice b2 L c2] 41) = V := ⟨_, rfl⟩
          rw [hV3] at hnew3 b23 b03
          rw [hV3]
          have kP3 := (hP0.keep b03 hP0.lt).cell 0
          refine hK _ _ trivial ?_
          clear hK K
          (try simp only [Act.put, List.setIfInBounds_toArray, List.set_cons_zero, List.set_cons_succ])
          have hM3 := hM0.keep b03
          have hown3 : V3.ownsRow (w.heap.size + 3) 5 1 (.slice b2 L c2) L (ys.map (Value.int .u8)) := own_low9 (own_stay9 hown2 b23) hBs
          have hB3 := hB0.trans (b03.mono hB0.size)
          have hj8 : 0 ≤ 8 := by have := hNN.out; have := hN1.out.2.2.2.2.2; omega
          have hneo : ∀ q, q < w.heap.size + 3 → some q ≠ (Value.slice ub 0 uc).ownBlock := fun q hq e => by have := (hM3.row.lt q e.symm).1; omega
          refine SeqS.alone (by decide +kernel) (by rfl) (fun K hK => ?_)
          refine wp_append_own V3 (.tmp 95) (.tmp 104) 22 rfl (w.heap.size + 3) 41 i0 _ 2 32 Tryd.underlying22 hi hz0 hz1 hz2 (by simp [Value.cells]) (by decide) (.slice ub 0 uc) 0 (tcells us ps) rfl hM3.row ⟨V2.heap.size, 0, none⟩ 1 1 [.int .u32 f, .slice b2 L c2] rfl rfl (by intro t u ht; rw [add_at9, hnew3.cell]; exact ht) (by simp [Value.oneCell']) (by unfold maxLen; omega) (by omega) (Nat.le_trans hBs b03.size) ?_
          intro v4 V4 hown4 hg4 _
          have hM4 := hM3.snoc hown3 hown4 hg4
          have hsl4 := hM4.slice
          obtain ⟨b4, c4, hv4⟩ := hsl4
          rw [hv4] at hM4 ⊢
          have hP4 := (hP0.keep b03 hP0.lt).grown hg4 (hneo P (by have := hPH.out; omega))
          have hR4 := (hR0.keep b03 hR0.lt).grown hg4 (hneo R (by have := hRH.out; omega))
          have hE4 := (hE0.keep b03 hE0.lt).grown hg4 (hneo E (by have := hEH.out; omega))
          have hB4 := hB3.grown hg4 hB3.size (fun q hq => by have := (hM3.row.lt q hq).1; omega)
          refine hK _ _ trivial ?_
          clear hK K
          (try simp only [Act.put, List.setIfInBounds_toArray, List.set_cons_zero, List.set_cons_succ])
          repeat (first
            | (refine SeqS.take (v := ?_) (by first | assumption | trivial) (by kernel_rfl) (by decide +kernel) (by decide +kernel) (Or.inl ⟨by rfl, ?_⟩) ?_
               rotate_left
               focus
                 intro w' hb'
                 go_simp
                 with_reducible rfl
               simp only [Act.put, List.setIfInBounds_toArray, List.set_cons_zero, List.set_cons_succ])
            | (refine SeqS.take (v := undef) (by first | assumption | trivial) (by kernel_rfl) (by decide +kernel) (by decide +kernel) (Or.inr ⟨by rfl, rfl⟩) ?_
               simp only [Act.put, List.setIfInBounds_toArray, List.set_cons_zero, List.set_cons_succ])
            | (refine SeqS.take1 (v := ?_) (by first | assumption | trivial) (by kernel_rfl) (by decide +kernel) (by decide +kernel) (Or.inl ⟨by rfl, ?_⟩) ?_
               rotate_left
               focus
                 intro w' hb'
                 go_simp
                 with_reducible rfl
               simp only [Act.put, List.setIfInBounds_toArray, List.set_cons_zero, List.set_cons_succ])
            | (refine SeqS.take1 (v := undef) (by first | assumption | trivial) (by kernel_rfl) (by decide +kernel) (by decide +kernel) (Or.inr ⟨by rfl, rfl⟩) ?_
               simp only [Act.put, List.setIfInBounds_toArray, List.set_cons_zero, List.set_cons_succ])
            | (refine SeqS.take2 (v := ?_) (by first | assumption | trivial) (by kernel_rfl) (by decide +kernel) (by decide +kernel) (Or.inl ⟨by rfl, ?_⟩) ?_
               rotate_left
               focus
                 intro w' hb'
                 go_simp
                 with_reducible rfl
               simp only [Act.put, List.setIfInBounds_toArray, List.set_cons_zero, List.set_cons_succ])
            | (refine SeqS.take2 (v := undef) (by first | assumption | trivial) (by kernel_rfl) (by decide +kernel) (by decide +kernel) (Or.inr ⟨by rfl, rfl⟩) ?_
               simp only [Act.put, List.setIfInBounds_toArray, List.set_cons_zero, List.set_cons_succ]))
          refine SeqS.alone (by decide +kernel) (by rfl) (fun K hK => ?_)
          have cP := hP4.cell 0
          have fP := hP4.frozen 0
          go_simp
          refine hK _ _ trivial ?_
          clear hK K
          (try simp only [Act.put, List.setIfInBounds_toArray, List.set_cons_zero, List.set_cons_succ])
          refine SeqS.done (by decide +kernel) ?_
          have hP5 := hP4.set 0 (.slice b4 1 c4)
          have hR5 := hR4.far (p := ⟨P, 0, none⟩) (by show R ≠ P; have := hPH.out; have := hRH.out; omega) (.slice b4 1 c4)
          have hE5 := hE4.far (p := ⟨P, 0, none⟩) (by show E ≠ P; have := hPH.out; have := hEH.out; omega) (.slice b4 1 c4)
          have hB5 := hB4.setCell (p := ⟨P, 0, none⟩) (by show w.heap.size ≤ P; have := hPH.out; omega) (.slice b4 1 c4)
          have hM5 := hM4.moved (w' := V4.setCell ⟨P, 0, none⟩ (.slice b4 1 c4)) (fun q hq _ => Below.heap_setCell V4 ⟨P, 0, none⟩ _ q (by show q ≠ P; have := hPH.out; omega))
          obtain ⟨V5, hV5⟩ : ∃ V, V4.setCell ⟨P, 0, none⟩ (.slice b4 1 c4) = V := ⟨_, rfl⟩
          rw [hV5] at hP5 hR5 hE5 hB5 hM5
          rw [hV5]
          obtain ⟨hnx, hnxr, hur2, hdec2, hm9i, hlt⟩ := hN1.out
          have hfinal := Lib.hid (And.intro hnx (And.intro hnxr (And.intro hur2 (And.intro hdec2 (And.intro hm9i (And.intro hlt (And.intro hM5 (And.intro hR5 (And.intro hE5 (And.intro hP5 hB5))))))))))
          clear hV5 hM4 hP4 hR4 hE4 hB4 hown4 hg4 hM3 hown3 hB3 hneo hnx hnxr hur2 hdec2 hm9i hlt hN1 hP5 hR5 hE5 hB5 hM5 cP fP hnew3 b23 b03 b02 hown2 hg2 own1 b01 II1 kP0 kP1 kP2 kP3 hBs hM0 hR0 hE0 hP0 hB0 s2 hV3 hV1 hyH
          go_wp2
          obtain ⟨hnx, hnxr, hur2, hdec2, hm9i, hlt, hM5, hR5, hE5, hP5, hB5⟩ := hfinal.out
          exact ⟨⟨1, us ++ [(f, ys)], ps ++ [(b2, c2)], .slice b4 1 c4, A3, m9, d9, nx, by omega, by congr 1, rfl, hm9i, hnx, hnxr, hur2, hdec2, hM5, hR5, hE5, hP5, hB5⟩, by simp only [intOf]; omega⟩
        · refine ⟨[_], _, [_, _, _, _, _, _], rfl, by rfl, fun K hK => ?_⟩
          go_simp
          try rw [hV1]
          refine hK _ _ trivial ?_
          clear hK K
          (try simp only [Act.put, List.setIfInBounds_toArray, List.set_cons_zero, List.set_cons_succ])
          refine SeqS.either (rs := [1, 8]) (by decide +kernel) ?_
          intro o ho
          simp only [List.mem_cons, List.not_mem_nil, or_false] at ho
          rcases ho with rfl | rfl
          · refine ⟨[], _, [_, _, _, _, _, _], rfl, by rfl, fun K hK => ?_⟩
            go_simp
            refine hK _ _ trivial ?_
            clear hK K
            (try simp only [Act.put, List.setIfInBounds_toArray, List.set_cons_zero, List.set_cons_succ])
            refine SeqS.alone (by decide +kernel) (by rfl) (fun K hK => ?_)
            refine wp_append_ints (.tmp 97) (.tmp 101) 27 rfl V0.heap.size 5 i1 (.int .u8 0) 1 Tryd.underlying27 hi1 hy0 hy1 hy2 rfl rfl own1 rfl II1 (by have := hL64.out; unfold maxLen; omega) (by have := hL64.out; omega) b01.size ?_
            intro v2 V2 hown2 hg2
            rw [List.nil_append, Nat.zero_add] at hown2
            have hsl2 : ∃ b c, v2 = .slice b L c := own_slice32 hown2
            obtain ⟨b2, c2, hv2⟩ := hsl2
            rw [hv2] at hown2 ⊢
            have b02 : Below V0.heap.size V0 V2 := b01.grown hg2 b01.size (fun q hq => by injection hq with hq; rw [← hq]; exact Nat.le_refl _)
            have kP2 := (hP0.keep b02 hP0.lt).cell 0
            refine hK _ _ trivial ?_
            clear hK K
            (try simp only [Act.put, List.setIfInBounds_toArray, List.set_cons_zero, List.set_cons_succ])
            repeat (first
              | (refine SeqS.take (v := ?_) (by first | assumption | trivial) (by kernel_rfl) (by decide +kernel) (by decide +kernel) (Or.inl ⟨by rfl, ?_⟩) ?_
                 rotate_left
                 focus
                   intro w' hb'
                   go_simp
                   with_reducible rfl
                 simp only [Act.put, List.setIfInBounds_toArray, List.set_cons_zero, List.set_cons_succ])
              | (refine SeqS.take (v := undef) (by first | assumption | trivial) (by kernel_rfl) (by decide +kernel) (by decide +kernel) (Or.inr ⟨by rfl, rfl⟩) ?_
                 simp only [Act.put, List.setIfInBounds_toArray, List.set_cons_zero, List.set_cons_succ])
              | (refine SeqS.take1 (v := ?_) (by first | assumption | trivial) (by kernel_rfl) (by decide +kernel) (by decide +kernel) (Or.inl ⟨by rfl, ?_⟩) ?_
                 rotate_left
                 focus
                   intro w' hb'
                   go_simp
                   with_reducible rfl
                 simp only [Act.put, List.setIfInBounds_toArray, List.set_cons_zero, List.set_cons_succ])
              | (refine SeqS.take1 (v := undef) (by first | assumption | trivial) (by kernel_rfl) (by decide +kernel) (by decide +kernel) (Or.inr ⟨by rfl, rfl⟩) ?_
                 simp only [Act.put, List.setIfInBounds_toArray, List.set_cons_zero, List.set_cons_succ])
              | (refine SeqS.take2 (v := ?_) (by first | assumption | trivial) (by kernel_rfl) (by decide +kernel) (by decide +kernel) (Or.inl ⟨by rfl, ?_⟩) ?_
                 rotate_left
                 focus
                   intro w' hb'
                   go_simp
                   with_reducible rfl
                 simp only [Act.put, List.setIfInBounds_toArray, List.set_cons_zero, List.set_cons_succ])
              | (refine SeqS.take2 (v := undef) (by first | assumption | trivial) (by kernel_rfl) (by decide +kernel) (by decide +kernel) (Or.inr ⟨by rfl, rfl⟩) ?_
                 simp only [Act.put, List.setIfInBounds_toArray, List.set_cons_zero, List.set_cons_succ]))
            refine SeqS.alone (by decide +kernel) (by rfl) (fun K hK => ?_)
            go_simp
            have hnew3 := Blk.new V2 41 [.int .u32 f, .slice b2 L c2]
            have b23 := below1 V2 (.cells #[.int .u32 f, .slice b2 L c2] 41)
            have b03 := b02.trans (b23.mono b02.size)
            obtain ⟨V3, hV3⟩ : ∃ V, V2.alloc (.cells #[.int .u32 f, .slice b2 L c2] 41) = V := ⟨_, rfl⟩
            rw [hV3] at hnew3 b23 b03
            rw [hV3]
            have kP3 := (hP0.keep b03 hP0.lt).cell 0
            refine hK _ _ trivial ?_
            clear hK K
            (try simp only [Act.put, List.setIfInBounds_toArray, List.set_cons_zero, List.set_cons_succ])
            have hM3 := hM0.keep b03
            have hown3 : V3.ownsRow (w.heap.size + 3) 5 1 (.slice b2 L c2) L (ys.map (Value.int .u8)) := own_low9 (own_stay9 hown2 b23) hBs
            have hB3 := hB0.trans (b03.mono hB0.size)
            have hj8 : 0 ≤ 8 := by have := hNN.out; have := hN1.out.2.2.2.2.2; omega
            have hneo : ∀ q, q < w.heap.size + 3 → some q ≠ (Value.slice ub 0 uc).ownBlock := fun q hq e => by have := (hM3.row.lt q e.symm).1; omega
            refine SeqS.alone (by decide +kernel) (by rfl) (fun K hK => ?_)
            refine wp_append_own V3 (.tmp 95) (.tmp 104) 22 rfl (w.heap.size + 3) 41 i0 _ 2 32 Tryd.underlying22 hi hz0 hz1 hz2 (by simp [Value.cells]) (by decide) (.slice ub 0 uc) 0 (tcells us ps) rfl hM3.row ⟨V2.heap.size, 0, none⟩ 1 1 [.int .u32 f, .slice b2 L c2] rfl rfl (by intro t u ht; rw [add_at9, hnew3.cell]; exact ht) (by simp [Value.oneCell']) (by unfold maxLen; omega) (by omega) (Nat.le_trans hBs b03.size) ?_
            intro v4 V4 hown4 hg4 _
            have hM4 := hM3.snoc hown3 hown4 hg4
            have hsl4 := hM4.slice
            obtain ⟨b4, c4, hv4⟩ := hsl4
            rw [hv4] at hM4 ⊢
            have hP4 := (hP0.keep b03 hP0.lt).grown hg4 (hneo P (by have := hPH.out; omega))
            have hR4 := (hR0.keep b03 hR0.lt).grown hg4 (hneo R (by have := hRH.out; omega))
            have hE4 := (hE0.keep b03 hE0.lt).grown hg4 (hneo E (by have := hEH.out; omega))
            have hB4 := hB3.grown hg4 hB3.size (fun q hq => by have := (hM3.row.lt q hq).1; omega)
            refine hK _ _ trivial ?_
            clear hK K
            (try simp only [Act.put, List.setIfInBounds_toArray, List.set_cons_zero, List.set_cons_succ])
            repeat (first
              | (refine SeqS.take (v := ?_) (by first | assumption | trivial) (by kernel_rfl) (by decide +kernel) (by decide +kernel) (Or.inl ⟨by rfl, ?_⟩) ?_
                 rotate_left
                 focus
                   intro w' hb'
                   go_simp
                   with_reducible rfl
                 simp only [Act.put, List.setIfInBounds_toArray, List.set_cons_zero, List.set_cons_succ])
              | (refine SeqS.take (v := undef) (by first | assumption | trivial) (by kernel_rfl) (by decide +kernel) (by decide +kernel) (Or.inr ⟨by rfl, rfl⟩) ?_
                 simp only [Act.put, List.setIfInBounds_toArray, List.set_cons_zero, List.set_cons_succ])
              | (refine SeqS.take1 (v := ?_) (by first | assumption | trivial) (by kernel_rfl) (by decide +kernel) (by decide +kernel) (Or.inl ⟨by rfl, ?_⟩) ?_
                 rotate_left
                 focus
                   intro w' hb'
                   go_simp
                   with_reducible rfl
                 simp only [Act.put, List.setIfInBounds_toArray, List.set_cons_zero, List.set_cons_succ])
              | (refine SeqS.take1 (v := undef) (by first | assumption | trivial) (by kernel_rfl) (by decide +kernel) (by decide +kernel) (Or.inr ⟨by rfl, rfl⟩) ?_
                 simp only [Act.put, List.setIfInBounds_toArray, List.set_cons_zero, List.set_cons_succ])
              | (refine SeqS.take2 (v := ?_) (by first | assumption | trivial) (by kernel_rfl) (by decide +kernel) (by decide +kernel) (Or.inl ⟨by rfl, ?_⟩) ?_
                 rotate_left
                 focus
                   intro w' hb'
                   go_simp
                   with_reducible rfl
                 simp only [Act.put, List.setIfInBounds_toArray, List.set_cons_zero, List.set_cons_succ])
              | (refine SeqS.take2 (v := undef) (by first | assumption | trivial) (by kernel_rfl) (by decide +kernel) (by decide +kernel) (Or.inr ⟨by rfl, rfl⟩) ?_
                 simp only [Act.put, List.setIfInBounds_toArray, List.set_cons_zero, List.set_cons_succ]))
            refine SeqS.alone (by decide +kernel) (by rfl) (fun K hK => ?_)
            have cP := hP4.cell 0
            have fP := hP4.frozen 0
            go_simp
            refine hK _ _ trivial ?_
            clear hK K
            (try simp only [Act.put, List.setIfInBounds_toArray, List.set_cons_zero, List.set_cons_succ])
            refine SeqS.done (by decide +kernel) ?_
            have hP5 := hP4.set 0 (.slice b4 1 c4)
            have hR5 := hR4.far (p := ⟨P, 0, none⟩) (by show R ≠ P; have := hPH.out; have := hRH.out; omega) (.slice b4 1 c4)
            have hE5 := hE4.far (p := ⟨P, 0, none⟩) (by show E ≠ P; have := hPH.out; have := hEH.out; omega) (.slice b4 1 c4)
            have hB5 := hB4.setCell (p := ⟨P, 0, none⟩) (by show w.heap.size ≤ P; have := hPH.out; omega) (.slice b4 1 c4)
            have hM5 := hM4.moved (w' := V4.setCell ⟨P, 0, none⟩ (.slice b4 1 c4)) (fun q hq _ => Below.heap_setCell V4 ⟨P, 0, none⟩ _ q (by show q ≠ P; have := hPH.out; omega))
            obtain ⟨V5, hV5⟩ : ∃ V, V4.setCell ⟨P, 0, none⟩ (.slice b4 1 c4) = V := ⟨_, rfl⟩
            rw [hV5] at hP5 hR5 hE5 hB5 hM5
            rw [hV5]
            obtain ⟨hnx, hnxr, hur2, hdec2, hm9i, hlt⟩ := hN1.out
            have hfinal := Lib.hid (And.intro hnx (And.intro hnxr (And.intro hur2 (And.intro hdec2 (And.intro hm9i (And.intro hlt (And.intro hM5 (And.intro hR5 (And.intro hE5 (And.intro hP5 hB5))))))))))
            clear hV5 hM4 hP4 hR4 hE4 hB4 hown4 hg4 hM3 hown3 hB3 hneo hnx hnxr hur2 hdec2 hm9i hlt hN1 hP5 hR5 hE5 hB5 hM5 cP fP hnew3 b23 b03 b02 hown2 hg2 own1 b01 II1 kP0 kP1 kP2 kP3 hBs hM0 hR0 hE0 hP0 hB0 s2 hV3 hV1 hyH
            go_wp2
            obtain ⟨hnx, hnxr, hur2, hdec2, hm9i, hlt, hM5, hR5, hE5, hP5, hB5⟩ := hfinal.out
            exact ⟨⟨1, us ++ [(f, ys)], ps ++ [(b2, c2)], .slice b4 1 c4, A3, m9, d9, nx, by omega, by congr 1, rfl, hm9i, hnx, hnxr, hur2, hdec2, hM5, hR5, hE5, hP5, hB5⟩, by simp only [intOf]; omega⟩
          · refine ⟨[_], _, [_, _, _, _, _], rfl, by rfl, fun K hK => ?_⟩
            refine wp_append_ints (.tmp 97) (.tmp 101) 27 rfl V0.heap.size 5 i1 (.int .u8 0) 1 Tryd.underlying27 hi1 hy0 hy1 hy2 rfl rfl own1 rfl II1 (by have := hL64.out; unfold maxLen; omega) (by have := hL64.out; omega) b01.size ?_
            intro v2 V2 hown2 hg2
            rw [List.nil_append, Nat.zero_add] at hown2
            have hsl2 : ∃ b c, v2 = .slice b L c := own_slice32 hown2
            obtain ⟨b2, c2, hv2⟩ := hsl2
            rw [hv2] at hown2 ⊢
            have b02 : Below V0.heap.size V0 V2 := b01.grown hg2 b01.size (fun q hq => by injection hq with hq; rw [← hq]; exact Nat.le_refl _)
            have kP2 := (hP0.keep b02 hP0.lt).cell 0
            refine hK _ _ trivial ?_
            clear hK K
            (try simp only [Act.put, List.setIfInBounds_toArray, List.set_cons_zero, List.set_cons_succ])
            repeat (first
              | (refine SeqS.take (v := ?_) (by first | assumption | trivial) (by kernel_rfl) (by decide +kernel) (by decide +kernel) (Or.inl ⟨by rfl, ?_⟩) ?_
                 rotate_left
                 focus
                   intro w' hb'
                   go_simp
                   with_reducible rfl
                 simp only [Act.put, List.setIfInBounds_toArray, List.set_cons_zero, List.set_cons_succ])
              | (refine SeqS.take (v := undef) (by first | assumption | trivial) (by kernel_rfl) (by decide +kernel) (by decide +kernel) (Or.inr ⟨by rfl, rfl⟩) ?_
                 simp only [Act.put, List.setIfInBounds_toArray, List.set_cons_zero, List.set_cons_succ])
              | (refine SeqS.take1 (v := ?_) (by first | assumption | trivial) (by kernel_rfl) (by decide +kernel) (by decide +kernel) (Or.inl ⟨by rfl, ?_⟩) ?_
                 rotate_left
                 focus
                   intro w' hb'
                   go_simp
                   with_reducible rfl
                 simp only [Act.put, List.setIfInBounds_toArray, List.set_cons_zero, List.set_cons_succ])
              | (refine SeqS.take1 (v := undef) (by first | assumption | trivial) (by kernel_rfl) (by decide +kernel) (by decide +kernel) (Or.inr ⟨by rfl, rfl⟩) ?_
                 simp only [Act.put, List.setIfInBounds_toArray, List.set_cons_zero, List.set_cons_succ])
              | (refine SeqS.take2 (v := ?_) (by first | assumption | trivial) (by kernel_rfl) (by decide +kernel) (by decide +kernel) (Or.inl ⟨by rfl, ?_⟩) ?_
                 rotate_left
                 focus
                   intro w' hb'
                   go_simp
                   with_reducible rfl
                 simp only [Act.put, List.setIfInBounds_toArray, List.set_cons_zero, List.set_cons_succ])
              | (refine SeqS.take2 (v := undef) (by first | assumption | trivial) (by kernel_rfl) (by decide +kernel) (by decide +kernel) (Or.inr ⟨by rfl, rfl⟩) ?_
                 simp only [Act.put, List.setIfInBounds_toArray, List.set_cons_zero, List.set_cons_succ]))
            refine SeqS.either (rs := [1, 10]) (by decide +kernel) ?_
            intro o ho
            simp only [List.mem_cons, List.not_mem_nil, or_false] at ho
            rcases ho with rfl | rfl
            · refine ⟨[], _, [_, _, _, _], rfl, by rfl, fun K hK => ?_⟩
              go_simp
              refine hK _ _ trivial ?_
              clear hK K
              (try simp only [Act.put, List.setIfInBounds_toArray, List.set_cons_zero, List.set_cons_succ])
              refine SeqS.alone (by decide +kernel) (by rfl) (fun K hK => ?_)
              go_simp
              have hnew3 := Blk.new V2 41 [.int .u32 f, .slice b2 L c2]
              have b23 := below1 V2 (.cells #[.int .u32 f, .slice b2 L c2] 41)
              have b03 := b02.trans (b23.mono b02.size)
              obtain ⟨V3, hV3⟩ : ∃ V, V2.alloc (.cells #[.int .u32 f, .slice b2 L c2] 41) = V := ⟨_, rfl⟩
              rw [hV3] at hnew3 b23 b03
              rw [hV3]
              have kP3 := (hP0.keep b03 hP0.lt).cell 0
              refine hK _ _ trivial ?_
              clear hK K
              (try simp only [Act.put, List.setIfInBounds_toArray, List.set_cons_zero, List.set_cons_succ])
              have hM3 := hM0.keep b03
              have hown3 : V3.ownsRow (w.heap.size + 3) 5 1 (.slice b2 L c2) L (ys.map (Value.int .u8)) := own_low9 (own_stay9 hown2 b23) hBs
              have hB3 := hB0.trans (b03.mono hB0.size)
              have hj8 : 0 ≤ 8 := by have := hNN.out; have := hN1.out.2.2.2.2.2; omega
              have hneo : ∀ q, q < w.heap.size + 3 → some q ≠ (Value.slice ub 0 uc).ownBlock := fun q hq e => by have := (hM3.row.lt q e.symm).1; omega
              refine SeqS.alone (by decide +kernel) (by rfl) (fun K hK => ?_)
              refine wp_append_own V3 (.tmp 95) (.tmp 104) 22 rfl (w.heap.size + 3) 41 i0 _ 2 32 Tryd.underlying22 hi hz0 hz1 hz2 (by simp [Value.cells]) (by decide) (.slice ub 0 uc) 0 (tcells us ps) rfl hM3.row ⟨V2.heap.size, 0, none⟩ 1 1 [.int .u32 f, .slice b2 L c2] rfl rfl (by intro t u ht; rw [add_at9, hnew3.cell]; exact ht) (by simp [Value.oneCell']) (by unfold maxLen; omega) (by omega) (Nat.le_trans hBs b03.size) ?_
              intro v4 V4 hown4 hg4 _
              have hM4 := hM3.snoc hown3 hown4 hg4
              have hsl4 := hM4.slice
              obtain ⟨b4, c4, hv4⟩ := hsl4
              rw [hv4] at hM4 ⊢
              have hP4 := (hP0.keep b03 hP0.lt).grown hg4 (hneo P (by have := hPH.out; omega))
              have hR4 := (hR0.keep b03 hR0.lt).grown hg4 (hneo R (by have := hRH.out; omega))
              have hE4 := (hE0.keep b03 hE0.lt).grown hg4 (hneo E (by have := hEH.out; omega))
              have hB4 := hB3.grown hg4 hB3.size (fun q hq => by have := (hM3.row.lt q hq).1; omega)
              refine hK _ _ trivial ?_
              clear hK K
              (try simp only [Act.put, List.setIfInBounds_toArray, List.set_cons_zero, List.set_cons_succ])
              repeat (first
                | (refine SeqS.take (v := ?_) (by first | assumption | trivial) (by kernel_rfl) (by decide +kernel) (by decide +kernel) (Or.inl ⟨by rfl, ?_⟩) ?_
                   rotate_left
                   focus
                     intro w' hb'
                     go_simp
                     with_reducible rfl
                   simp only [Act.put, List.setIfInBounds_toArray, List.set_cons_zero, List.set_cons_succ])
                | (refine SeqS.take (v := undef) (by first | assumption | trivial) (by kernel_rfl) (by decide +kernel) (by decide +kernel) (Or.inr ⟨by rfl, rfl⟩) ?_
                   simp only [Act.put, List.setIfInBounds_toArray, List.set_cons_zero, List.set_cons_succ])
                | (refine SeqS.take1 (v := ?_) (by first | assumption | trivial) (by kernel_rfl) (by decide +kernel) (by decide +kernel) (Or.inl ⟨by rfl, ?_⟩) ?_
                   rotate_left
                   focus
                     intro w' hb'
                     go_simp
                     with_reducible rfl
                   simp only [Act.put, List.setIfInBounds_toArray, List.set_cons_zero, List.set_cons_succ])
                | (refine SeqS.take1 (v := undef) (by first | assumption | trivial) (by kernel_rfl) (by decide +kernel) (by decide +kernel) (Or.inr ⟨by rfl, rfl⟩) ?_
                   simp only [Act.put, List.setIfInBounds_toArray, List.set_cons_zero, List.set_cons_succ])
                | (refine SeqS.take2 (v := ?_) (by first | assumption | trivial) (by kernel_rfl) (by decide +kernel) (by decide +kernel) (Or.inl ⟨by rfl, ?_⟩) ?_
                   rotate_left
                   focus
                     intro w' hb'
                     go_simp
                     with_reducible rfl
                   simp only [Act.put, List.setIfInBounds_toArray, List.set_cons_zero, List.set_cons_succ])
                | (refine SeqS.take2 (v := undef) (by first | assumption | trivial) (by kernel_rfl) (by decide +kernel) (by decide +kernel) (Or.inr ⟨by rfl, rfl⟩) ?_
                   simp only [Act.put, List.setIfInBounds_toArray, List.set_cons_zero, List.set_cons_succ]))
              refine SeqS.alone (by decide +kernel) (by rfl) (fun K hK => ?_)
              have cP := hP4.cell 0
              have fP := hP4.frozen 0
              go_simp
              refine hK _ _ trivial ?_
              clear hK K
              (try simp only [Act.put, List.setIfInBounds_toArray, List.set_cons_zero, List.set_cons_succ])
              refine SeqS.done (by decide +kernel) ?_
              have hP5 := hP4.set 0 (.slice b4 1 c4)
              have hR5 := hR4.far (p := ⟨P, 0, none⟩) (by show R ≠ P; have := hPH.out; have := hRH.out; omega) (.slice b4 1 c4)
              have hE5 := hE4.far (p := ⟨P, 0, none⟩) (by show E ≠ P; have := hPH.out; have := hEH.out; omega) (.slice b4 1 c4)
              have hB5 := hB4.setCell (p := ⟨P, 0, none⟩) (by show w.heap.size ≤ P; have := hPH.out; omega) (.slice b4 1 c4)
              have hM5 := hM4.moved (w' := V4.setCell ⟨P, 0, none⟩ (.slice b4 1 c4)) (fun q hq _ => Below.heap_setCell V4 ⟨P, 0, none⟩ _ q (by show q ≠ P; have := hPH.out; omega))
              obtain ⟨V5, hV5⟩ : ∃ V, V4.setCell ⟨P, 0, none⟩ (.slice b4 1 c4) = V := ⟨_, rfl⟩
              rw [hV5] at hP5 hR5 hE5 hB5 hM5
              rw [hV5]
              obtain ⟨hnx, hnxr, hur2, hdec2, hm9i, hlt⟩ := hN1.out
              have hfinal := Lib.hid (And.intro hnx (And.intro hnxr (And.intro hur2 (And.intro hdec2 (And.intro hm9i (And.intro hlt (And.intro hM5 (And.intro hR5 (And.intro hE5 (And.intro hP5 hB5))))))))))
              clear hV5 hM4 hP4 hR4 hE4 hB4 hown4 hg4 hM3 hown3 hB3 hneo hnx hnxr hur2 hdec2 hm9i hlt hN1 hP5 hR5 hE5 hB5 hM5 cP fP hnew3 b23 b03 b02 hown2 hg2 own1 b01 II1 kP0 kP1 kP2 kP3 hBs hM0 hR0 hE0 hP0 hB0 s2 hV3 hV1 hyH
              go_wp2
              obtain ⟨hnx, hnxr, hur2, hdec2, hm9i, hlt, hM5, hR5, hE5, hP5, hB5⟩ := hfinal.out
              exact ⟨⟨1, us ++ [(f, ys)], ps ++ [(b2, c2)], .slice b4 1 c4, A3, m9, d9, nx, by omega, by congr 1, rfl, hm9i, hnx, hnxr, hur2, hdec2, hM5, hR5, hE5, hP5, hB5⟩, by simp only [intOf]; omega⟩
            · refine ⟨[_], _, [_, _, _], rfl, by rfl, fun K hK => ?_⟩
              go_simp
              have hnew3 := Blk.new V2 41 [.int .u32 f, .slice b2 L c2]
              have b23 := below1 V2 (.cells #[.int .u32 f, .slice b2 L c2] 41)
              have b03 := b02.trans (b23.mono b02.size)
              obtain ⟨V3, hV3⟩ : ∃ V, V2.alloc (.cells #[.int .u32 f, .slice b2 L c2] 41) = V := ⟨_, rfl⟩
              rw [hV3] at hnew3 b23 b03
              rw [hV3]
              have kP3 := (hP0.keep b03 hP0.lt).cell 0
              refine hK _ _ trivial ?_
              clear hK K
              (try simp only [Act.put, List.setIfInBounds_toArray, List.set_cons_zero, List.set_cons_succ])
              refine SeqS.alone (by decide +kernel) (by rfl) (fun K hK => ?_)
              go_simp
              refine hK _ _ trivial ?_
              clear hK K
              (try simp only [Act.put, List.setIfInBounds_toArray, List.set_cons_zero, List.set_cons_succ])
              have hM3 := hM0.keep b03
              have hown3 : V3.ownsRow (w.heap.size + 3) 5 1 (.slice b2 L c2) L (ys.map (Value.int .u8)) := own_low9 (own_stay9 hown2 b23) hBs
              have hB3 := hB0.trans (b03.mono hB0.size)
              have hj8 : 0 ≤ 8 := by have := hNN.out; have := hN1.out.2.2.2.2.2; omega
              have hneo : ∀ q, q < w.heap.size + 3 → some q ≠ (Value.slice ub 0 uc).ownBlock := fun q hq e => by have := (hM3.row.lt q e.symm).1; omega
              refine SeqS.alone (by decide +kernel) (by rfl) (fun K hK => ?_)
              refine wp_append_own V3 (.tmp 95) (.tmp 104) 22 rfl (w.heap.size + 3) 41 i0 _ 2 32 Tryd.underlying22 hi hz0 hz1 hz2 (by simp [Value.cells]) (by decide) (.slice ub 0 uc) 0 (tcells us ps) rfl hM3.row ⟨V2.heap.size, 0, none⟩ 1 1 [.int .u32 f, .slice b2 L c2] rfl rfl (by intro t u ht; rw [add_at9, hnew3.cell]; exact ht) (by simp [Value.oneCell']) (by unfold maxLen; omega) (by omega) (Nat.le_trans hBs b03.size) ?_
              intro v4 V4 hown4 hg4 _
              have hM4 := hM3.snoc hown3 hown4 hg4
              have hsl4 := hM4.slice
              obtain ⟨b4, c4, hv4⟩ := hsl4
              rw [hv4] at hM4 ⊢
              have hP4 := (hP0.keep b03 hP0.lt).grown hg4 (hneo P (by have := hPH.out; omega))
              have hR4 := (hR0.keep b03 hR0.lt).grown hg4 (hneo R (by have := hRH.out; omega))
              have hE4 := (hE0.keep b03 hE0.lt).grown hg4 (hneo E (by have := hEH.out; omega))
              have hB4 := hB3.grown hg4 hB3.size (fun q hq => by have := (hM3.row.lt q hq).1; omega)
              refine hK _ _ trivial ?_
              clear hK K
              (try simp only [Act.put, List.setIfInBounds_toArray, List.set_cons_zero, List.set_cons_succ])
              repeat (first
                | (refine SeqS.take (v := ?_) (by first | assumption | trivial) (by kernel_rfl) (by decide +kernel) (by decide +kernel) (Or.inl ⟨by rfl, ?_⟩) ?_
                   rotate_left
                   focus
                     intro w' hb'
                     go_simp
                     with_reducible rfl
                   simp only [Act.put, List.setIfInBounds_toArray, List.set_cons_zero, List.set_cons_succ])
                | (refine SeqS.take (v := undef) (by first | assumption | trivial) (by kernel_rfl) (by decide +kernel) (by decide +kernel) (Or.inr ⟨by rfl, rfl⟩) ?_
                   simp only [Act.put, List.setIfInBounds_toArray, List.set_cons_zero, List.set_cons_succ])
                | (refine SeqS.take1 (v := ?_) (by first | assumption | trivial) (by kernel_rfl) (by decide +kernel) (by decide +kernel) (Or.inl ⟨by rfl, ?_⟩) ?_
                   rotate_left
                   focus
                     intro w' hb'
                     go_simp
                     with_reducible rfl
                   simp only [Act.put, List.setIfInBounds_toArray, List.set_cons_zero, List.set_cons_succ])
                | (refine SeqS.take1 (v := undef) (by first | assumption | trivial) (by kernel_rfl) (by decide +kernel) (by decide +kernel) (Or.inr ⟨by rfl, rfl⟩) ?_
                   simp only [Act.put, List.setIfInBounds_toArray, List.set_cons_zero, List.set_cons_succ])
                | (refine SeqS.take2 (v := ?_) (by first | assumption | trivial) (by kernel_rfl) (by decide +kernel) (by decide +kernel) (Or.inl ⟨by rfl, ?_⟩) ?_
                   rotate_left
                   focus
                     intro w' hb'
                     go_simp
                     with_reducible rfl
                   simp only [Act.put, List.setIfInBounds_toArray, List.set_cons_zero, List.set_cons_succ])
                | (refine SeqS.take2 (v := undef) (by first | assumption | trivial) (by kernel_rfl) (by decide +kernel) (by decide +kernel) (Or.inr ⟨by rfl, rfl⟩) ?_
                   simp only [Act.put, List.setIfInBounds_toArray, List.set_cons_zero, List.set_cons_succ]))
              refine SeqS.alone (by decide +kernel) (by rfl) (fun K hK => ?_)
              have cP := hP4.cell 0
              have fP := hP4.frozen 0
              go_simp
              refine hK _ _ trivial ?_
              clear hK K
              (try simp only [Act.put, List.setIfInBounds_toArray, List.set_cons_zero, List.set_cons_succ])
              refine SeqS.done (by decide +kernel) ?_
              have hP5 := hP4.set 0 (.slice b4 1 c4)
              have hR5 := hR4.far (p := ⟨P, 0, none⟩) (by show R ≠ P; have := hPH.out; have := hRH.out; omega) (.slice b4 1 c4)
              have hE5 := hE4.far (p := ⟨P, 0, none⟩) (by show E ≠ P; have := hPH.out; have := hEH.out; omega) (.slice b4 1 c4)
              have hB5 := hB4.setCell (p := ⟨P, 0, none⟩) (by show w.heap.size ≤ P; have := hPH.out; omega) (.slice b4 1 c4)
              have hM5 := hM4.moved (w' := V4.setCell ⟨P, 0, none⟩ (.slice b4 1 c4)) (fun q hq _ => Below.heap_setCell V4 ⟨P, 0, none⟩ _ q (by show q ≠ P; have := hPH.out; omega))
              obtain ⟨V5, hV5⟩ : ∃ V, V4.setCell ⟨P, 0, none⟩ (.slice b4 1 c4) = V := ⟨_, rfl⟩
              rw [hV5] at hP5 hR5 hE5 hB5 hM5
              rw [hV5]
              obtain ⟨hnx, hnxr, hur2, hdec2, hm9i, hlt⟩ := hN1.out
              have hfinal := Lib.hid (And.intro hnx (And.intro hnxr (And.intro hur2 (And.intro hdec2 (And.intro hm9i (And.intro hlt (And.intro hM5 (And.intro hR5 (And.intro hE5 (And.intro hP5 hB5))))))))))
              clear hV5 hM4 hP4 hR4 hE4 hB4 hown4 hg4 hM3 hown3 hB3 hneo hnx hnxr hur2 hdec2 hm9i hlt hN1 hP5 hR5 hE5 hB5 hM5 cP fP hnew3 b23 b03 b02 hown2 hg2 own1 b01 II1 kP0 kP1 kP2 kP3 hBs hM0 hR0 hE0 hP0 hB0 s2 hV3 hV1 hyH
              go_wp2
              obtain ⟨hnx, hnxr, hur2, hdec2, hm9i, hlt, hM5, hR5, hE5, hP5, hB5⟩ := hfinal.out
              exact ⟨⟨1, us ++ [(f, ys)], ps ++ [(b2, c2)], .slice b4 1 c4, A3, m9, d9, nx, by omega, by congr 1, rfl, hm9i, hnx, hnxr, hur2, hdec2, hM5, hR5, hE5, hP5, hB5⟩, by simp only [intOf]; omega⟩
      · have hj1 : (0 : Int) < (j : Int) := by omega
        have gj : decide ((0 : Int) < (j : Int)) = true := decide_eq_true hj1
        obtain ⟨pb, po, g, rfl, c0, hle⟩ := hflH.out hj1
        have gle : decide (f ≤ g) = false := decide_eq_false hle
        clear hflH
        go_wp2_with fail
        obtain ⟨V0, hV0⟩ : ∃ V, W.drew = V := ⟨_, rfl⟩
        have bV : Below W.heap.size W V0 := by rw [← hV0]; exact (Below.refl _ _).drew
        obtain ⟨hM, hR, hE, hP, hB⟩ := hKH.out
        have hM0 := hM.keep bV
        have hR0 := hR.keep bV hR.lt
        have hE0 := hE.keep bV hE.lt
        have hP0 := hP.keep bV hP.lt
        have hB0 := hB.trans (bV.mono hB.size)
        refine region_seqS (fun _ => True) (by kernel_rfl) trivial ?_
        simp only [pairs, Nat.reduceAdd]
        rw [hV0]
        clear hV0 hM hR hE hP hB bV hKH kE kR fR kP d4
        have w5 := w5H.out
        repeat (first
          | (refine SeqS.take (v := ?_) (by first | assumption | trivial) (by kernel_rfl) (by decide +kernel) (by decide +kernel) (Or.inl ⟨by rfl, ?_⟩) ?_
             rotate_left
             focus
               intro w' hb'
               go_simp
               with_reducible rfl
             simp only [Act.put, List.setIfInBounds_toArray, List.set_cons_zero, List.set_cons_succ])
          | (refine SeqS.take (v := ?_) (by first | assumption | trivial) (by kernel_rfl) (by decide +kernel) (by decide +kernel) (Or.inl ⟨by rfl, ?_⟩) ?_
             rotate_left
             focus
               intro w' hb'
               have d0 := s2 w'
               go_simp
               with_reducible rfl
             simp only [Act.put, List.setIfInBounds_toArray, List.set_cons_zero, List.set_cons_succ])
          | (refine SeqS.take (v := undef) (by first | assumption | trivial) (by kernel_rfl) (by decide +kernel) (by decide +kernel) (Or.inr ⟨by rfl, rfl⟩) ?_
             simp only [Act.put, List.setIfInBounds_toArray, List.set_cons_zero, List.set_cons_succ])
          | (refine SeqS.take1 (v := ?_) (by first | assumption | trivial) (by kernel_rfl) (by decide +kernel) (by decide +kernel) (Or.inl ⟨by rfl, ?_⟩) ?_
             rotate_left
             focus
               intro w' hb'
               go_simp
               with_reducible rfl
             simp only [Act.put, List.setIfInBounds_toArray, List.set_cons_zero, List.set_cons_succ])
          | (refine SeqS.take1 (v := ?_) (by first | assumption | trivial) (by kernel_rfl) (by decide +kernel) (by decide +kernel) (Or.inl ⟨by rfl, ?_⟩) ?_
             rotate_left
             focus
               intro w' hb'
               have d0 := s2 w'
               go_simp
               with_reducible rfl
             simp only [Act.put, List.setIfInBounds_toArray, List.set_cons_zero, List.set_cons_succ])
          | (refine SeqS.take1 (v := undef) (by first | assumption | trivial) (by kernel_rfl) (by decide +kernel) (by decide +kernel) (Or.inr ⟨by rfl, rfl⟩) ?_
             simp only [Act.put, List.setIfInBounds_toArray, List.set_cons_zero, List.set_cons_succ])
          | (refine SeqS.take2 (v := ?_) (by first | assumption | trivial) (by kernel_rfl) (by decide +kernel) (by decide +kernel) (Or.inl ⟨by rfl, ?_⟩) ?_
             rotate_left
             focus
               intro w' hb'
               go_simp
               with_reducible rfl
             simp only [Act.put, List.setIfInBounds_toArray, List.set_cons_zero, List.set_cons_succ])
          | (refine SeqS.take2 (v := ?_) (by first | assumption | trivial) (by kernel_rfl) (by decide +kernel) (by decide +kernel) (Or.inl ⟨by rfl, ?_⟩) ?_
             rotate_left
             focus
               intro w' hb'
               have d0 := s2 w'
               go_simp
               with_reducible rfl
             simp only [Act.put, List.setIfInBounds_toArray, List.set_cons_zero, List.set_cons_succ])
          | (refine SeqS.take2 (v := undef) (by first | assumption | trivial) (by kernel_rfl) (by decide +kernel) (by decide +kernel) (Or.inr ⟨by rfl, rfl⟩) ?_
             simp only [Act.put, List.setIfInBounds_toArray, List.set_cons_zero, List.set_cons_succ])
          | (refine SeqS.take3 (v := ?_) (by first | assumption | trivial) (by kernel_rfl) (by decide +kernel) (by decide +kernel) (Or.inl ⟨by rfl, ?_⟩) ?_
             rotate_left
             focus
               intro w' hb'
               go_simp
               with_reducible rfl
             simp only [Act.put, List.setIfInBounds_toArray, List.set_cons_zero, List.set_cons_succ])
          | (refine SeqS.take3 (v := ?_) (by first | assumption | trivial) (by kernel_rfl) (by decide +kernel) (by decide +kernel) (Or.inl ⟨by rfl, ?_⟩) ?_
             rotate_left
             focus
               intro w' hb'
               have d0 := s2 w'
               go_simp
               with_reducible rfl
             simp only [Act.put, List.setIfInBounds_toArray, List.set_cons_zero, List.set_cons_succ])
          | (refine SeqS.take3 (v := undef) (by first | assumption | trivial) (by kernel_rfl) (by decide +kernel) (by decide +kernel) (Or.inr ⟨by rfl, rfl⟩) ?_
             simp only [Act.put, List.setIfInBounds_toArray, List.set_cons_zero, List.set_cons_succ])
          | (refine SeqS.take4 (v := ?_) (by first | assumption | trivial) (by kernel_rfl) (by decide +kernel) (by decide +kernel) (Or.inl ⟨by rfl, ?_⟩) ?_
             rotate_left
             focus
               intro w' hb'
               go_simp
               with_reducible rfl
             simp only [Act.put, List.setIfInBounds_toArray, List.set_cons_zero, List.set_cons_succ])
          | (refine SeqS.take4 (v := ?_) (by first | assumption | trivial) (by kernel_rfl) (by decide +kernel) (by decide +kernel) (Or.inl ⟨by rfl, ?_⟩) ?_
             rotate_left
             focus
               intro w' hb'
               have d0 := s2 w'
               go_simp
               with_reducible rfl
             simp only [Act.put, List.setIfInBounds_toArray, List.set_cons_zero, List.set_cons_succ])
          | (refine SeqS.take4 (v := undef) (by first | assumption | trivial) (by kernel_rfl) (by decide +kernel) (by decide +kernel) (Or.inr ⟨by rfl, rfl⟩) ?_
             simp only [Act.put, List.setIfInBounds_toArray, List.set_cons_zero, List.set_cons_succ])
          | (refine SeqS.take5 (v := ?_) (by first | assumption | trivial) (by kernel_rfl) (by decide +kernel) (by decide +kernel) (Or.inl ⟨by rfl, ?_⟩) ?_
             rotate_left
             focus
               intro w' hb'
               go_simp
               with_reducible rfl
             simp only [Act.put, List.setIfInBounds_toArray, List.set_cons_zero, List.set_cons_succ])
          | (refine SeqS.take5 (v := ?_) (by first | assumption | trivial) (by kernel_rfl) (by decide +kernel) (by decide +kernel) (Or.inl ⟨by rfl, ?_⟩) ?_
             rotate_left
             focus
               intro w' hb'
               have d0 := s2 w'
               go_simp
               with_reducible rfl
             simp only [Act.put, List.setIfInBounds_toArray, List.set_cons_zero, List.set_cons_succ])
          | (refine SeqS.take5 (v := undef) (by first | assumption | trivial) (by kernel_rfl) (by decide +kernel) (by decide +kernel) (Or.inr ⟨by rfl, rfl⟩) ?_
             simp only [Act.put, List.setIfInBounds_toArray, List.set_cons_zero, List.set_cons_succ])
          | (refine SeqS.take6 (v := ?_) (by first | assumption | trivial) (by kernel_rfl) (by decide +kernel) (by decide +kernel) (Or.inl ⟨by rfl, ?_⟩) ?_
             rotate_left
             focus
               intro w' hb'
               go_simp
               with_reducible rfl
             simp only [Act.put, List.setIfInBounds_toArray, List.set_cons_zero, List.set_cons_succ])
          | (refine SeqS.take6 (v := ?_) (by first | assumption | trivial) (by kernel_rfl) (by decide +kernel) (by decide +kernel) (Or.inl ⟨by rfl, ?_⟩) ?_
             rotate_left
             focus
               intro w' hb'
               have d0 := s2 w'
               go_simp
               with_reducible rfl
             simp only [Act.put, List.setIfInBounds_toArray, List.set_cons_zero, List.set_cons_succ])
          | (refine SeqS.take6 (v := undef) (by first | assumption | trivial) (by kernel_rfl) (by decide +kernel) (by decide +kernel) (Or.inr ⟨by rfl, rfl⟩) ?_
             simp only [Act.put, List.setIfInBounds_toArray, List.set_cons_zero, List.set_cons_succ]))
        clear w5
        obtain ⟨V1, hV1⟩ : ∃ V, V0.alloc (.cells #[] 5) = V := ⟨_, rfl⟩
        have own1 : V1.ownsRow V0.heap.size 5 1 (.slice (some ⟨V0.heap.size, 0, none⟩) 0 0) 0 [] := by rw [← hV1]; exact World.ownsRow_made V0 #[] 0 (Nat.le_refl _) (Nat.zero_le _) rfl
        have b01 : Below V0.heap.size V0 V1 := by rw [← hV1]; exact below1 V0 _
        have II1 := hyH.out.keep (hB0.trans (b01.mono hB0.size))
        have kP0 := hP0.cell 0
        have kP1 := (hP0.keep b01 hP0.lt).cell 0
        have hBs : w.heap.size + 3 ≤ V0.heap.size := by have := hPH.out; have := hP0.lt; omega
        refine SeqS.either (rs := [1, 3]) (by decide +kernel) ?_
        intro o ho
        simp only [List.mem_cons, List.not_mem_nil, or_false] at ho
        rcases ho with rfl | rfl
        · refine ⟨[], _, [_, _, _, _, _, _, _], rfl, by rfl, fun K hK => ?_⟩
          go_simp
          refine hK _ _ trivial ?_
          clear hK K
          (try simp only [Act.put, List.setIfInBounds_toArray, List.set_cons_zero, List.set_cons_succ])
          refine SeqS.alone (by decide +kernel) (by rfl) (fun K hK => ?_)
          go_simp
          try rw [hV1]
          refine hK _ _ trivial ?_
          clear hK K
          (try simp only [Act.put, List.setIfInBounds_toArray, List.set_cons_zero, List.set_cons_succ])
          refine SeqS.alone (by decide +kernel) (by rfl) (fun K hK => ?_)
          refine wp_append_ints (.tmp 97) (.tmp 101) 27 rfl V0.heap.size 5 i1 (.int .u8 0) 1 Tryd.underlying27 hi1 hy0 hy1 hy2 rfl rfl own1 rfl II1 (by have := hL64.out; unfold maxLen; omega) (by have := hL64.out; omega) b01.size ?_
          intro v2 V2 hown2 hg2
          rw [List.nil_append, Nat.zero_add] at hown2
          have hsl2 : ∃ b c, v2 = .slice b L c := own_slice32 hown2
          obtain ⟨b2, c2, hv2⟩ := hsl2
          rw [hv2] at hown2 ⊢
          have b02 : Below V0.heap.size V0 V2 := b01.grown hg2 b01.size (fun q hq => by injection hq with hq; rw [← hq]; exact Nat.le_refl _)
          have kP2 := (hP0.keep b02 hP0.lt).cell 0
          refine hK _ _ trivial ?_
          clear hK K
          (try simp only [Act.put, List.setIfInBounds_toArray, List.set_cons_zero, List.set_cons_succ])
          repeat (first
            | (refine SeqS.take (v := ?_) (by first | assumption | trivial) (by kernel_rfl) (by decide +kernel) (by decide +kernel) (Or.inl ⟨by rfl, ?_⟩) ?_
               rotate_left
               focus
                 intro w' hb'
                 go_simp
                 with_reducible rfl
               simp only [Act.put, List.setIfInBounds_toArray, List.set_cons_zero, List.set_cons_succ])
            | (refine SeqS.take (v := undef) (by first | assumption | trivial) (by kernel_rfl) (by decide +kernel) (by decide +kernel) (Or.inr ⟨by rfl, rfl⟩) ?_
               simp only [Act.put, List.setIfInBounds_toArray, List.set_cons_zero, List.set_cons_succ])
            | (refine SeqS.take1 (v := ?_) (by first | assumption | trivial) (by kernel_rfl) (by decide +kernel) (by decide +kernel) (Or.inl ⟨by rfl, ?_⟩) ?_
               rotate_left
               focus
                 intro w' hb'
                 go_simp
                 with_reducible rfl
               simp only [Act.put, List.setIfInBounds_toArray, List.set_cons_zero, List.set_cons_succ])
            | (refine SeqS.take1 (v := undef) (by first | assumption | trivial) (by kernel_rfl) (by decide +kernel) (by decide +kernel) (Or.inr ⟨by rfl, rfl⟩) ?_
               simp only [Act.put, List.setIfInBounds_toArray, List.set_cons_zero, List.set_cons_succ])
            | (refine SeqS.take2 (v := ?_) (by first | assumption | trivial) (by kernel_rfl) (by decide +kernel) (by decide +kernel) (Or.inl ⟨by rfl, ?_⟩) ?_
               rotate_left
               focus
                 intro w' hb'
                 go_simp
                 with_reducible rfl
               simp only [Act.put, List.setIfInBounds_toArray, List.set_cons_zero, List.set_cons_succ])
            | (refine SeqS.take2 (v := undef) (by first | assumption | trivial) (by kernel_rfl) (by decide +kernel) (by decide +kernel) (Or.inr ⟨by rfl, rfl⟩) ?_
               simp only [Act.put, List.setIfInBounds_toArray, List.set_cons_zero, List.set_cons_succ]))
          refine SeqS.alone (by decide +kernel) (by rfl) (fun K hK => ?_)
          go_simp
          have hnew3 := Blk.new V2 41 [.int .u32 f, .slice b2 L c2]
          have b23 := below1 V2 (.cells #[.int .u32 f, .slice b2 L c2] 41)
          have b03 := b02.trans (b23.mono b02.size)
          obtain ⟨V3, hV3⟩ : ∃ V, V2.alloc (.cells #[.int .u32 f, .slice b2 L c2] 41) = V := ⟨_, rfl⟩
          rw [hV3] at hnew3 b23 b03
          rw [hV3]
          have kP3 := (hP0.keep b03 hP0.lt).cell 0
          refine hK _ _ trivial ?_
          clear hK K
          (try simp only [Act.put, List.setIfInBounds_toArray, List.set_cons_zero, List.set_cons_succ])
          have hM3 := hM0.keep b03
          have hown3 : V3.ownsRow (w.heap.size + 3) 5 1 (.slice b2 L c2) L (ys.map (Value.int .u8)) := own_low9 (own_stay9 hown2 b23) hBs
          have hB3 := hB0.trans (b03.mono hB0.size)
          have hj8 : j ≤ 8 := by have := hNN.out; have := hN1.out.2.2.2.2.2; omega
          have hneo : ∀ q, q < w.heap.size + 3 → some q ≠ (Value.slice (some ⟨pb, po, none⟩) j uc).ownBlock := fun q hq e => by have := (hM3.row.lt q e.symm).1; omega
          refine SeqS.alone (by decide +kernel) (by rfl) (fun K hK => ?_)
          refine wp_append_own V3 (.tmp 95) (.tmp 104) 22 rfl (w.heap.size + 3) 41 i0 _ 2 32 Tryd.underlying22 hi hz0 hz1 hz2 (by simp [Value.cells]) (by decide) (.slice (some ⟨pb, po, none⟩) j uc) j (tcells us ps) rfl hM3.row ⟨V2.heap.size, 0, none⟩ 1 1 [.int .u32 f, .slice b2 L c2] rfl rfl (by intro t u ht; rw [add_at9, hnew3.cell]; exact ht) (by simp [Value.oneCell']) (by unfold maxLen; omega) (by omega) (Nat.le_trans hBs b03.size) ?_
          intro v4 V4 hown4 hg4 _
          have hM4 := hM3.snoc hown3 hown4 hg4
          have hsl4 := hM4.slice
          obtain ⟨b4, c4, hv4⟩ := hsl4
          rw [hv4] at hM4 ⊢
          have hP4 := (hP0.keep b03 hP0.lt).grown hg4 (hneo P (by have := hPH.out; omega))
          have hR4 := (hR0.keep b03 hR0.lt).grown hg4 (hneo R (by have := hRH.out; omega))
          have hE4 := (hE0.keep b03 hE0.lt).grown hg4 (hneo E (by have := hEH.out; omega))
          have hB4 := hB3.grown hg4 hB3.size (fun q hq => by have := (hM3.row.lt q hq).1; omega)
          refine hK _ _ trivial ?_
          clear hK K
          (try simp only [Act.put, List.setIfInBounds_toArray, List.set_cons_zero, List.set_cons_succ])
          repeat (first
            | (refine SeqS.take (v := ?_) (by first | assumption | trivial) (by kernel_rfl) (by decide +kernel) (by decide +kernel) (Or.inl ⟨by rfl, ?_⟩) ?_
               rotate_left
               focus
                 intro w' hb'
                 go_simp
                 with_reducible rfl
               simp only [Act.put, List.setIfInBounds_toArray, List.set_cons_zero, List.set_cons_succ])
            | (refine SeqS.take (v := undef) (by first | assumption | trivial) (by kernel_rfl) (by decide +kernel) (by decide +kernel) (Or.inr ⟨by rfl, rfl⟩) ?_
               simp only [Act.put, List.setIfInBounds_toArray, List.set_cons_zero, List.set_cons_succ])
            | (refine SeqS.take1 (v := ?_) (by first | assumption | trivial) (by kernel_rfl) (by decide +kernel) (by decide +kernel) (Or.inl ⟨by rfl, ?_⟩) ?_
               rotate_left
               focus
                 intro w' hb'
                 go_simp
                 with_reducible rfl
               simp only [Act.put, List.setIfInBounds_toArray, List.set_cons_zero, List.set_cons_succ])
            | (refine SeqS.take1 (v := undef) (by first | assumption | trivial) (by kernel_rfl) (by decide +kernel) (by decide +kernel) (Or.inr ⟨by rfl, rfl⟩) ?_
               simp only [Act.put, List.setIfInBounds_toArray, List.set_cons_zero, List.set_cons_succ])
            | (refine SeqS.take2 (v := ?_) (by first | assumption | trivial) (by kernel_rfl) (by decide +kernel) (by decide +kernel) (Or.inl ⟨by rfl, ?_⟩) ?_
               rotate_left
               focus
                 intro w' hb'
                 go_simp
                 with_reducible rfl
               simp only [Act.put, List.setIfInBounds_toArray, List.set_cons_zero, List.set_cons_succ])
            | (refine SeqS.take2 (v := undef) (by first | assumption | trivial) (by kernel_rfl) (by decide +kernel) (by decide +kernel) (Or.inr ⟨by rfl, rfl⟩) ?_
               simp only [Act.put, List.setIfInBounds_toArray, List.set_cons_zero, List.set_cons_succ]))
          refine SeqS.alone (by decide +kernel) (by rfl) (fun K hK => ?_)
          have cP := hP4.cell 0
          have fP := hP4.frozen 0
          go_simp
          refine hK _ _ trivial ?_
          clear hK K
          (try simp only [Act.put, List.setIfInBounds_toArray, List.set_cons_zero, List.set_cons_succ])
          refine SeqS.done (by decide +kernel) ?_
          have hP5 := hP4.set 0 (.slice b4 (j + 1) c4)
          have hR5 := hR4.far (p := ⟨P, 0, none⟩) (by show R ≠ P; have := hPH.out; have := hRH.out; omega) (.slice b4 (j + 1) c4)
          have hE5 := hE4.far (p := ⟨P, 0, none⟩) (by show E ≠ P; have := hPH.out; have := hEH.out; omega) (.slice b4 (j + 1) c4)
          have hB5 := hB4.setCell (p := ⟨P, 0, none⟩) (by show w.heap.size ≤ P; have := hPH.out; omega) (.slice b4 (j + 1) c4)
          have hM5 := hM4.moved (w' := V4.setCell ⟨P, 0, none⟩ (.slice b4 (j + 1) c4)) (fun q hq _ => Below.heap_setCell V4 ⟨P, 0, none⟩ _ q (by show q ≠ P; have := hPH.out; omega))
          obtain ⟨V5, hV5⟩ : ∃ V, V4.setCell ⟨P, 0, none⟩ (.slice b4 (j + 1) c4) = V := ⟨_, rfl⟩
          rw [hV5] at hP5 hR5 hE5 hB5 hM5
          rw [hV5]
          obtain ⟨hnx, hnxr, hur2, hdec2, hm9i, hlt⟩ := hN1.out
          have hfinal := Lib.hid (And.intro hnx (And.intro hnxr (And.intro hur2 (And.intro hdec2 (And.intro hm9i (And.intro hlt (And.intro hM5 (And.intro hR5 (And.intro hE5 (And.intro hP5 hB5))))))))))
          clear hV5 hM4 hP4 hR4 hE4 hB4 hown4 hg4 hM3 hown3 hB3 hneo hnx hnxr hur2 hdec2 hm9i hlt hN1 hP5 hR5 hE5 hB5 hM5 cP fP hnew3 b23 b03 b02 hown2 hg2 own1 b01 II1 kP0 kP1 kP2 kP3 hBs hM0 hR0 hE0 hP0 hB0 s2 hV3 hV1 hyH
          go_wp2
          obtain ⟨hnx, hnxr, hur2, hdec2, hm9i, hlt, hM5, hR5, hE5, hP5, hB5⟩ := hfinal.out
          exact ⟨⟨j + 1, us ++ [(f, ys)], ps ++ [(b2, c2)], .slice b4 (j + 1) c4, A3, m9, d9, nx, by omega, by congr 1, rfl, hm9i, hnx, hnxr, hur2, hdec2, hM5, hR5, hE5, hP5, hB5⟩, by simp only [intOf]; omega⟩
        · refine ⟨[_], _, [_, _, _, _, _, _], rfl, by rfl, fun K hK => ?_⟩
          go_simp
          try rw [hV1]
          refine hK _ _ trivial ?_
          clear hK K
          (try simp only [Act.put, List.setIfInBounds_toArray, List.set_cons_zero, List.set_cons_succ])
          refine SeqS.either (rs := [1, 8]) (by decide +kernel) ?_
          intro o ho
          simp only [List.mem_cons, List.not_mem_nil, or_false] at ho
          rcases ho with rfl | rfl
          · refine ⟨[], _, [_, _, _, _, _, _], rfl, by rfl, fun K hK => ?_⟩
            go_simp
            refine hK _ _ trivial ?_
            clear hK K
            (try simp only [Act.put, List.setIfInBounds_toArray, List.set_cons_zero, List.set_cons_succ])
            refine SeqS.alone (by decide +kernel) (by rfl) (fun K hK => ?_)
            refine wp_append_ints (.tmp 97) (.tmp 101) 27 rfl V0.heap.size 5 i1 (.int .u8 0) 1 Tryd.underlying27 hi1 hy0 hy1 hy2 rfl rfl own1 rfl II1 (by have := hL64.out; unfold maxLen; omega) (by have := hL64.out; omega) b01.size ?_
            intro v2 V2 hown2 hg2
            rw [List.nil_append, Nat.zero_add] at hown2
            have hsl2 : ∃ b c, v2 = .slice b L c := own_slice32 hown2
            obtain ⟨b2, c2, hv2⟩ := hsl2
            rw [hv2] at hown2 ⊢
            have b02 : Below V0.heap.size V0 V2 := b01.grown hg2 b01.size (fun q hq => by injection hq with hq; rw [← hq]; exact Nat.le_refl _)
            have kP2 := (hP0.keep b02 hP0.lt).cell 0
            refine hK _ _ trivial ?_
            clear hK K
            (try simp only [Act.put, List.setIfInBounds_toArray, List.set_cons_zero, List.set_cons_succ])
            repeat (first
              | (refine SeqS.take (v := ?_) (by first | assumption | trivial) (by kernel_rfl) (by decide +kernel) (by decide +kernel) (Or.inl ⟨by rfl, ?_⟩) ?_
                 rotate_left
                 focus
                   intro w' hb'
                   go_simp
                   with_reducible rfl
                 simp only [Act.put, List.setIfInBounds_toArray, List.set_cons_zero, List.set_cons_succ])
              | (refine SeqS.take (v := undef) (by first | assumption | trivial) (by kernel_rfl) (by decide +kernel) (by decide +kernel) (Or.inr ⟨by rfl, rfl⟩) ?_
                 simp only [Act.put, List.setIfInBounds_toArray, List.set_cons_zero, List.set_cons_succ])
              | (refine SeqS.take1 (v := ?_) (by first | assumption | trivial) (by kernel_rfl) (by decide +kernel) (by decide +kernel) (Or.inl ⟨by rfl, ?_⟩) ?_
                 rotate_left
                 focus
                   intro w' hb'
                   go_simp
                   with_reducible rfl
                 simp only [Act.put, List.setIfInBounds_toArray, List.set_cons_zero, List.set_cons_succ])
              | (refine SeqS.take1 (v := undef) (by first | assumption | trivial) (by kernel_rfl) (by decide +kernel) (by decide +kernel) (Or.inr ⟨by rfl, rfl⟩) ?_
                 simp only [Act.put, List.setIfInBounds_toArray, List.set_cons_zero, List.set_cons_succ])
              | (refine SeqS.take2 (v := ?_) (by first | assumption | trivial) (by kernel_rfl) (by decide +kernel) (by decide +kernel) (Or.inl ⟨by rfl, ?_⟩) ?_
                 rotate_left
                 focus
                   intro w' hb'
                   go_simp
                   with_reducible rfl
                 simp only [Act.put, List.setIfInBounds_toArray, List.set_cons_zero, List.set_cons_succ])
              | (refine SeqS.take2 (v := undef) (by first | assumption | trivial) (by kernel_rfl) (by decide +kernel) (by decide +kernel) (Or.inr ⟨by rfl, rfl⟩) ?_
                 simp only [Act.put, List.setIfInBounds_toArray, List.set_cons_zero, List.set_cons_succ]))
            refine SeqS.alone (by decide +kernel) (by rfl) (fun K hK => ?_)
            go_simp
            have hnew3 := Blk.new V2 41 [.int .u32 f, .slice b2 L c2]
            have b23 := below1 V2 (.cells #[.int .u32 f, .slice b2 L c2] 41)
            have b03 := b02.trans (b23.mono b02.size)
            obtain ⟨V3, hV3⟩ : ∃ V, V2.alloc (.cells #[.int .u32 f, .slice b2 L c2] 41) = V := ⟨_, rfl⟩
            rw [hV3] at hnew3 b23 b03
            rw [hV3]
            have kP3 := (hP0.keep b03 hP0.lt).cell 0
            refine hK _ _ trivial ?_
            clear hK K
            (try simp only [Act.put, List.setIfInBounds_toArray, List.set_cons_zero, List.set_cons_succ])
            have hM3 := hM0.keep b03
            have hown3 : V3.ownsRow (w.heap.size + 3) 5 1 (.slice b2 L c2) L (ys.map (Value.int .u8)) := own_low9 (own_stay9 hown2 b23) hBs
            have hB3 := hB0.trans (b03.mono hB0.size)
            have hj8 : j ≤ 8 := by have := hNN.out; have := hN1.out.2.2.2.2.2; omega
            have hneo : ∀ q, q < w.heap.size + 3 → some q ≠ (Value.slice (some ⟨pb, po, none⟩) j uc).ownBlock := fun q hq e => by have := (hM3.row.lt q e.symm).1; omega
            refine SeqS.alone (by decide +kernel) (by rfl) (fun K hK => ?_)
            refine wp_append_own V3 (.tmp 95) (.tmp 104) 22 rfl (w.heap.size + 3) 41 i0 _ 2 32 Tryd.underlying22 hi hz0 hz1 hz2 (by simp [Value.cells]) (by decide) (.slice (some ⟨pb, po, none⟩) j uc) j (tcells us ps) rfl hM3.row ⟨V2.heap.size, 0, none⟩ 1 1 [.int .u32 f, .slice b2 L c2] rfl rfl (by intro t u ht; rw [add_at9, hnew3.cell]; exact ht) (by simp [Value.oneCell']) (by unfold maxLen; omega) (by omega) (Nat.le_trans hBs b03.size) ?_
            intro v4 V4 hown4 hg4 _
            have hM4 := hM3.snoc hown3 hown4 hg4
            have hsl4 := hM4.slice
            obtain ⟨b4, c4, hv4⟩ := hsl4
            rw [hv4] at hM4 ⊢
            have hP4 := (hP0.keep b03 hP0.lt).grown hg4 (hneo P (by have := hPH.out; omega))
            have hR4 := (hR0.keep b03 hR0.lt).grown hg4 (hneo R (by have := hRH.out; omega))
            have hE4 := (hE0.keep b03 hE0.lt).grown hg4 (hneo E (by have := hEH.out; omega))
            have hB4 := hB3.grown hg4 hB3.size (fun q hq => by have := (hM3.row.lt q hq).1; omega)
            refine hK _ _ trivial ?_
            clear hK K
            (try simp only [Act.put, List.setIfInBounds_toArray, List.set_cons_zero, List.set_cons_succ])
            repeat (first
              | (refine SeqS.take (v := ?_) (by first | assumption | trivial) (by kernel_rfl) (by decide +kernel) (by decide +kernel) (Or.inl ⟨by rfl, ?_⟩) ?_
                 rotate_left
                 focus
                   intro w' hb'
                   go_simp
                   with_reducible rfl
                 simp only [Act.put, List.setIfInBounds_toArray, List.set_cons_zero, List.set_cons_succ])
              | (refine SeqS.take (v := undef) (by first | assumption | trivial) (by kernel_rfl) (by decide +kernel) (by decide +kernel) (Or.inr ⟨by rfl, rfl⟩) ?_
                 simp only [Act.put, List.setIfInBounds_toArray, List.set_cons_zero, List.set_cons_succ])
              | (refine SeqS.take1 (v := ?_) (by first | assumption | trivial) (by kernel_rfl) (by decide +kernel) (by decide +kernel) (Or.inl ⟨by rfl, ?_⟩) ?_
                 rotate_left
                 focus
                   intro w' hb'
                   go_simp
                   with_reducible rfl
                 simp only [Act.put, List.setIfInBounds_toArray, List.set_cons_zero, List.set_cons_succ])
              | (refine SeqS.take1 (v := undef) (by first | assumption | trivial) (by kernel_rfl) (by decide +kernel) (by decide +kernel) (Or.inr ⟨by rfl, rfl⟩) ?_
                 simp only [Act.put, List.setIfInBounds_toArray, List.set_cons_zero, List.set_cons_succ])
              | (refine SeqS.take2 (v := ?_) (by first | assumption | trivial) (by kernel_rfl) (by decide +kernel) (by decide +kernel) (Or.inl ⟨by rfl, ?_⟩) ?_
                 rotate_left
                 focus
                   intro w' hb'
                   go_simp
                   with_reducible rfl
                 simp only [Act.put, List.setIfInBounds_toArray, List.set_cons_zero, List.set_cons_succ])
              | (refine SeqS.take2 (v := undef) (by first | assumption | trivial) (by kernel_rfl) (by decide +kernel) (by decide +kernel) (Or.inr ⟨by rfl, rfl⟩) ?_
                 simp only [Act.put, List.setIfInBounds_toArray, List.set_cons_zero, List.set_cons_succ]))
            refine SeqS.alone (by decide +kernel) (by rfl) (fun K hK => ?_)
            have cP := hP4.cell 0
            have fP := hP4.frozen 0
            go_simp
            refine hK _ _ trivial ?_
            clear hK K
            (try simp only [Act.put, List.setIfInBounds_toArray, List.set_cons_zero, List.set_cons_succ])
            refine SeqS.done (by decide +kernel) ?_
            have hP5 := hP4.set 0 (.slice b4 (j + 1) c4)
            have hR5 := hR4.far (p := ⟨P, 0, none⟩) (by show R ≠ P; have := hPH.out; have := hRH.out; omega) (.slice b4 (j + 1) c4)
            have hE5 := hE4.far (p := ⟨P, 0, none⟩) (by show E ≠ P; have := hPH.out; have := hEH.out; omega) (.slice b4 (j + 1) c4)
            have hB5 := hB4.setCell (p := ⟨P, 0, none⟩) (by show w.heap.size ≤ P; have := hPH.out; omega) (.slice b4 (j + 1) c4)
            have hM5 := hM4.moved (w' := V4.setCell ⟨P, 0, none⟩ (.slice b4 (j + 1) c4)) (fun q hq _ => Below.heap_setCell V4 ⟨P, 0, none⟩ _ q (by show q ≠ P; have := hPH.out; omega))
            obtain ⟨V5, hV5⟩ : ∃ V, V4.setCell ⟨P, 0, none⟩ (.slice b4 (j + 1) c4) = V := ⟨_, rfl⟩
            rw [hV5] at hP5 hR5 hE5 hB5 hM5
            rw [hV5]
            obtain ⟨hnx, hnxr, hur2, hdec2, hm9i, hlt⟩ := hN1.out
            have hfinal := Lib.hid (And.intro hnx (And.intro hnxr (And.intro hur2 (And.intro hdec2 (And.intro hm9i (And.intro hlt (And.intro hM5 (And.intro hR5 (And.intro hE5 (And.intro hP5 hB5))))))))))
            clear hV5 hM4 hP4 hR4 hE4 hB4 hown4 hg4 hM3 hown3 hB3 hneo hnx hnxr hur2 hdec2 hm9i hlt hN1 hP5 hR5 hE5 hB5 hM5 cP fP hnew3 b23 b03 b02 hown2 hg2 own1 b01 II1 kP0 kP1 kP2 kP3 hBs hM0 hR0 hE0 hP0 hB0 s2 hV3 hV1 hyH
            go_wp2
            obtain ⟨hnx, hnxr, hur2, hdec2, hm9i, hlt, hM5, hR5, hE5, hP5, hB5⟩ := hfinal.out
            exact ⟨⟨j + 1, us ++ [(f, ys)], ps ++ [(b2, c2)], .slice b4 (j + 1) c4, A3, m9, d9, nx, by omega, by congr 1, rfl, hm9i, hnx, hnxr, hur2, hdec2, hM5, hR5, hE5, hP5, hB5⟩, by simp only [intOf]; omega⟩
          · refine ⟨[_], _, [_, _, _, _, _], rfl, by rfl, fun K hK => ?_⟩
            refine wp_append_ints (.tmp 97) (.tmp 101) 27 rfl V0.heap.size 5 i1 (.int .u8 0) 1 Tryd.underlying27 hi1 hy0 hy1 hy2 rfl rfl own1 rfl II1 (by have := hL64.out; unfold maxLen; omega) (by have := hL64.out; omega) b01.size ?_
            intro v2 V2 hown2 hg2
            rw [List.nil_append, Nat.zero_add] at hown2
            have hsl2 : ∃ b c, v2 = .slice b L c := own_slice32 hown2
            obtain ⟨b2, c2, hv2⟩ := hsl2
            rw [hv2] at hown2 ⊢
            have b02 : Below V0.heap.size V0 V2 := b01.grown hg2 b01.size (fun q hq => by injection hq with hq; rw [← hq]; exact Nat.le_refl _)
            have kP2 := (hP0.keep b02 hP0.lt).cell 0
            refine hK _ _ trivial ?_
            clear hK K
            (try simp only [Act.put, List.setIfInBounds_toArray, List.set_cons_zero, List.set_cons_succ])
            repeat (first
              | (refine SeqS.take (v := ?_) (by first | assumption | trivial) (by kernel_rfl) (by decide +kernel) (by decide +kernel) (Or.inl ⟨by rfl, ?_⟩) ?_
                 rotate_left
                 focus
                   intro w' hb'
                   go_simp
                   with_reducible rfl
                 simp only [Act.put, List.setIfInBounds_toArray, List.set_cons_zero, List.set_cons_succ])
              | (refine SeqS.take (v := undef) (by first | assumption | trivial) (by kernel_rfl) (by decide +kernel) (by decide +kernel) (Or.inr ⟨by rfl, rfl⟩) ?_
                 simp only [Act.put, List.setIfInBounds_toArray, List.set_cons_zero, List.set_cons_succ])
              | (refine SeqS.take1 (v := ?_) (by first | assumption | trivial) (by kernel_rfl) (by decide +kernel) (by decide +kernel) (Or.inl ⟨by rfl, ?_⟩) ?_
                 rotate_left
                 focus
                   intro w' hb'
                   go_simp
                   with_reducible rfl
                 simp only [Act.put, List.setIfInBounds_toArray, List.set_cons_zero, List.set_cons_succ])
              | (refine SeqS.take1 (v := undef) (by first | assumption | trivial) (by kernel_rfl) (by decide +kernel) (by decide +kernel) (Or.inr ⟨by rfl, rfl⟩) ?_
                 simp only [Act.put, List.setIfInBounds_toArray, List.set_cons_zero, List.set_cons_succ])
              | (refine SeqS.take2 (v := ?_) (by first | assumption | trivial) (by kernel_rfl) (by decide +kernel) (by decide +kernel) (Or.inl ⟨by rfl, ?_⟩) ?_
                 rotate_left
                 focus
                   intro w' hb'
                   go_simp
                   with_reducible rfl
                 simp only [Act.put, List.setIfInBounds_toArray, List.set_cons_zero, List.set_cons_succ])
              | (refine SeqS.take2 (v := undef) (by first | assumption | trivial) (by kernel_rfl) (by decide +kernel) (by decide +kernel) (Or.inr ⟨by rfl, rfl⟩) ?_
                 simp only [Act.put, List.setIfInBounds_toArray, List.set_cons_zero, List.set_cons_succ]))
            refine SeqS.either (rs := [1, 10]) (by decide +kernel) ?_
            intro o ho
            simp only [List.mem_cons, List.not_mem_nil, or_false] at ho
            rcases ho with rfl | rfl
            · refine ⟨[], _, [_, _, _, _], rfl, by rfl, fun K hK => ?_⟩
              go_simp
              refine hK _ _ trivial ?_
              clear hK K
              (try simp only [Act.put, List.setIfInBounds_toArray, List.set_cons_zero, List.set_cons_succ])
              refine SeqS.alone (by decide +kernel) (by rfl) (fun K hK => ?_)
              go_simp
              have hnew3 := Blk.new V2 41 [.int .u32 f, .slice b2 L c2]
              have b23 := below1 V2 (.cells #[.int .u32 f, .slice b2 L c2] 41)
              have b03 := b02.trans (b23.mono b02.size)
              obtain ⟨V3, hV3⟩ : ∃ V, V2.alloc (.cells #[.int .u32 f, .slice b2 L c2] 41) = V := ⟨_, rfl⟩
              rw [hV3] at hnew3 b23 b03
              rw [hV3]
              have kP3 := (hP0.keep b03 hP0.lt).cell 0
              refine hK _ _ trivial ?_
              clear hK K
              (try simp only [Act.put, List.setIfInBounds_toArray, List.set_cons_zero, List.set_cons_succ])
              have hM3 := hM0.keep b03
              have hown3 : V3.ownsRow (w.heap.size + 3) 5 1 (.slice b2 L c2) L (ys.map (Value.int .u8)) := own_low9 (own_stay9 hown2 b23) hBs
              have hB3 := hB0.trans (b03.mono hB0.size)
              have hj8 : j ≤ 8 := by have := hNN.out; have := hN1.out.2.2.2.2.2; omega
              have hneo : ∀ q, q < w.heap.size + 3 → some q ≠ (Value.slice (some ⟨pb, po, none⟩) j uc).ownBlock := fun q hq e => by have := (hM3.row.lt q e.symm).1; omega
              refine SeqS.alone (by decide +kernel) (by rfl) (fun K hK => ?_)
              refine wp_append_own V3 (.tmp 95) (.tmp 104) 22 rfl (w.heap.size + 3) 41 i0 _ 2 32 Tryd.underlying22 hi hz0 hz1 hz2 (by simp [Value.cells]) (by decide) (.slice (some ⟨pb, po, none⟩) j uc) j (tcells us ps) rfl hM3.row ⟨V2.heap.size, 0, none⟩ 1 1 [.int .u32 f, .slice b2 L c2] rfl rfl (by intro t u ht; rw [add_at9, hnew3.cell]; exact ht) (by simp [Value.oneCell']) (by unfold maxLen; omega) (by omega) (Nat.le_trans hBs b03.size) ?_
              intro v4 V4 hown4 hg4 _
              have hM4 := hM3.snoc hown3 hown4 hg4
              have hsl4 := hM4.slice
              obtain ⟨b4, c4, hv4⟩ := hsl4
              rw [hv4] at hM4 ⊢
              have hP4 := (hP0.keep b03 hP0.lt).grown hg4 (hneo P (by have := hPH.out; omega))
              have hR4 := (hR0.keep b03 hR0.lt).grown hg4 (hneo R (by have := hRH.out; omega))
              have hE4 := (hE0.keep b03 hE0.lt).grown hg4 (hneo E (by have := hEH.out; omega))
              have hB4 := hB3.grown hg4 hB3.size (fun q hq => by have := (hM3.row.lt q hq).1; omega)
              refine hK _ _ trivial ?_
              clear hK K
              (try simp only [Act.put, List.setIfInBounds_toArray, List.set_cons_zero, List.set_cons_succ])
              repeat (first
                | (refine SeqS.take (v := ?_) (by first | assumption | trivial) (by kernel_rfl) (by decide +kernel) (by decide +kernel) (Or.inl ⟨by rfl, ?_⟩) ?_
                   rotate_left
                   focus
                     intro w' hb'
                     go_simp
                     with_reducible rfl
                   simp only [Act.put, List.setIfInBounds_toArray, List.set_cons_zero, List.set_cons_succ])
                | (refine SeqS.take (v := undef) (by first | assumption | trivial) (by kernel_rfl) (by decide +kernel) (by decide +kernel) (Or.inr ⟨by rfl, rfl⟩) ?_
                   simp only [Act.put, List.setIfInBounds_toArray, List.set_cons_zero, List.set_cons_succ])
                | (refine SeqS.take1 (v := ?_) (by first | assumption | trivial) (by kernel_rfl) (by decide +kernel) (by decide +kernel) (Or.inl ⟨by rfl, ?_⟩) ?_
                   rotate_left
                   focus
                     intro w' hb'
                     go_simp
                     with_reducible rfl
                   simp only [Act.put, List.setIfInBounds_toArray, List.set_cons_zero, List.set_cons_succ])
                | (refine SeqS.take1 (v := undef) (by first | assumption | trivial) (by kernel_rfl) (by decide +kernel) (by decide +kernel) (Or.inr ⟨by rfl, rfl⟩) ?_
                   simp only [Act.put, List.setIfInBounds_toArray, List.set_cons_zero, List.set_cons_succ])
                | (refine SeqS.take2 (v := ?_) (by first | assumption | trivial) (by kernel_rfl) (by decide +kernel) (by decide +kernel) (Or.inl ⟨by rfl, ?_⟩) ?_
                   rotate_left
                   focus
                     intro w' hb'
                     go_simp
                     with_reducible rfl
                   simp only [Act.put, List.setIfInBounds_toArray, List.set_cons_zero, List.set_cons_succ])
                | (refine SeqS.take2 (v := undef) (by first | assumption | trivial) (by kernel_rfl) (by decide +kernel) (by decide +kernel) (Or.inr ⟨by rfl, rfl⟩) ?_
                   simp only [Act.put, List.setIfInBounds_toArray, List.set_cons_zero, List.set_cons_succ]))
              refine SeqS.alone (by decide +kernel) (by rfl) (fun K hK => ?_)
              have cP := hP4.cell 0
              have fP := hP4.frozen 0
              go_simp
              refine hK _ _ trivial ?_
              clear hK K
              (try simp only [Act.put, List.setIfInBounds_toArray, List.set_cons_zero, List.set_cons_succ])
              refine SeqS.done (by decide +kernel) ?_
              have hP5 := hP4.set 0 (.slice b4 (j + 1) c4)
              have hR5 := hR4.far (p := ⟨P, 0, none⟩) (by show R ≠ P; have := hPH.out; have := hRH.out; omega) (.slice b4 (j + 1) c4)
              have hE5 := hE4.far (p := ⟨P, 0, none⟩) (by show E ≠ P; have := hPH.out; have := hEH.out; omega) (.slice b4 (j + 1) c4)
              have hB5 := hB4.setCell (p := ⟨P, 0, none⟩) (by show w.heap.size ≤ P; have := hPH.out; omega) (.slice b4 (j + 1) c4)
              have hM5 := hM4.moved (w' := V4.setCell ⟨P, 0, none⟩ (.slice b4 (j + 1) c4)) (fun q hq _ => Below.heap_setCell V4 ⟨P, 0, none⟩ _ q (by show q ≠ P; have := hPH.out; omega))
              obtain ⟨V5, hV5⟩ : ∃ V, V4.setCell ⟨P, 0, none⟩ (.slice b4 (j + 1) c4) = V := ⟨_, rfl⟩
              rw [hV5] at hP5 hR5 hE5 hB5 hM5
              rw [hV5]
              obtain ⟨hnx, hnxr, hur2, hdec2, hm9i, hlt⟩ := hN1.out
              have hfinal := Lib.hid (And.intro hnx (And.intro hnxr (And.intro hur2 (And.intro hdec2 (And.intro hm9i (And.intro hlt (And.intro hM5 (And.intro hR5 (And.intro hE5 (And.intro hP5 hB5))))))))))
              clear hV5 hM4 hP4 hR4 hE4 hB4 hown4 hg4 hM3 hown3 hB3 hneo hnx hnxr hur2 hdec2 hm9i hlt hN1 hP5 hR5 hE5 hB5 hM5 cP fP hnew3 b23 b03 b02 hown2 hg2 own1 b01 II1 kP0 kP1 kP2 kP3 hBs hM0 hR0 hE0 hP0 hB0 s2 hV3 hV1 hyH
              go_wp2
              obtain ⟨hnx, hnxr, hur2, hdec2, hm9i, hlt, hM5, hR5, hE5, hP5, hB5⟩ := hfinal.out
              exact ⟨⟨j + 1, us ++ [(f, ys)], ps ++ [(b2, c2)], .slice b4 (j + 1) c4, A3, m9, d9, nx, by omega, by congr 1, rfl, hm9i, hnx, hnxr, hur2, hdec2, hM5, hR5, hE5, hP5, hB5⟩, by simp only [intOf]; omega⟩
            · refine ⟨[_], _, [_, _, _], rfl, by rfl, fun K hK => ?_⟩
              go_simp
              have hnew3 := Blk.new V2 41 [.int .u32 f, .slice b2 L c2]
              have b23 := below1 V2 (.cells #[.int .u32 f, .slice b2 L c2] 41)
              have b03 := b02.trans (b23.mono b02.size)
              obtain ⟨V3, hV3⟩ : ∃ V, V2.alloc (.cells #[.int .u32 f, .slice b2 L c2] 41) = V := ⟨_, rfl⟩
              rw [hV3] at hnew3 b23 b03
              rw [hV3]
              have kP3 := (hP0.keep b03 hP0.lt).cell 0
              refine hK _ _ trivial ?_
              clear hK K
              (try simp only [Act.put, List.setIfInBounds_toArray, List.set_cons_zero, List.set_cons_succ])
              refine SeqS.alone (by decide +kernel) (by rfl) (fun K hK => ?_)
              go_simp
              refine hK _ _ trivial ?_
              clear hK K
              (try simp only [Act.put, List.setIfInBounds_toArray, List.set_cons_zero, List.set_cons_succ])
              have hM3 := hM0.keep b03
              have hown3 : V3.ownsRow (w.heap.size + 3) 5 1 (.slice b2 L c2) L (ys.map (Value.int .u8)) := own_low9 (own_stay9 hown2 b23) hBs
              have hB3 := hB0.trans (b03.mono hB0.size)
              have hj8 : j ≤ 8 := by have := hNN.out; have := hN1.out.2.2.2.2.2; omega
              have hneo : ∀ q, q < w.heap.size + 3 → some q ≠ (Value.slice (some ⟨pb, po, none⟩) j uc).ownBlock := fun q hq e => by have := (hM3.row.lt q e.symm).1; omega
              refine SeqS.alone (by decide +kernel) (by rfl) (fun K hK => ?_)
              refine wp_append_own V3 (.tmp 95) (.tmp 104) 22 rfl (w.heap.size + 3) 41 i0 _ 2 32 Tryd.underlying22 hi hz0 hz1 hz2 (by simp [Value.cells]) (by decide) (.slice (some ⟨pb, po, none⟩) j uc) j (tcells us ps) rfl hM3.row ⟨V2.heap.size, 0, none⟩ 1 1 [.int .u32 f, .slice b2 L c2] rfl rfl (by intro t u ht; rw [add_at9, hnew3.cell]; exact ht) (by simp [Value.oneCell']) (by unfold maxLen; omega) (by omega) (Nat.le_trans hBs b03.size) ?_
              intro v4 V4 hown4 hg4 _
              have hM4 := hM3.snoc hown3 hown4 hg4
              have hsl4 := hM4.slice
              obtain ⟨b4, c4, hv4⟩ := hsl4
              rw [hv4] at hM4 ⊢
              have hP4 := (hP0.keep b03 hP0.lt).grown hg4 (hneo P (by have := hPH.out; omega))
              have hR4 := (hR0.keep b03 hR0.lt).grown hg4 (hneo R (by have := hRH.out; omega))
              have hE4 := (hE0.keep b03 hE0.lt).grown hg4 (hneo E (by have := hEH.out; omega))
              have hB4 := hB3.grown hg4 hB3.size (fun q hq => by have := (hM3.row.lt q hq).1; omega)
              refine hK _ _ trivial ?_
              clear hK K
              (try simp only [Act.put, List.setIfInBounds_toArray, List.set_cons_zero, List.set_cons_succ])
              repeat (first
                | (refine SeqS.take (v := ?_) (by first | assumption | trivial) (by kernel_rfl) (by decide +kernel) (by decide +kernel) (Or.inl ⟨by rfl, ?_⟩) ?_
                   rotate_left
                   focus
                     intro w' hb'
                     go_simp
                     with_reducible rfl
                   simp only [Act.put, List.setIfInBounds_toArray, List.set_cons_zero, List.set_cons_succ])
                | (refine SeqS.take (v := undef) (by first | assumption | trivial) (by kernel_rfl) (by decide +kernel) (by decide +kernel) (Or.inr ⟨by rfl, rfl⟩) ?_
                   simp only [Act.put, List.setIfInBounds_toArray, List.set_cons_zero, List.set_cons_succ])
                | (refine SeqS.take1 (v := ?_) (by first | assumption | trivial) (by kernel_rfl) (by decide +kernel) (by decide +kernel) (Or.inl ⟨by rfl, ?_⟩) ?_
                   rotate_left
                   focus
                     intro w' hb'
                     go_simp
                     with_reducible rfl
                   simp only [Act.put, List.setIfInBounds_toArray, List.set_cons_zero, List.set_cons_succ])
                | (refine SeqS.take1 (v := undef) (by first | assumption | trivial) (by kernel_rfl) (by decide +kernel) (by decide +kernel) (Or.inr ⟨by rfl, rfl⟩) ?_
                   simp only [Act.put, List.setIfInBounds_toArray, List.set_cons_zero, List.set_cons_succ])
                | (refine SeqS.take2 (v := ?_) (by first | assumption | trivial) (by kernel_rfl) (by decide +kernel) (by decide +kernel) (Or.inl ⟨by rfl, ?_⟩) ?_
                   rotate_left
                   focus
                     intro w' hb'
                     go_simp
                     with_reducible rfl
                   simp only [Act.put, List.setIfInBounds_toArray, List.set_cons_zero, List.set_cons_succ])
                | (refine SeqS.take2 (v := undef) (by first | assumption | trivial) (by kernel_rfl) (by decide +kernel) (by decide +kernel) (Or.inr ⟨by rfl, rfl⟩) ?_
                   simp only [Act.put, List.setIfInBounds_toArray, List.set_cons_zero, List.set_cons_succ]))
              refine SeqS.alone (by decide +kernel) (by rfl) (fun K hK => ?_)
              have cP := hP4.cell 0
              have fP := hP4.frozen 0
              go_simp
              refine hK _ _ trivial ?_
              clear hK K
              (try simp only [Act.put, List.setIfInBounds_toArray, List.set_cons_zero, List.set_cons_succ])
              refine SeqS.done (by decide +kernel) ?_
              have hP5 := hP4.set 0 (.slice b4 (j + 1) c4)
              have hR5 := hR4.far (p := ⟨P, 0, none⟩) (by show R ≠ P; have := hPH.out; have := hRH.out; omega) (.slice b4 (j + 1) c4)
              have hE5 := hE4.far (p := ⟨P, 0, none⟩) (by show E ≠ P; have := hPH.out; have := hEH.out; omega) (.slice b4 (j + 1) c4)
              have hB5 := hB4.setCell (p := ⟨P, 0, none⟩) (by show w.heap.size ≤ P; have := hPH.out; omega) (.slice b4 (j + 1) c4)
              have hM5 := hM4.moved (w' := V4.setCell ⟨P, 0, none⟩ (.slice b4 (j + 1) c4)) (fun q hq _ => Below.heap_setCell V4 ⟨P, 0, none⟩ _ q (by show q ≠ P; have := hPH.out; omega))
              obtain ⟨V5, hV5⟩ : ∃ V, V4.setCell ⟨P, 0, none⟩ (.slice b4 (j + 1) c4) = V := ⟨_, rfl⟩
              rw [hV5] at hP5 hR5 hE5 hB5 hM5
              rw [hV5]
              obtain ⟨hnx, hnxr, hur2, hdec2, hm9i, hlt⟩ := hN1.out
              have hfinal := Lib.hid (And.intro hnx (And.intro hnxr (And.intro hur2 (And.intro hdec2 (And.intro hm9i (And.intro hlt (And.intro hM5 (And.intro hR5 (And.intro hE5 (And.intro hP5 hB5))))))))))
              clear hV5 hM4 hP4 hR4 hE4 hB4 hown4 hg4 hM3 hown3 hB3 hneo hnx hnxr hur2 hdec2 hm9i hlt hN1 hP5 hR5 hE5 hB5 hM5 cP fP hnew3 b23 b03 b02 hown2 hg2 own1 b01 II1 kP0 kP1 kP2 kP3 hBs hM0 hR0 hE0 hP0 hB0 s2 hV3 hV1 hyH
              go_wp2
              obtain ⟨hnx, hnxr, hur2, hdec2, hm9i, hlt, hM5, hR5, hE5, hP5, hB5⟩ := hfinal.out
              exact ⟨⟨j + 1, us ++ [(f, ys)], ps ++ [(b2, c2)], .slice b4 (j + 1) c4, A3, m9, d9, nx, by omega, by congr 1, rfl, hm9i, hnx, hnxr, hur2, hdec2, hM5, hR5, hE5, hP5, hB5⟩, by simp only [intOf]; omega⟩
    · obtain rfl : N = j := by omega
      have hji : ¬ (N : Int) < (N : Int) := by omega
      rw [Nat.sub_self] at hdec
      by_cases h0 : m = 0
      · have hrest : rest = [] := List.length_eq_zero_iff.1 (by omega)
        have hd : decT 0 (lastF (-1) us) rest = ([], 0) := by rw [hrest]; rfl
        rw [hd, foldr_ok] at hdec
        have hend := Lib.hid hdec
        have hm0 : ¬ (0 : Int) < (m : Int) := by omega
        obtain ⟨ub, uc, rfl⟩ := hM.slice
        have kP := hP.cell 0
        have hRS := Lib.hid (hR.set 0 (.slice ub N uc))
        have hBS := Lib.hid (hB.setCell (p := ⟨R, 0, none⟩) (by have := hRH.out; show w.heap.size ≤ R; omega) (.slice ub N uc))
        have hMS := Lib.hid (hM.moved (w' := wr.setCell ⟨R, 0, none⟩ (.slice ub N uc)) (fun q hq _ => Below.heap_setCell wr ⟨R, 0, none⟩ _ q (by show q ≠ R; have := hRH.out; omega)))
        clear hR hE hP hB hM hdec hd hrest hI hrr hur hl hm hlt hj h0
        go_wp2_with fail
        refine bodyPost_ret (results_blk_tmp rfl rfl hRS.out rowPay) rfl ?_
        rw [hend.out]
        have hlen := hMS.out.len
        dsimp only
        rw [hlen]
        exact ⟨ub, uc, rfl, hMS.out.at, hBS.out⟩
      · have hd : decT 0 (lastF (-1) us) rest = ([], 3) := by rw [decT, if_neg (by intro e; rw [e] at hl; simp at hl; omega)]
        rw [hd, foldr_bad us (by decide)] at hdec
        have hend := Lib.hid hdec
        have hm0 : (0 : Int) < (m : Int) := by omega
        clear hdec hd hI hrr hur hl hm hlt hj h0
        have hRS := Lib.hid (hR.set 0 (.slice none 0 0))
        have hBS := Lib.hid (hB.setCell (p := ⟨R, 0, none⟩) (by have := hRH.out; show w.heap.size ≤ R; omega) (.slice none 0 0))
        clear hR hE hP hB hM
        go_wp2_with fail
        refine bodyPost_ret (results_blk_tmp rfl rfl hRS.out rowPay) rfl ?_
        rw [hend.out]
        exact ⟨none, 0, rfl, ⟨rfl, Nat.le_refl _, .inl rfl⟩, hBS.out⟩
theorem r13Decode_any (a : Option Addr) (n c : Nat) (xs : List Int) (w : World) (hI : Ints .u8 w a n c xs) (hr : ∀ x ∈ xs, 0 ≤ x ∧ x < 256) (hn : n ≤ 10000) :
    Calls Tryd.prog 15 #[.slice a n c] w fun q w' => ∃ b d, q = .returned (.tuple #[.agg #[.slice b (decP xs).1.length d], .int .i64 (decP xs).2]) ∧ TiersAt w' b (decP xs).1.length d (decP xs).1 ∧ Below w.heap.size w w' := by
  by_cases hb : n = 0 ∨ xs.getD 0 0 < 1 ∨ 8 < xs.getD 0 0
  · refine (r13Dec_bad a n c xs w hI hr hb).mono ?_
    rintro q w' ⟨rfl, h1, hB⟩
    rw [h1]
    exact ⟨none, 0, rfl, ⟨rfl, Nat.le_refl _, .inl rfl⟩, hB⟩
  · obtain ⟨N, hN⟩ : ∃ N : Nat, xs.getD 0 0 = (N : Int) := ⟨(xs.getD 0 0).toNat, by omega⟩
    exact r13Dec_ok a n c xs N w hI hr hn (by omega) hN (by omega) (by omega)
end Go.Proofs.YtcfachgfgogllaaDoor

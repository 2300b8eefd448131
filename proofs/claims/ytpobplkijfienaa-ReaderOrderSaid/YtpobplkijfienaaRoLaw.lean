/-
  The law ReaderOrder of the landed reader: bytes read in pieces are the bytes, whatever comes of those that were handed in and told. New memory alone is written. Conditions: the bytes are such as come in.
-/
import Derived.Test.YtpobplkijfienaaRpProg
import Derived.Deep.AppendLies
namespace Go.Proofs.Ytpobplkijfienaa
open Go.RowKit

/-- Bytes in a block of their own, whatever they are. -/
def Bys (w : World) (a : Option Addr) (n c : Nat) : Prop := n ≤ c ∧ (n = 0 ∨ ∃ g cs, a = some ⟨g, 0, none⟩ ∧ Blk w g 5 cs ∧ ∀ i, i < n → ∃ v, cs[i]? = some (.int .u8 v))
theorem Bys.of_owns {w : World} {B : Nat} {a : Option Addr} {n c : Nat} {xs : List Int} (h : w.ownsRow B 5 1 (.slice a n c) n (xs.map (Value.int .u8))) : Bys w a n c := by
  have hl : xs.length = n := by have := h.1; simpa using this
  rcases h.2 with ⟨hv, hn⟩ | ⟨g, cap, cur, hv, _, hg, hnc, hsz, hcur, htk⟩
  · injection hv with _ _ h3
    exact ⟨by omega, .inl hn⟩
  · injection hv with h1 _ h3
    refine ⟨by omega, .inr ⟨g, cur.toList, h1, by simpa [Blk] using hg, fun i hi => ⟨xs.getD i 0, ?_⟩⟩⟩
    rw [Nat.mul_one] at htk
    rw [← List.getElem?_take_of_lt hi, htk]
    exact getElem?_mapInt .u8 xs i (by omega)
/-- The block of a slice that has bytes. -/
def At (a : Option Addr) (n : Nat) (b : Nat) : Prop := 0 < n ∧ ∃ x, a = some x ∧ x.block = b
theorem Bys.inc {w : World} {a : Option Addr} {n c : Nat} (h : Bys w a n c) (j : Nat) (hj : j < n) : ∃ g v, a = some ⟨g, 0, none⟩ ∧ w.cell? ⟨g, j, none⟩ = some (.int .u8 v) ∧ w.frozen? ⟨g, j, none⟩ = false ∧ ∀ u, Bys (w.setCell ⟨g, j, none⟩ (.int .u8 u)) a n c ∧ Moved (At a n) w (w.setCell ⟨g, j, none⟩ (.int .u8 u)) := by
  rcases h.2 with h0 | ⟨g, cs, ha, hb, hv⟩
  · omega
  · obtain ⟨v, hvj⟩ := hv j hj
    refine ⟨g, v, ha, (hb.cell j).trans hvj, hb.frozen j, fun u => ⟨⟨h.1, .inr ⟨g, _, ha, hb.set j _, fun i hi => ?_⟩⟩, moved_set ⟨by omega, _, ha, rfl⟩ (grown_setCell w g j _)⟩⟩
    by_cases e : i = j
    · subst e
      exact ⟨u, by rw [List.getElem?_set_self (List.getElem?_eq_some_iff.1 hvj).1]⟩
    · obtain ⟨x, hx⟩ := hv i hi
      exact ⟨x, by rw [List.getElem?_set_ne (fun h => e h.symm)]; exact hx⟩
theorem Moved.rfl' {F : Nat → Prop} {w : World} : Moved F w w := Moved.of_below (Below.refl _ _)
theorem own_moved {F : Nat → Prop} {w w' : World} {B : Nat} {e : TypeId} {v : Value} {n : Nat} {vs : List Value} (h : w.ownsRow B e 1 v n vs) (hm : Moved F w w') (hF : ∀ b, v.ownBlock = some b → ¬ F b) : w'.ownsRow B e 1 v n vs := by
  refine ⟨h.1, ?_⟩
  rcases h.2 with h0 | ⟨g, cap, cur, hv, hb, hg, hr⟩
  · exact .inl h0
  · exact .inr ⟨g, cap, cur, hv, hb, (hm.2 g (Array.getElem?_eq_some_iff.1 hg).1 (hF g (by rw [hv]; rfl))).trans hg, hr⟩
theorem Bys.grown {w w' : World} {a : Option Addr} {n c : Nat} {row : Option Nat} (h : Bys w a n c) (hg : w.grownBy w' row) (hne : ∀ b, At a n b → some b ≠ row) : Bys w' a n c := by
  refine ⟨h.1, ?_⟩
  rcases h.2 with h0 | ⟨g, cs, ha, hb, hv⟩
  · exact .inl h0
  · by_cases h0 : n = 0
    · exact .inl h0
    · exact .inr ⟨g, cs, ha, hb.grown hg (hne g ⟨by omega, _, ha, rfl⟩), hv⟩
theorem rd_piece (n p t : Nat) (h : p + t ≤ n) : rdStep n p 0 (t : Int) = (p + t, 0, t) := by
  unfold rdStep
  rw [if_neg (by decide), if_neg (by omega), if_neg (by omega), Int.toNat_natCast]
theorem take_piece (xs : List Int) (p t : Nat) : (xs.take p).map (Value.int .u8) ++ ((xs.drop p).take t).map (Value.int .u8) = (xs.take (p + t)).map (Value.int .u8) := by
  rw [← List.map_append, ← List.take_add]

set_option maxRecDepth 100000 in
set_option maxHeartbeats 2000000 in
theorem law_order (ba : Option Addr) (n bc : Nat) (xs : List Int) (ca : Option Addr) (m cc : Nat) (cs : List Int) (w : World) (hI : Ints .u8 w ba n bc xs) (hz : ∀ x ∈ xs, (Lit.int .u8 x).wf = true) (_hm0 : bc ≤ maxLen) (hC : Ints .u8 w ca m cc cs) (hcz : ∀ x ∈ cs, (Lit.int .u8 x).wf = true) (_hm1 : cc ≤ maxLen) :
    Calls Try.prog 4 #[.slice ba n bc, .slice ca m cc] w fun r w' => r = .returned (.bool true) ∧ Below w.heap.size w w' := by
  by_cases hn : 1000 < n
  · have hni : (1000 : Int) < (n : Int) := by omega
    go_enter Try.func4, Try.ntmps4
    go_wp2_with fail
    refine (alive9_any readerProg w trivial).mono ?_
    rintro r w9 ⟨rfl, b9⟩
    go_wp2
    go_ret
    exact ⟨rfl, b9⟩
  by_cases hm : 200 < m
  · have hni : ¬ (1000 : Int) < (n : Int) := by omega
    have hmi : (200 : Int) < (m : Int) := by omega
    go_enter Try.func4, Try.ntmps4
    go_wp2_with fail
    refine (alive9_any readerProg w trivial).mono ?_
    rintro r w9 ⟨rfl, b9⟩
    go_wp2
    go_ret
    exact ⟨rfl, b9⟩
  have hni : ¬ (1000 : Int) < (n : Int) := by omega
  have hmi : ¬ (200 : Int) < (m : Int) := by omega
  obtain ⟨i0, hi, hz0, hz1, hz2⟩ := info_u8b
  have hr : ∀ x ∈ xs, 0 ≤ x ∧ x < 256 := fun x hx => by have := bounds_u8 (hz x hx); omega
  have hcr : ∀ x ∈ cs, 0 ≤ x ∧ x < 256 := fun x hx => by have := bounds_u8 (hcz x hx); omega
  have hnH := Lib.hid hn
  have hmH := Lib.hid hm
  have q3 : Below w.heap.size w (w.alloc (.cells #[] 5)) := below1 _ _
  have I3 := Lib.hid (hI.keep q3)
  clear hn hm hz hcz _hm0 _hm1
  go_enter Try.func4, Try.ntmps4
  go_wp2_with (at_builtin
               refine wpList_append_ints rfl (.tmp 23) (.tmp 24) 22 rfl w.heap.size 5 i0 (.int .u8 0) 1 Try.underlying22 hi hz0 hz1 hz2 rfl rfl (World.ownsRow_made w #[] 0 (Nat.le_refl _) (Nat.zero_le _) rfl) rfl I3.out ?_ ?_ q3.size ?_
               (have := hnH.out; unfold maxLen; omega)
               (have := hnH.out; omega)
               intro v1 w1 ho1 hg1
               refine RowKit.Hid.out ?_)
  refine Lib.hid ?_
  rw [List.nil_append, Nat.zero_add] at ho1
  have b1 : Below w.heap.size w w1 := q3.grown hg1 q3.size (fun k hk => by injection hk with hk; rw [← hk]; exact Nat.le_refl _)
  have hsl : ∃ oa oc, v1 = .slice oa n oc := own_slice ho1
  obtain ⟨oa, oc, hv1⟩ := hsl
  rw [hv1] at ho1 ⊢
  have hBy1 := Bys.of_owns ho1
  have hI1 : Ints .u8 w1 oa n oc xs := by
    obtain ⟨a', c', hv, hi⟩ := Ints.of_owns ho1
    injection hv with e1 _ e2
    subst e1; subst e2
    exact hi
  have hoB : ∀ b, At oa n b → w.heap.size ≤ b ∧ b < w1.heap.size := fun b ⟨_, x, hx, hb⟩ => by rw [← hb]; exact ho1.lt x.block (by rw [hx]; rfl)
  clear hg1 q3 I3 hv1
  go_wp2_with fail
  refine (pNew_any oa n oc xs w1 hI1 hr (by have := hnH.out; omega)).mono ?_
  rintro r w2 ⟨g, F, rfl, hR2, hF2, b2⟩
  have hBy2 : Bys w2 oa n oc := by
    refine ⟨hBy1.1, ?_⟩
    rcases hBy1.2 with h0 | ⟨k, cs, ha, hk, hv⟩
    · exact .inl h0
    · exact .inr ⟨k, cs, ha, hk.keep b2 hk.lt, hv⟩
  have nFo : ∀ b, At oa n b → ¬ F b := fun b hb hf => by have := (hoB b hb).2; have := hF2 b hf; omega
  have hB2 : Below w.heap.size w w2 := b1.trans (b2.mono b1.size)
  have hs12 := b2.size
  have hs01 := b1.size
  clear hI1 ho1 hBy1 b1 b2
  go_wp2_with fail
  go_loopw [30] (fun i wr => ∃ j : Nat, j ≤ n ∧ i = .int .i64 j ∧ Bys wr oa n oc ∧ Moved (At oa n) w2 wr) (fun i _ => n - (intOf i).toNat)
  case atStart => exact ⟨0, Nat.zero_le _, rfl, hBy2, Moved.rfl'⟩
  case round =>
    obtain ⟨j, hj, rfl, hBy, hMv⟩ := hrel
    by_cases hlt : j < n
    · have hji : (j : Int) < (n : Int) := by omega
      obtain ⟨o, v, rfl, hc, hf, hinc⟩ := hBy.inc j hlt
      have hltH := Lib.hid hlt
      have hnI : (n : Int) ≤ 1000 := by have := hnH.out; omega
      clear hlt hj
      go_wp2
      exact ⟨⟨j + 1, by have := hltH.out; omega, by congr 1, (hinc _).1, hMv.then (hinc _).2⟩, by simp only [intOf]; have := hltH.out; omega⟩
    · have hji : ¬ (j : Int) < (n : Int) := by omega
      have hneA : ∀ b, F b → ¬ At oa n b := fun b hf ha => nFo b ha hf
      have hR3 : RdAt F wr g xs 0 0 := hR2.keep (fun b hb => hMv.2 b (hR2.lt b hb) (hneA b hb)) hMv.size
      have hB3 : Below w.heap.size w wr := hB2.trans (hMv.below (fun b hb => (hoB b hb).1) hB2.size)
      have hs3 : w2.heap.size ≤ wr.heap.size := hMv.size
      obtain ⟨B0, hB0⟩ : ∃ B0, w2.heap.size = B0 := ⟨_, rfl⟩
      have hFB : ∀ b, F b → b < B0 := fun b hb => by rw [← hB0]; exact hR2.lt b hb
      have hFlo : ∀ b, F b → w.heap.size ≤ b := fun b hb => by have := hF2 b hb; have := hs01; omega
      have hwB : w.heap.size ≤ B0 := by rw [← hB0]; exact hB2.size
      rw [hB0] at hs3
      clear hMv hBy hBy2 hneA nFo hoB hB2 hs12 hR2 hB0 hF2 hlt hj
      go_wp2_with fail
      go_loopw [8, 42] (fun out i wr => ∃ k p : Nat, k ≤ m ∧ p ≤ n ∧ i = .int .i64 k ∧ wr.ownsRow B0 5 1 out p ((xs.take p).map (Value.int .u8)) ∧ RdAt F wr g xs p 0 ∧ Below w.heap.size w wr ∧ B0 ≤ wr.heap.size) (fun _ i _ => m - (intOf i).toNat)
      case atStart => exact ⟨0, 0, Nat.zero_le _, Nat.zero_le _, rfl, World.ownsRow_nil _ _ _ _, hR3, hB3, hs3⟩
      case round =>
        clear hR3 hB3 hs3
        obtain ⟨k, p, hk, hp, rfl, hout, hR, hB, hS⟩ := hrel
        by_cases hlt : k < m
        · have hki : (k : Int) < (m : Int) := by omega
          obtain ⟨cb, coff, rfl, hcat⟩ := (hC.keep hB).at (by omega)
          have hck := hcat k hlt
          have hlen := hI.len
          have hcv := getD_range (p := fun x => 0 ≤ x ∧ x < 256) hcr k (by rw [hC.len]; exact hlt)
          obtain ⟨cv, hcve⟩ : ∃ cv, cs.getD k 0 = cv := ⟨_, rfl⟩
          rw [hcve] at hck hcv
          clear hcat hcve
          obtain ⟨L, hL⟩ : ∃ L : Nat, n - p = L := ⟨_, rfl⟩
          have hcl := pLeft_any hR
          rw [hlen, show ((n : Int) - p) = (L : Int) by omega] at hcl
          by_cases hmin : cv ≤ (L : Int)
          ·
            have hcv0 := hcv.1
            obtain ⟨T, rfl⟩ : ∃ T : Nat, cv = T := ⟨cv.toNat, by omega⟩
            have hTH := Lib.hid (show p + T ≤ n by omega)
            go_wp2_with fail
            refine hcl.mono ?_
            rintro r w3 ⟨rfl, q, hq⟩
            have d3 : Below wr.heap.size wr w3 := by rw [hq]; exact below_drewN (Below.refl _ _) q
            have hR3 := hR.keep (fun b hb => d3.block b (hR.lt b hb)) d3.size
            have hout3 := own_stay9 hout d3
            have hB3 := hB.trans (d3.mono hB.size)
            have hS3 := Nat.le_trans hS d3.size
            have hoL : ∀ b, u8.ownBlock = some b → B0 ≤ b ∧ b < w3.heap.size := fun b hb => hout3.lt b hb
            have hkH := Lib.hid hlt
            clear hq hcl hR hout hB hS d3 hlt hk
            go_wp2_with fail
            have hcb := pBytes_any (T : Int) hR3
            rw [hlen, rd_piece n p T (by have := hTH.out; omega)] at hcb
            have hrb : rdBytes xs p 0 (T : Int) = (xs.drop p).take T := by unfold rdBytes; rw [hlen, rd_piece n p T (by have := hTH.out; omega)]
            rw [hrb] at hcb
            dsimp only at hcb
            refine hcb.mono ?_
            rintro r w4 ⟨xa, xc, rfl, hxo, hxF, hR4, hM4⟩
            have hout4 := own_moved hout3 hM4 (fun b hb hf => by have := hFB b hf; have := (hoL b hb).1; omega)
            have hB4 := hB3.trans (hM4.below hFlo hB3.size)
            have hS4 := Nat.le_trans hS3 hM4.size
            have hxB : ∀ b, At xa T b → w3.heap.size ≤ b ∧ b < w4.heap.size := fun b ⟨_, x, hx, hb⟩ => by rw [← hb]; exact hxo.lt x.block (by rw [hx]; rfl)
            have hBy4 := Bys.of_owns hxo
            have hneF : ∀ b, F b → ¬ At xa T b := fun b hf ha => by have := hFB b hf; have := (hxB b ha).1; omega
            have hlo5 : ∀ b, At xa T b → B0 ≤ b := fun b ha => Nat.le_trans hS3 (hxB b ha).1
            have hT1 := Lib.hid (show T ≤ 1000 by have := hTH.out; have := hnH.out; omega)
            clear hcb hrb hR3 hout3 hB3 hS3
            rcases Nat.eq_zero_or_pos T with h0 | h0
            · have hxi : Ints .u8 w4 xa T xc ((xs.drop p).take T) := by
                obtain ⟨a', c', hv, hi⟩ := Ints.of_owns hxo
                injection hv with e1 _ e2
                subst e1; subst e2
                exact hi
              have hT0 := Lib.hid h0
              clear h0
              go_wp2_with (at_builtin
                           refine wpList_append_ints rfl (.tmp 53) (.tmp 54) 22 rfl B0 5 i0 (.int .u8 0) 1 Try.underlying22 hi hz0 hz1 hz2 rfl rfl hout4 rfl hxi ?_ ?_ hS4 ?_
                           (have := hTH.out; have := hnH.out; unfold maxLen; omega)
                           (have := hTH.out; have := hnH.out; omega)
                           intro v5 w5 own5 hg5
                           refine RowKit.Hid.out ?_)
              refine Lib.hid ?_
              rw [take_piece] at own5
              have hsl : ∃ a5 c5, v5 = .slice a5 (p + T) c5 := own_slice own5
              obtain ⟨a5, c5, hv5⟩ := hsl
              rw [hv5] at own5 ⊢
              have hne5 : ∀ b, (Value.slice a5 (p + T) c5).ownBlock = some b → ¬ At xa T b := fun b _ ha => by have := ha.1; have := hT0.out; omega
              have hBy5 : Bys w5 xa T xc := ⟨hBy4.1, .inl hT0.out⟩
              have hR5 := hR4.keep (fun b hb => hg5.block b (hR4.lt b hb) (fun e => by have := (hoL b e.symm).1; have := hFB b hb; omega)) hg5.size
              have hB5 := hB4.grown hg5 hB4.size (fun b hb => Nat.le_trans hwB (hoL b hb).1)
              have hS5 := Nat.le_trans hS4 hg5.size
              clear hg5 hxi hv5 hBy4
              clear hM4 hxo hxF hout4 hR4 hB4 hS4
              go_wp2_with fail
              go_loopw [58] (fun i wr => ∃ j : Nat, j ≤ T ∧ i = .int .i64 j ∧ Bys wr xa T xc ∧ Moved (At xa T) w5 wr) (fun i _ => T - (intOf i).toNat)
              case atStart => exact ⟨0, Nat.zero_le _, rfl, hBy5, Moved.rfl'⟩
              case round =>
                clear hBy5
                obtain ⟨j, hj, rfl, hBy, hMv⟩ := hrel
                by_cases hlt : j < T
                · have hji : (j : Int) < (T : Int) := by omega
                  obtain ⟨o, v, rfl, hc, hf, hinc⟩ := hBy.inc j hlt
                  have hltj := Lib.hid hlt
                  have hTI : (T : Int) ≤ 1000 := by have := hT1.out; omega
                  clear hlt hj
                  go_wp2
                  exact ⟨⟨j + 1, by have := hltj.out; omega, by congr 1, (hinc _).1, hMv.then (hinc _).2⟩, by simp only [intOf]; have := hltj.out; omega⟩
                · have hji : ¬ (j : Int) < (T : Int) := by omega
                  have own6 := own_moved own5 hMv hne5
                  have hR6 := hR5.keep (fun b hb => hMv.2 b (hR5.lt b hb) (fun ha => hneF b hb ha)) hMv.size
                  have hB6 := hB5.trans (hMv.below (fun b hb => Nat.le_trans hwB (hlo5 b hb)) hB5.size)
                  have hS6 := Nat.le_trans hS5 hMv.size
                  have hkm : (k : Int) ≤ 200 := by have := hkH.out; have := hmH.out; omega
                  clear hlt hj hMv hBy own5 hR5 hB5 hS5
                  go_wp2
                  exact ⟨⟨k + 1, p + T, by have := hkH.out; omega, by have := hTH.out; omega, by congr 1, own6, hR6, hB6, hS6⟩, by simp only [intOf]; have := hkH.out; omega⟩
            · obtain ⟨X, xcur, hxa, hxb, hxT⟩ : ∃ X xcur, xa = some ⟨X, 0, none⟩ ∧ Blk w4 X 5 xcur ∧ xcur.take T = ((xs.drop p).take T).map (Value.int .u8) := by
                rcases hxo.2 with ⟨_, hn0⟩ | ⟨G, cap, cur, hv, _, hg, hnc, _, hsz, htk⟩
                · omega
                · injection hv with h1 _ h3
                  exact ⟨G, cur.toList, h1, by simpa [Blk] using hg, by rw [Nat.mul_one] at htk; exact htk⟩
              subst hxa
              have hXs := hxB X ⟨h0, _, rfl, rfl⟩
              obtain ⟨N, hN⟩ : ∃ N, ((xs.drop p).take T).map (Value.int .u8) = N := ⟨_, rfl⟩
              have hNl : N.length = T * 1 := by rw [← hN, List.length_map, List.length_take, List.length_drop, hlen]; have := hTH.out; omega
              have hNo : ∀ u ∈ N, u.oneCell' = true := by rw [← hN]; exact ints_oneCell' _ _
              have hNc : ∀ j u, N[j]? = some u → w4.cell? ((⟨X, 0, none⟩ : Addr).add j) = some u := by
                intro j u hj
                rw [add_at9, hxb.cell]
                rw [← hN, ← hxT] at hj
                rw [List.getElem?_take] at hj
                split at hj
                · exact hj
                · cases hj
              have htp := take_piece xs p T
              rw [hN] at htp
              have htpH := Lib.hid htp
              clear htp hN hxT
              go_wp2_with (at_builtin
                           refine wpList_append_lies _ rfl (.tmp 53) (.tmp 54) 22 rfl B0 5 i0 (.int .u8 0) 1 1 Try.underlying22 hi hz0 hz1 hz2 rfl (by decide) u8 p _ rfl hout4 ⟨X, 0, none⟩ T xc N rfl hNl hNc hNo h0 ?_ ?_ hS4 w4.heap.size rfl ?_
                           (have := hTH.out; have := hnH.out; unfold maxLen; omega)
                           (have := hTH.out; have := hnH.out; omega)
                           intro G5 c5 w5 own5 hg5 hor5 hG5
                           refine RowKit.Hid.out ?_)
              refine Lib.hid ?_
              rw [htpH.out] at own5
              have hne5 : ∀ b, (Value.slice (some ⟨G5, 0, none⟩) (p + T) c5).ownBlock = some b → ¬ At (some ⟨X, 0, none⟩) T b := fun b hb ha => by
                injection hb with hb
                have h1 := hxB b ha
                have hb : G5 = b := hb
                rcases hor5 with h | h
                · have := (hoL G5 h).2; omega
                · omega
              have hBy5 : Bys w5 (some ⟨X, 0, none⟩) T xc := hBy4.grown hg5 (fun b hb e => by have h1 := (hxB b hb).1; have h2 := (hoL b e.symm).2; omega)
              have hR5 := hR4.keep (fun b hb => hg5.block b (hR4.lt b hb) (fun e => by have := (hoL b e.symm).1; have := hFB b hb; omega)) hg5.size
              have hB5 := hB4.grown hg5 hB4.size (fun b hb => Nat.le_trans hwB (hoL b hb).1)
              have hS5 := Nat.le_trans hS4 hg5.size
              clear hg5 hor5 hG5 hNl hNo hNc hxb hBy4
              clear hM4 hxo hxF hout4 hR4 hB4 hS4
              go_wp2_with fail
              go_loopw [58] (fun i wr => ∃ j : Nat, j ≤ T ∧ i = .int .i64 j ∧ Bys wr (some ⟨X, 0, none⟩) T xc ∧ Moved (At (some ⟨X, 0, none⟩) T) w5 wr) (fun i _ => T - (intOf i).toNat)
              case atStart => exact ⟨0, Nat.zero_le _, rfl, hBy5, Moved.rfl'⟩
              case round =>
                clear hBy5
                obtain ⟨j, hj, rfl, hBy, hMv⟩ := hrel
                by_cases hlt : j < T
                · have hji : (j : Int) < (T : Int) := by omega
                  obtain ⟨o, v, hoe, hc, hf, hinc⟩ := hBy.inc j hlt
                  injection hoe with hoe
                  injection hoe with hoe _ _
                  subst hoe
                  have hltj := Lib.hid hlt
                  have hTI : (T : Int) ≤ 1000 := by have := hT1.out; omega
                  clear hlt hj
                  go_wp2
                  exact ⟨⟨j + 1, by have := hltj.out; omega, by congr 1, (hinc _).1, hMv.then (hinc _).2⟩, by simp only [intOf]; have := hltj.out; omega⟩
                · have hji : ¬ (j : Int) < (T : Int) := by omega
                  have own6 := own_moved own5 hMv hne5
                  have hR6 := hR5.keep (fun b hb => hMv.2 b (hR5.lt b hb) (fun ha => hneF b hb ha)) hMv.size
                  have hB6 := hB5.trans (hMv.below (fun b hb => Nat.le_trans hwB (hlo5 b hb)) hB5.size)
                  have hS6 := Nat.le_trans hS5 hMv.size
                  have hkm : (k : Int) ≤ 200 := by have := hkH.out; have := hmH.out; omega
                  clear hlt hj hMv hBy own5 hR5 hB5 hS5
                  go_wp2
                  exact ⟨⟨k + 1, p + T, by have := hkH.out; omega, by have := hTH.out; omega, by congr 1, own6, hR6, hB6, hS6⟩, by simp only [intOf]; have := hkH.out; omega⟩
          ·
            have hL2 := hL
            clear hL
            obtain ⟨T, hTT⟩ : ∃ T, L = T := ⟨_, rfl⟩
            rw [hTT] at hcl hmin hL2
            clear hTT L
            have hTH := Lib.hid (show p + T ≤ n by omega)
            go_wp2_with fail
            refine hcl.mono ?_
            rintro r w3 ⟨rfl, q, hq⟩
            have d3 : Below wr.heap.size wr w3 := by rw [hq]; exact below_drewN (Below.refl _ _) q
            have hR3 := hR.keep (fun b hb => d3.block b (hR.lt b hb)) d3.size
            have hout3 := own_stay9 hout d3
            have hB3 := hB.trans (d3.mono hB.size)
            have hS3 := Nat.le_trans hS d3.size
            have hoL : ∀ b, u8.ownBlock = some b → B0 ≤ b ∧ b < w3.heap.size := fun b hb => hout3.lt b hb
            have hkH := Lib.hid hlt
            clear hq hcl hR hout hB hS d3 hlt hk
            go_wp2_with fail
            have hcb := pBytes_any (T : Int) hR3
            rw [hlen, rd_piece n p T (by have := hTH.out; omega)] at hcb
            have hrb : rdBytes xs p 0 (T : Int) = (xs.drop p).take T := by unfold rdBytes; rw [hlen, rd_piece n p T (by have := hTH.out; omega)]
            rw [hrb] at hcb
            dsimp only at hcb
            refine hcb.mono ?_
            rintro r w4 ⟨xa, xc, rfl, hxo, hxF, hR4, hM4⟩
            have hout4 := own_moved hout3 hM4 (fun b hb hf => by have := hFB b hf; have := (hoL b hb).1; omega)
            have hB4 := hB3.trans (hM4.below hFlo hB3.size)
            have hS4 := Nat.le_trans hS3 hM4.size
            have hxB : ∀ b, At xa T b → w3.heap.size ≤ b ∧ b < w4.heap.size := fun b ⟨_, x, hx, hb⟩ => by rw [← hb]; exact hxo.lt x.block (by rw [hx]; rfl)
            have hBy4 := Bys.of_owns hxo
            have hneF : ∀ b, F b → ¬ At xa T b := fun b hf ha => by have := hFB b hf; have := (hxB b ha).1; omega
            have hlo5 : ∀ b, At xa T b → B0 ≤ b := fun b ha => Nat.le_trans hS3 (hxB b ha).1
            have hT1 := Lib.hid (show T ≤ 1000 by have := hTH.out; have := hnH.out; omega)
            clear hcb hrb hR3 hout3 hB3 hS3
            rcases Nat.eq_zero_or_pos T with h0 | h0
            · have hxi : Ints .u8 w4 xa T xc ((xs.drop p).take T) := by
                obtain ⟨a', c', hv, hi⟩ := Ints.of_owns hxo
                injection hv with e1 _ e2
                subst e1; subst e2
                exact hi
              have hT0 := Lib.hid h0
              clear h0
              go_wp2_with (at_builtin
                           refine wpList_append_ints rfl (.tmp 53) (.tmp 54) 22 rfl B0 5 i0 (.int .u8 0) 1 Try.underlying22 hi hz0 hz1 hz2 rfl rfl hout4 rfl hxi ?_ ?_ hS4 ?_
                           (have := hTH.out; have := hnH.out; unfold maxLen; omega)
                           (have := hTH.out; have := hnH.out; omega)
                           intro v5 w5 own5 hg5
                           refine RowKit.Hid.out ?_)
              refine Lib.hid ?_
              rw [take_piece] at own5
              have hsl : ∃ a5 c5, v5 = .slice a5 (p + T) c5 := own_slice own5
              obtain ⟨a5, c5, hv5⟩ := hsl
              rw [hv5] at own5 ⊢
              have hne5 : ∀ b, (Value.slice a5 (p + T) c5).ownBlock = some b → ¬ At xa T b := fun b _ ha => by have := ha.1; have := hT0.out; omega
              have hBy5 : Bys w5 xa T xc := ⟨hBy4.1, .inl hT0.out⟩
              have hR5 := hR4.keep (fun b hb => hg5.block b (hR4.lt b hb) (fun e => by have := (hoL b e.symm).1; have := hFB b hb; omega)) hg5.size
              have hB5 := hB4.grown hg5 hB4.size (fun b hb => Nat.le_trans hwB (hoL b hb).1)
              have hS5 := Nat.le_trans hS4 hg5.size
              clear hg5 hxi hv5 hBy4
              clear hM4 hxo hxF hout4 hR4 hB4 hS4
              go_wp2_with fail
              go_loopw [58] (fun i wr => ∃ j : Nat, j ≤ T ∧ i = .int .i64 j ∧ Bys wr xa T xc ∧ Moved (At xa T) w5 wr) (fun i _ => T - (intOf i).toNat)
              case atStart => exact ⟨0, Nat.zero_le _, rfl, hBy5, Moved.rfl'⟩
              case round =>
                clear hBy5
                obtain ⟨j, hj, rfl, hBy, hMv⟩ := hrel
                by_cases hlt : j < T
                · have hji : (j : Int) < (T : Int) := by omega
                  obtain ⟨o, v, rfl, hc, hf, hinc⟩ := hBy.inc j hlt
                  have hltj := Lib.hid hlt
                  have hTI : (T : Int) ≤ 1000 := by have := hT1.out; omega
                  clear hlt hj
                  go_wp2
                  exact ⟨⟨j + 1, by have := hltj.out; omega, by congr 1, (hinc _).1, hMv.then (hinc _).2⟩, by simp only [intOf]; have := hltj.out; omega⟩
                · have hji : ¬ (j : Int) < (T : Int) := by omega
                  have own6 := own_moved own5 hMv hne5
                  have hR6 := hR5.keep (fun b hb => hMv.2 b (hR5.lt b hb) (fun ha => hneF b hb ha)) hMv.size
                  have hB6 := hB5.trans (hMv.below (fun b hb => Nat.le_trans hwB (hlo5 b hb)) hB5.size)
                  have hS6 := Nat.le_trans hS5 hMv.size
                  have hkm : (k : Int) ≤ 200 := by have := hkH.out; have := hmH.out; omega
                  clear hlt hj hMv hBy own5 hR5 hB5 hS5
                  go_wp2
                  exact ⟨⟨k + 1, p + T, by have := hkH.out; omega, by have := hTH.out; omega, by congr 1, own6, hR6, hB6, hS6⟩, by simp only [intOf]; have := hkH.out; omega⟩
            · obtain ⟨X, xcur, hxa, hxb, hxT⟩ : ∃ X xcur, xa = some ⟨X, 0, none⟩ ∧ Blk w4 X 5 xcur ∧ xcur.take T = ((xs.drop p).take T).map (Value.int .u8) := by
                rcases hxo.2 with ⟨_, hn0⟩ | ⟨G, cap, cur, hv, _, hg, hnc, _, hsz, htk⟩
                · omega
                · injection hv with h1 _ h3
                  exact ⟨G, cur.toList, h1, by simpa [Blk] using hg, by rw [Nat.mul_one] at htk; exact htk⟩
              subst hxa
              have hXs := hxB X ⟨h0, _, rfl, rfl⟩
              obtain ⟨N, hN⟩ : ∃ N, ((xs.drop p).take T).map (Value.int .u8) = N := ⟨_, rfl⟩
              have hNl : N.length = T * 1 := by rw [← hN, List.length_map, List.length_take, List.length_drop, hlen]; have := hTH.out; omega
              have hNo : ∀ u ∈ N, u.oneCell' = true := by rw [← hN]; exact ints_oneCell' _ _
              have hNc : ∀ j u, N[j]? = some u → w4.cell? ((⟨X, 0, none⟩ : Addr).add j) = some u := by
                intro j u hj
                rw [add_at9, hxb.cell]
                rw [← hN, ← hxT] at hj
                rw [List.getElem?_take] at hj
                split at hj
                · exact hj
                · cases hj
              have htp := take_piece xs p T
              rw [hN] at htp
              have htpH := Lib.hid htp
              clear htp hN hxT
              go_wp2_with (at_builtin
                           refine wpList_append_lies _ rfl (.tmp 53) (.tmp 54) 22 rfl B0 5 i0 (.int .u8 0) 1 1 Try.underlying22 hi hz0 hz1 hz2 rfl (by decide) u8 p _ rfl hout4 ⟨X, 0, none⟩ T xc N rfl hNl hNc hNo h0 ?_ ?_ hS4 w4.heap.size rfl ?_
                           (have := hTH.out; have := hnH.out; unfold maxLen; omega)
                           (have := hTH.out; have := hnH.out; omega)
                           intro G5 c5 w5 own5 hg5 hor5 hG5
                           refine RowKit.Hid.out ?_)
              refine Lib.hid ?_
              rw [htpH.out] at own5
              have hne5 : ∀ b, (Value.slice (some ⟨G5, 0, none⟩) (p + T) c5).ownBlock = some b → ¬ At (some ⟨X, 0, none⟩) T b := fun b hb ha => by
                injection hb with hb
                have h1 := hxB b ha
                have hb : G5 = b := hb
                rcases hor5 with h | h
                · have := (hoL G5 h).2; omega
                · omega
              have hBy5 : Bys w5 (some ⟨X, 0, none⟩) T xc := hBy4.grown hg5 (fun b hb e => by have h1 := (hxB b hb).1; have h2 := (hoL b e.symm).2; omega)
              have hR5 := hR4.keep (fun b hb => hg5.block b (hR4.lt b hb) (fun e => by have := (hoL b e.symm).1; have := hFB b hb; omega)) hg5.size
              have hB5 := hB4.grown hg5 hB4.size (fun b hb => Nat.le_trans hwB (hoL b hb).1)
              have hS5 := Nat.le_trans hS4 hg5.size
              clear hg5 hor5 hG5 hNl hNo hNc hxb hBy4
              clear hM4 hxo hxF hout4 hR4 hB4 hS4
              go_wp2_with fail
              go_loopw [58] (fun i wr => ∃ j : Nat, j ≤ T ∧ i = .int .i64 j ∧ Bys wr (some ⟨X, 0, none⟩) T xc ∧ Moved (At (some ⟨X, 0, none⟩) T) w5 wr) (fun i _ => T - (intOf i).toNat)
              case atStart => exact ⟨0, Nat.zero_le _, rfl, hBy5, Moved.rfl'⟩
              case round =>
                clear hBy5
                obtain ⟨j, hj, rfl, hBy, hMv⟩ := hrel
                by_cases hlt : j < T
                · have hji : (j : Int) < (T : Int) := by omega
                  obtain ⟨o, v, hoe, hc, hf, hinc⟩ := hBy.inc j hlt
                  injection hoe with hoe
                  injection hoe with hoe _ _
                  subst hoe
                  have hltj := Lib.hid hlt
                  have hTI : (T : Int) ≤ 1000 := by have := hT1.out; omega
                  clear hlt hj
                  go_wp2
                  exact ⟨⟨j + 1, by have := hltj.out; omega, by congr 1, (hinc _).1, hMv.then (hinc _).2⟩, by simp only [intOf]; have := hltj.out; omega⟩
                · have hji : ¬ (j : Int) < (T : Int) := by omega
                  have own6 := own_moved own5 hMv hne5
                  have hR6 := hR5.keep (fun b hb => hMv.2 b (hR5.lt b hb) (fun ha => hneF b hb ha)) hMv.size
                  have hB6 := hB5.trans (hMv.below (fun b hb => Nat.le_trans hwB (hlo5 b hb)) hB5.size)
                  have hS6 := Nat.le_trans hS5 hMv.size
                  have hkm : (k : Int) ≤ 200 := by have := hkH.out; have := hmH.out; omega
                  clear hlt hj hMv hBy own5 hR5 hB5 hS5
                  go_wp2
                  exact ⟨⟨k + 1, p + T, by have := hkH.out; omega, by have := hTH.out; omega, by congr 1, own6, hR6, hB6, hS6⟩, by simp only [intOf]; have := hkH.out; omega⟩
        · obtain rfl : k = m := by omega
          have hki : ¬ (k : Int) < (k : Int) := by omega
          have hlen := hI.len
          obtain ⟨T, hT⟩ : ∃ T : Nat, n - p = T := ⟨_, rfl⟩
          have hTH := Lib.hid (show p + T = n by omega)
          have hcl := pLeft_any hR
          rw [hlen, show ((n : Int) - p) = (T : Int) by omega] at hcl
          clear hT hlt hk
          go_wp2_with fail
          refine hcl.mono ?_
          rintro r w3 ⟨rfl, q, hq⟩
          have d3 : Below wr.heap.size wr w3 := by rw [hq]; exact below_drewN (Below.refl _ _) q
          have hR3 := hR.keep (fun b hb => d3.block b (hR.lt b hb)) d3.size
          have hout3 := own_stay9 hout d3
          have hB3 := hB.trans (d3.mono hB.size)
          have hS3 := Nat.le_trans hS d3.size
          have hoL : ∀ b, u8.ownBlock = some b → B0 ≤ b ∧ b < w3.heap.size := fun b hb => hout3.lt b hb
          clear hq hcl hR hout hB hS d3
          go_wp2_with fail
          have hcb := pBytes_any (T : Int) hR3
          rw [hlen, rd_piece n p T (by have := hTH.out; omega)] at hcb
          have hrb : rdBytes xs p 0 (T : Int) = (xs.drop p).take T := by unfold rdBytes; rw [hlen, rd_piece n p T (by have := hTH.out; omega)]
          rw [hrb] at hcb
          dsimp only at hcb
          refine hcb.mono ?_
          rintro r w4 ⟨xa, xc, rfl, hxo, hxF, hR4, hM4⟩
          have hout4 := own_moved hout3 hM4 (fun b hb hf => by have := hFB b hf; have := (hoL b hb).1; omega)
          have hB4 := hB3.trans (hM4.below hFlo hB3.size)
          have hS4 := Nat.le_trans hS3 hM4.size
          have hxi : Ints .u8 w4 xa T xc ((xs.drop p).take T) := by
            obtain ⟨a', c', hv, hi⟩ := Ints.of_owns hxo
            injection hv with e1 _ e2
            subst e1; subst e2
            exact hi
          clear hcb hrb hR3 hout3 hB3 hS3 hM4 hxF hxo
          go_wp2_with (at_builtin
                       refine wpList_append_ints rfl (.tmp 73) (.tmp 74) 22 rfl B0 5 i0 (.int .u8 0) 1 Try.underlying22 hi hz0 hz1 hz2 rfl rfl hout4 rfl hxi ?_ ?_ hS4 ?_
                       (have := hTH.out; have := hnH.out; unfold maxLen; omega)
                       (have := hTH.out; have := hnH.out; omega)
                       intro v5 w5 own5 hg5
                       refine RowKit.Hid.out ?_)
          refine Lib.hid ?_
          rw [take_piece, hTH.out, List.take_of_length_le (by rw [hlen]; exact Nat.le_refl _)] at own5
          have hsl : ∃ a5 c5, v5 = .slice a5 n c5 := own_slice own5
          obtain ⟨a5, c5, hv5⟩ := hsl
          rw [hv5] at own5 ⊢
          have hR5 := hR4.keep (fun b hb => hg5.block b (hR4.lt b hb) (fun e => by have := (hoL b e.symm).1; have := hFB b hb; omega)) hg5.size
          have hB5 := hB4.grown hg5 hB4.size (fun b hb => Nat.le_trans hwB (hoL b hb).1)
          have hI5 : Ints .u8 w5 a5 n c5 xs := by
            obtain ⟨a', c', hv, hi⟩ := Ints.of_owns own5
            injection hv with e1 _ e2
            subst e1; subst e2
            exact hi
          have hb5 : Ints .u8 w5 ba n bc xs := hI.keep hB5
          have f1 := hI5.string 22 9 5 Try.underlying22 Try.underlying5 Try.underlying9
          have f2 := hb5.string 22 9 5 Try.underlying22 Try.underlying5 Try.underlying9
          rw [hTH.out] at hR5
          clear hI5 hb5 hg5 hv5 own5 hR4 hB4 hS4 hout4 hxi
          go_wp2_with fail
          have hcd := pDone_any hR5
          rw [hlen, show doneOf n (n : Int) 0 = 0 by unfold doneOf; rw [if_pos rfl, if_neg (by omega)]] at hcd
          refine hcd.mono ?_
          rintro r w6 ⟨rfl, d6⟩
          have hR6 := hR5.keep (fun b hb => d6.block b (hR5.lt b hb)) d6.size
          have hB6 := hB5.trans (d6.mono hB5.size)
          clear hR5 hB5 d6 hcd f1 f2
          go_wp2_with fail
          have hcl := pLeft_any hR6
          rw [hlen, show ((n : Int) - n) = 0 by omega] at hcl
          refine hcl.mono ?_
          rintro r w7 ⟨rfl, q7, hq7⟩
          have d7 : Below w6.heap.size w6 w7 := by rw [hq7]; exact below_drewN (Below.refl _ _) q7
          have hR7 := hR6.keep (fun b hb => d7.block b (hR6.lt b hb)) d7.size
          have hB7 := hB6.trans (d7.mono hB6.size)
          clear hR6 hB6 d7 hq7 hcl
          go_wp2_with fail
          refine (pAt_any hR7).mono ?_
          rintro r w8 ⟨rfl, rfl⟩
          go_wp2_with fail
          refine (alive9_any readerProg w7 trivial).mono ?_
          rintro r w9 ⟨rfl, d9⟩
          go_wp2
          go_ret
          exact ⟨rfl, hB7.trans (d9.mono hB7.size)⟩
end Go.Proofs.Ytpobplkijfienaa

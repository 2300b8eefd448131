/-
  Texts of stages that were proved on their own, joined: MacRefDer, MacDer. Each begins with its own words.
-/
import Derived.Test.YtagacpjeooaapaaGreatDoorJSealProg9
import Derived.Test.YtagacpjeooaapaaGreatDoorBytesOf

/-
  What the document's own bytes derived come to. Conditions: bytes are numbers from 0 to 255; of the key at most 2^32, of the label at most 1000; at most 8192 bytes are asked for.
-/
namespace Go.Proofs.YtagacpjeooaapaaGreatDoor
open Go.RowKit

theorem Ints.upto {k : IntKind} {w : World} {a : Option Addr} {n cap : Nat} {xs : List Int} (h : Ints k w a n cap xs) (m : Nat) (hm : m ≤ n) : Ints k w a m cap (xs.take m) := by
  refine ⟨by rw [List.length_take, h.1]; omega, Nat.le_trans hm h.2.1, ?_⟩
  by_cases h0 : m = 0
  · exact .inl h0
  · obtain ⟨b, off, ha, hc⟩ := h.at (by omega)
    refine .inr ⟨b, off, ha, fun i hi => ?_⟩
    rw [hc i (by omega)]
    congr 2
    rw [List.getD_eq_getElem?_getD, List.getD_eq_getElem?_getD, List.getElem?_take_of_lt hi]
theorem own_below {w w' : World} {b : Nat} {e : TypeId} {size : Nat} {v : Value} {n : Nat} {xs : List Value} (h : w.ownsRow b e size v n xs) (hb : Below w.heap.size w w') : w'.ownsRow b e size v n xs :=
  h.kept (grown_of_below hb none) (by cases hv : v.ownBlock <;> simp)
theorem one_cell (w : World) (v : Value) (t : TypeId) : (w.alloc (.cells #[v] t)).cell? ⟨w.heap.size, 0, none⟩ = some v := World.cell?_alloc_at (w := w) #[v] t w.heap.size 0 rfl
theorem sizeU8i : ∃ i, Tryz.prog.info? 5 = some i ∧ i.zero = some (.int .u8 0) ∧ i.size = 1 ∧ i.bytes = 1 := by
  obtain ⟨i, h1, h2, h3, h4⟩ := info_parts infoU8
  exact ⟨i, h1, h2, h3, h4⟩

set_option maxRecDepth 100000 in
set_option maxHeartbeats 1600000 in
theorem refDerive_neg (a : Option Addr) (n ca : Nat) (s : ByteArray) (many : Int) (w : World) (h0 : many < 0) :
    Calls Tryz.prog 31 #[.slice a n ca, .string s, .int .i64 many] w fun e w' => e = .returned (.slice none 0 0) ∧ w = w' := by
  have h1 : many ≤ 8192 := by omega
  go_enter Tryz.func31, Tryz.ntmps31
  go_wp2_with fail
  go_loopw [7, 8] (fun v i wr => v = .slice none 0 0 ∧ i = .int .i64 0 ∧ w = wr) (fun _ _ _ => 0)
  case atStart => exact ⟨rfl, rfl, rfl⟩
  case round =>
    obtain ⟨rfl, rfl, rfl⟩ := hrel
    go_wp2
    go_ret
    exact ⟨rfl, rfl⟩

set_option maxRecDepth 100000 in
set_option maxHeartbeats 3200000 in
theorem refDerive_any (a : Option Addr) (n ca : Nat) (key : List Int) (s : ByteArray) (M : Nat) (w : World) (h1 : Ints .u8 w a n ca key) (r1 : ∀ x ∈ key, 0 ≤ x ∧ x < 256) (hn : n ≤ 4294967296) (hs : s.size ≤ 1000) (hM : M ≤ 8192) :
    Calls Tryz.prog 31 #[.slice a n ca, .string s, .int .i64 M] w fun e w' => ∃ b c, e = .returned (.slice b M c) ∧ Ints .u8 w' b M c (derived key (numsOf s) M) ∧ Below w.heap.size w w' := by
  obtain ⟨i0, hi, hz0, hz1, hz2⟩ := info_parts infoU8
  have hMI : (M : Int) ≤ 8192 := by omega
  have hM0 : (0 : Int) ≤ (M : Int) := by omega
  have H1 := Lib.hid h1; have R1 := Lib.hid r1
  have HSZ := Lib.hid hs
  clear h1 r1 hs
  go_enter Tryz.func31, Tryz.ntmps31
  go_wp2_with fail
  go_loopw [7, 8] (fun v i wr => ∃ k : Nat, k ≤ 256 ∧ i = .int .i64 k ∧ wr.ownsRow w.heap.size 5 1 v (32 * k) ((tags key (numsOf s) k).map (Value.int .u8)) ∧ 32 * k < M + 32 ∧ Below w.heap.size w wr) (fun _ i _ => 512 - (intOf i).toNat)
  case atStart => exact ⟨0, Nat.zero_le _, rfl, World.ownsRow_nil _ _ _ _, by omega, Below.refl _ _⟩
  case round =>
    obtain ⟨k, hk, rfl, hown, hkM, hb⟩ := hrel
    obtain ⟨vb, vc, hv⟩ := own_slice hown
    subst hv
    obtain ⟨N, hN⟩ : ∃ N, N = 32 * k := ⟨_, rfl⟩
    rw [← hN] at hown hkM
    rw [← hN]
    have HN := Lib.hid hN
    clear hN
    by_cases hlt : N < M
    · have hltI : (N : Int) < (M : Int) := by omega
      have k0 : (0 : Int) ≤ (k : Int) := by omega
      have k1 : (k : Int) < 256 := by have := HN.out; omega
      have hbs := hb.size
      go_wp2_with (first
        | ((with_reducible refine wpList_bytes rfl 9 24 5 (.tmp 17) rfl Tryz.underlying9 Tryz.underlying24 Tryz.underlying5 (s := s) ?_ ?_)
           rfl
           intro w1 cap SR b1)
        | (at_builtin
           refine wpList_append_sbyte rfl (.tmp 18) (.tmp 21) 24 rfl 5 i0 (.int .u8 0) Tryz.underlying24 hi hz0 hz1 hz2 rfl (SR.alloc _) rfl rfl (one_cell _ _ _) ?_ ?_
           (have := HSZ.out; omega)
           intro A c w2 I2 q2
           refine RowKit.Hid.out ?_))
      refine Lib.hid ?_
      have hyk : (k : Int) = ((k % 256 : Nat) : Int) := by omega
      rw [hyk] at I2
      have b1s := b1.size
      have b2 : Below w.heap.size w w2 := hb.trans (((b1.alloc b1.size _).mono hbs).trans ((q2 wr.heap.size (Nat.le_refl _) (by simp; omega)).mono hbs))
      have hown2 := own_below hown (((b1.alloc b1.size _)).trans (q2 wr.heap.size (Nat.le_refl _) (by simp; omega)))
      obtain ⟨LB, hLB⟩ : ∃ LB, LB = numsOf s ++ [((k % 256 : Nat) : Int)] := ⟨_, rfl⟩
      rw [← hLB] at I2
      have HLB := Lib.hid hLB
      have HLR := Lib.hid (show ∀ x ∈ LB, 0 ≤ x ∧ x < 256 by
        intro x hx
        rw [hLB] at hx
        rcases List.mem_append.1 hx with hx | hx
        · exact numsOf_range s x hx
        · simp at hx; omega)
      have K2 := H1.out.keep b2
      have hsz : s.size + 1 ≤ 1001 := by have := HSZ.out; omega
      obtain ⟨ls, hls⟩ : ∃ ls, ls = s.size + 1 := ⟨_, rfl⟩
      rw [← hls] at I2 hsz
      rw [← hls]
      clear hLB hls SR b1 q2 b1s hyk hbs
      go_wp2_with fail
      refine (refOf_any a n ca key A ls c LB w2 K2 R1.out I2 HLR.out hn (by omega)).mono ?_
      rintro e w3 ⟨rfl, b3⟩
      have hw3 : Below w.heap.size w w3 := b2.trans (b3.mono b2.size)
      have hown3 := own_below hown2 b3
      obtain ⟨T, hT⟩ : ∃ T, T = tagOf key LB := ⟨_, rfl⟩
      have hTl : T.length = 32 := by rw [hT, tagOf_length]
      rw [← hT]
      obtain ⟨X, hX⟩ : ∃ X, X = T.map (Value.int .u8) := ⟨_, rfl⟩
      have hXl : X.length = 32 := by rw [hX, List.length_map, hTl]
      rw [← hX]
      have HX := Lib.hid hX; have HXL := Lib.hid hXl; have HTL := Lib.hid hTl; have HT := Lib.hid hT
      have HI : IsRow Tryz.prog 23 X.length := by rw [hXl]; exact rowId
      have HO1 := Lib.hid (show ∀ v ∈ X, v.oneCell' = true by rw [hX]; exact ints_oneCell' _ _)
      have HOF := Lib.hid (show 0 + X.length ≤ (zb 32).length by rw [hXl]; decide)
      clear hX hXl hTl hT hown hown2 b2 b3 K2 I2
      go_wp2_with ((with_reducible refine wpList_alloc_blk rfl 23 rfl zeroId ?_)
                   refine wpList_store_part (g := w3.heap.size) (off := 0) (t := 23) (cur := zb 32) (cs := X) rfl 23 (.tmp 10) (.tmp 25) rfl ?_ ?_ (Blk.new w3 _ (zb 32)) HI ?_ HO1.out ?_
                   rfl
                   rfl
                   exact HOF.out
                   intro w4 hX' hg4
                   refine RowKit.Hid.out ?_)
      refine Lib.hid ?_
      have B4 := hX'.cast (overV_all _ _ (by rw [HXL.out]; rfl))
      have b4 : Below w3.heap.size w3 w4 := (below1 w3 _).trans (below_of_grown hg4 (Nat.le_refl _) (by rw [size1]; omega))
      have hw4 : Below w.heap.size w w4 := hw3.trans (b4.mono hw3.size)
      have hown4 := own_below hown3 b4
      have I4 : Ints .u8 w4 (some ⟨w3.heap.size, 0, none⟩) 32 32 T := Ints.of_blk B4 HTL.out (Nat.le_refl _) (fun i hi => by rw [HX.out, Nat.zero_add]; exact getElem?_mapInt _ _ _ (by rw [HTL.out]; exact hi))
      have hbs4 := hw4.size
      clear hX' hg4 b4 hown3 hw3 B4
      go_wp2_with (at_builtin
                   refine wpList_append_ints rfl (.tmp 26) (.tmp 27) 24 rfl w.heap.size 5 i0 (.int .u8 0) 1 Tryz.underlying24 hi hz0 hz1 hz2 rfl rfl hown4 rfl I4 ?_ ?_ hbs4 ?_
                   (unfold maxLen; omega)
                   omega
                   intro v5 w5 hown5 hg5
                   refine RowKit.Hid.out ?_)
      refine Lib.hid ?_
      have hw5 : Below w.heap.size w w5 := hw4.grown hg5 hbs4 (fun q hq => (hown4.lt q hq).1)
      rw [← List.map_append] at hown5
      have SN := Lib.hid (show tags key (numsOf s) (k + 1) = tags key (numsOf s) k ++ T by rw [HT.out, HLB.out]; rfl)
      rw [← SN.out] at hown5
      have hN5 := HN.out
      clear hg5 hown4 I4 hw4 hbs4
      go_wp2_with fail
      go_roundw
      case rel => exact ⟨k + 1, by omega, by go_num, by rw [show 32 * (k + 1) = N + 32 from by omega]; exact hown5, by omega, hw5⟩
      case measure => simp [intOf]; omega
    · have hge : (M : Int) ≤ (N : Int) := by omega
      obtain ⟨A, c, e1, hI⟩ := Ints.of_owns hown
      cases e1
      have hcc := hI.2.1
      have hcI : (M : Int) ≤ (vc : Int) := by omega
      have hU := hI.upto M (by omega)
      rw [derived_of_tags key (numsOf s) M k (by have := HN.out; omega)] at hU
      clear hown hI
      go_wp2_with fail
      go_ret
      exact ⟨vb, vc, rfl, hU, hb⟩
end Go.Proofs.YtagacpjeooaapaaGreatDoor

/-
  What package mac's Derive comes to. Conditions: bytes are numbers from 0 to 255; of the key at most 2^31, of the label at most 1000; the package's variables hold the constants and the starts.
-/
namespace Go.Proofs.YtagacpjeooaapaaGreatDoor
open Go.RowKit

theorem tags_next (key label : List Int) (k M D : Nat) (hD : D = min 32 (M - 32 * k)) : (tags key label (k + 1)).take M = (tags key label k).take M ++ (tagOf key (label ++ [((k % 256 : Nat) : Int)])).take D := by
  rw [tags, List.take_append, tags_length]
  congr 1
  rw [hD]
  rcases Nat.le_total 32 (M - 32 * k) with h1 | h1
  · rw [Nat.min_eq_left h1, List.take_of_length_le (by rw [tagOf_length]; omega), List.take_of_length_le (by rw [tagOf_length]; omega)]
  · rw [Nat.min_eq_right h1]

set_option maxRecDepth 100000 in
set_option maxHeartbeats 3200000 in
theorem derive_any (a : Option Addr) (n ca : Nat) (key : List Int) (s : ByteArray) (M : Nat) (w : World) (hG : Glob w) (h1 : Ints .u8 w a n ca key) (r1 : ∀ x ∈ key, 0 ≤ x ∧ x < 256) (hn : n ≤ 2147483648) (hs : s.size ≤ 1000) (hM : M ≤ 8192) :
    Calls Tryz.prog 26 #[.slice a n ca, .string s, .int .i64 M] w fun e w' => ∃ b c, e = .returned (.slice b M c) ∧ Ints .u8 w' b M c (derived key (numsOf s) M) ∧ Below w.heap.size w w' := by
  obtain ⟨i0, hi, hz0, hz1, hz2⟩ := info_parts infoU8
  have hMI : (M : Int) ≤ 8192 := by omega
  have hM0 : (0 : Int) ≤ (M : Int) := by omega
  have HSZ := Lib.hid hs
  clear hs
  go_enter Tryz.func26, Tryz.ntmps26
  go_wp2_with fail
  refine (by_any a n ca key w hG h1 r1 (by omega)).mono ?_
  rintro e w1 ⟨g1, g2, rfl, l1, l2, H1, H2, b1⟩
  have z2 := H2.lt
  go_wp2_with ((with_reducible refine wpList_alloc_blk rfl 60 rfl zeroKeyed ?_)
               refine wpList_store_part (g := w1.heap.size) (off := 0) (t := 60) (cur := [.pointer none, .pointer none]) (cs := [.pointer (some ⟨g1, 0, none⟩), .pointer (some ⟨g2, 0, none⟩)]) rfl 60 (.tmp 7) (.tmp 15) rfl ?_ ?_ (Blk.new w1 _ [.pointer none, .pointer none]) rowKeyed ?_ ?_ ?_
               rfl
               rfl
               exact Nat.le_refl 2
               exact (by intro v hv; simp at hv; rcases hv with rfl | rfl <;> rfl)
               intro w2 K2' g2'
               refine RowKit.Hid.out ?_)
  refine Lib.hid ?_
  have K2 := K2'.cast (overV_all _ _ rfl)
  have b2 : Below w1.heap.size w1 w2 := (below1 w1 _).trans (below_of_grown g2' (Nat.le_refl _) (by rw [size1]; omega))
  have hw2 : Below w.heap.size w w2 := b1.trans (b2.mono b1.size)
  have H12 := H1.keep b2 H1.lt
  have H22 := H2.keep b2 H2.lt
  have c0 := K2.cell 0
  have c1 := K2.cell 1
  simp only [List.getElem?_cons_zero, List.getElem?_cons_succ] at c0 c1
  have hgk : w1.heap.size < w2.heap.size := K2.lt
  clear K2' g2' b2 H1 H2 b1
  go_wp2_with (first
    | ((with_reducible refine wpList_bytes rfl 9 24 5 (.tmp 18) rfl Tryz.underlying9 Tryz.underlying24 Tryz.underlying5 (s := s) ?_ ?_)
       rfl
       intro w3 cap SR b3))
  have hw3 : Below w.heap.size w w3 := hw2.trans (b3.mono hw2.size)
  refine (write_any g1 (pad key 54) _ s.size cap (numsOf s) w3 (H12.keep b3 H12.lt) (hG.keep hw3 (Nat.le_refl _)) SR.ints (numsOf_range s) (fun x hx _ => by injection hx with hx; subst hx; simp; omega) (by rw [pad_length]; have := HSZ.out; omega)).mono ?_
  rintro e w4 ⟨rfl, H14, g4⟩
  have H24 := (H22.keep b3 H22.lt).grown g4 (by omega)
  have K4 := (K2.keep b3 K2.lt).grown g4 (by intro e; injection e with e; omega)
  have hw4 : Below w.heap.size w w4 := hw3.trans (below_of_grown g4 l1 (by have := b3.size; omega))
  have hgk4 : w1.heap.size < w4.heap.size := K4.lt
  clear K2 H12 H22 c0 c1 SR b3 g4 hw3 hw2 hgk
  obtain ⟨gk, hgk⟩ : ∃ gk, gk = w1.heap.size := ⟨_, rfl⟩
  rw [← hgk] at K4 hgk4 z2
  rw [← hgk]
  clear hgk
  go_wp2_with (at_make
               refine wpList_make_two rfl (.const (.int .i64 0)) (.tmp 21) 24 rfl w4.heap.size 5 i0 (.int .u8 0) Tryz.underlying24 hi hz0 hz1 rfl rfl rfl (n := 0) (C := M) ?_ ?_ ?_ ?_ ?_ (Nat.le_refl _) ?_
               omega
               omega
               omega
               (rw [hz2]; omega)
               (unfold maxLen; omega)
               intro w5 hown5 hblk5 hgr5
               refine RowKit.Hid.out ?_)
  refine Lib.hid ?_
  have b5 : Below w4.heap.size w4 w5 := (Below.refl _ _).grown hgr5 (Nat.le_refl _) (by simp)
  have hw5 : Below w.heap.size w w5 := hw4.trans (b5.mono hw4.size)
  obtain ⟨Bz, hBz⟩ : ∃ Bz, Bz = w4.heap.size := ⟨_, rfl⟩
  rw [← hBz] at hown5 b5
  have hB5 : Bz ≤ w5.heap.size := by have := b5.size; omega
  have hBw : w.heap.size ≤ Bz := by rw [hBz]; exact hw4.size
  have h1B : g1 < Bz := by rw [hBz]; exact H14.lt
  have h2B : g2 < Bz := by rw [hBz]; exact H24.lt
  have hkB : gk < Bz := by rw [hBz]; exact hgk4
  have H15 := H14.keep b5 h1B
  have H25 := H24.keep b5 h2B
  have K5 := K4.keep b5 hkB
  have G5 := hG.keep hw5 (Nat.le_refl _)
  have GB : Glob w5 → ∀ w', Below Bz w5 w' → Glob w' := fun g w' q => hG.keep (hw5.trans (q.mono hBw)) (Nat.le_refl _)
  have GG := Lib.hid (GB G5)
  have HH1 := Lib.hid (fun w' (q : Below Bz w5 w') => H15.keep q h1B)
  have HH2 := Lib.hid (fun w' (q : Below Bz w5 w') => H25.keep q h2B)
  have KK := Lib.hid (fun w' (q : Below Bz w5 w') => K5.keep q hkB)
  rw [← hBz]
  clear H14 H24 K4 b5 hw4 hgk4 hblk5 hgr5 H15 H25 K5 G5 GB h1 l1 l2 z2 hG hBz
  go_wp2_with fail
  go_loopw [8, 9] (fun v i wr => ∃ k : Nat, k ≤ 257 ∧ i = .int .i64 k ∧ wr.ownsRow Bz 5 1 v (min (32 * k) M) (((tags key (numsOf s) k).take M).map (Value.int .u8)) ∧ 32 * k < M + 32 ∧ Below Bz w5 wr) (fun _ i _ => 512 - (intOf i).toNat)
  case atStart => exact ⟨0, Nat.zero_le _, rfl, by simpa [tags] using hown5, by omega, Below.refl _ _⟩
  case round =>
    obtain ⟨k, hk, rfl, hown, hkM, hb⟩ := hrel
    clear hown5
    obtain ⟨vb, vc, hv⟩ := own_slice hown
    subst hv
    obtain ⟨N, hN⟩ : ∃ N, N = min (32 * k) M := ⟨_, rfl⟩
    rw [← hN] at hown
    rw [← hN]
    have HN := Lib.hid hN
    clear hN
    by_cases hlt : N < M
    · have hltI : (N : Int) < (M : Int) := by omega
      have HN32 := Lib.hid (show N = 32 * k by have := HN.out; omega)
      have k0 : (0 : Int) ≤ (k : Int) := by omega
      have k1 : (k : Int) < 256 := by have := HN32.out; omega
      have hbs := hb.size
      have kk := KK.out wr hb
      have yk : ((k : Int)) = ((k % 256 : Nat) : Int) := by omega
      have YK := Lib.hid yk
      clear yk
      have wt : Below Bz w5 ((wr.alloc (.cells #[.int .u8 k] 5)).alloc (.cells #[.slice (some ⟨wr.heap.size, 0, none⟩) 1 1] 24)) := (hb.alloc (by omega) _).alloc (by simp; omega) _
      have PT : Parts ((wr.alloc (.cells #[.int .u8 k] 5)).alloc (.cells #[.slice (some ⟨wr.heap.size, 0, none⟩) 1 1] 24)) (some ⟨wr.heap.size + 1, 0, none⟩) 1 1 [[(k : Int)]] := by
        have := one_part _ (some ⟨wr.heap.size, 0, none⟩) 1 1 [(k : Int)] (one_at wr .u8 5 (k : Int)) 24
        rwa [size1] at this
      go_wp2_with (with_reducible refine wpList_load_blk rfl 60 (.tmp 7) rfl rfl kk rowKeyed rfl ?_)
      refine (tag_any g1 g2 (pad key 54 ++ numsOf s) (pad key 92) _ 1 1 [[(k : Int)]] _ (GG.out _ wt) (HH1.out _ wt) (HH2.out _ wt) PT (by intro p hp x hx; simp at hp; subst hp; simp at hx; omega) (by simp; rw [pad_length, numsOf_length]; have := HSZ.out; omega) (by decide) (by rw [pad_length]; omega)).mono ?_
      rintro e w6 ⟨rfl, b6⟩
      obtain ⟨T, hT⟩ : ∃ T, T = tagOf key (numsOf s ++ [((k % 256 : Nat) : Int)]) := ⟨_, rfl⟩
      have hTe : shaSum (pad key 92 ++ shaSum (pad key 54 ++ numsOf s ++ [[(k : Int)]].flatten)) = T := by
        rw [hT, ← YK.out]
        simp only [List.flatten_cons, List.flatten_nil, List.append_nil, List.append_assoc]
        rfl
      rw [hTe]
      have hTl : T.length = 32 := by rw [hT, tagOf_length]
      obtain ⟨X, hX⟩ : ∃ X, X = T.map (Value.int .u8) := ⟨_, rfl⟩
      have hXl : X.length = 32 := by rw [hX, List.length_map, hTl]
      rw [← hX]
      have HX := Lib.hid hX; have HXL := Lib.hid hXl; have HTL := Lib.hid hTl
      have HI : IsRow Tryz.prog 23 X.length := by rw [hXl]; exact rowId
      have HO1 := Lib.hid (show ∀ v ∈ X, v.oneCell' = true by rw [hX]; exact ints_oneCell' _ _)
      have HOF := Lib.hid (show 0 + X.length ≤ (zb 32).length by rw [hXl]; decide)
      have q6 : Below Bz w5 w6 := wt.trans (b6.mono (by simp; omega))
      have SN := Lib.hid (fun D (hD : D = min 32 (M - 32 * k)) => (show (tags key (numsOf s) (k + 1)).take M = (tags key (numsOf s) k).take M ++ T.take D by rw [hT]; exact tags_next key (numsOf s) k M D hD))
      have hown6 := own_below (own_below hown (below2 wr _ _)) b6
      clear hX hXl hTl hT hTe PT wt b6 kk hown YK
      go_wp2_with ((with_reducible refine wpList_alloc_blk rfl 23 rfl zeroId ?_)
                   refine wpList_store_part (g := w6.heap.size) (off := 0) (t := 23) (cur := zb 32) (cs := X) rfl 23 (.tmp 10) (.tmp 34) rfl ?_ ?_ (Blk.new w6 _ (zb 32)) HI ?_ HO1.out ?_
                   rfl
                   rfl
                   exact HOF.out
                   intro w7 hX' hg7
                   refine RowKit.Hid.out ?_)
      refine Lib.hid ?_
      have B7 := hX'.cast (overV_all _ _ (by rw [HXL.out]; rfl))
      have b7 : Below w6.heap.size w6 w7 := (below1 w6 _).trans (below_of_grown hg7 (Nat.le_refl _) (by rw [size1]; omega))
      have hs6 : Bz ≤ w6.heap.size := Nat.le_trans hB5 q6.size
      have q7 : Below Bz w5 w7 := q6.trans (b7.mono hs6)
      have hown7 := own_below hown6 b7
      have hbs7 : Bz ≤ w7.heap.size := Nat.le_trans hs6 b7.size
      have I7 : Ints .u8 w7 (some ⟨w6.heap.size, 0, none⟩) 32 32 T := Ints.of_blk B7 HTL.out (Nat.le_refl _) (fun i hi => by rw [HX.out, Nat.zero_add]; exact getElem?_mapInt _ _ _ (by rw [HTL.out]; exact hi))
      clear hX' hg7 b7 B7 q6 hown6 hs6 hbs HO1 HOF
      obtain ⟨R, hR⟩ : ∃ R, R = M - N := ⟨_, rfl⟩
      have hsub : (M : Int) - (N : Int) = (R : Int) := by omega
      have R0 : (0 : Int) ≤ (R : Int) := by omega
      have R1 : (R : Int) ≤ 8192 := by omega
      have HR := Lib.hid hR
      have hNM : N ≤ 8192 := by omega
      clear hR
      by_cases hd : R < 32
      · have hdI : (R : Int) < 32 := by omega
        have hd32 : (R : Int) ≤ 32 := by omega
        have hdn : R ≤ 32 := by omega
        go_wp2_with (at_builtin
                     refine wpList_append_ints rfl (.tmp 35) (.tmp 41) 24 rfl Bz 5 i0 (.int .u8 0) 1 Tryz.underlying24 hi hz0 hz1 hz2 rfl rfl hown7 rfl (I7.upto R (by omega)) ?_ ?_ hbs7 ?_
                     (unfold maxLen; omega)
                     omega
                     intro v8 w8 hown8 hg8
                     refine RowKit.Hid.out ?_)
        refine Lib.hid ?_
        have q8 : Below Bz w5 w8 := q7.grown hg8 hbs7 (fun q hq => (hown7.lt q hq).1)
        have hown9 : w8.ownsRow Bz 5 1 v8 (min (32 * (k + 1)) M) (((tags key (numsOf s) (k + 1)).take M).map (Value.int .u8)) := by
          rw [SN.out R (by have := HN32.out; have := HR.out; omega), List.map_append, show min (32 * (k + 1)) M = N + R from by have := HN32.out; have := HR.out; omega]
          exact hown8
        have HN' := HN32.out
        have HR' := HR.out
        clear hsub
        clear hown8 hown7 hg8 I7 q7 hbs7
        go_wp2_with fail
        go_roundw
        case rel => exact ⟨k + 1, by omega, by go_num, hown9, by omega, q8⟩
        case measure => simp [intOf]; omega
      · have hdI : (32 : Int) ≤ (R : Int) := by omega
        go_wp2_with (at_builtin
                     refine wpList_append_ints rfl (.tmp 35) (.tmp 41) 24 rfl Bz 5 i0 (.int .u8 0) 1 Tryz.underlying24 hi hz0 hz1 hz2 rfl rfl hown7 rfl (I7.upto 32 (by omega)) ?_ ?_ hbs7 ?_
                     (unfold maxLen; omega)
                     omega
                     intro v8 w8 hown8 hg8
                     refine RowKit.Hid.out ?_)
        refine Lib.hid ?_
        have q8 : Below Bz w5 w8 := q7.grown hg8 hbs7 (fun q hq => (hown7.lt q hq).1)
        have hown9 : w8.ownsRow Bz 5 1 v8 (min (32 * (k + 1)) M) (((tags key (numsOf s) (k + 1)).take M).map (Value.int .u8)) := by
          rw [SN.out 32 (by have := HN32.out; have := HR.out; omega), List.map_append, show min (32 * (k + 1)) M = N + 32 from by have := HN32.out; have := HR.out; omega]
          exact hown8
        have HN' := HN32.out
        have HR' := HR.out
        clear hsub
        clear hown8 hown7 hg8 I7 q7 hbs7
        go_wp2_with fail
        go_roundw
        case rel => exact ⟨k + 1, by omega, by go_num, hown9, by omega, q8⟩
        case measure => simp [intOf]; omega
    · have hNM : N = M := by have := HN.out; omega
      have hnl : ¬ ((N : Int) < (M : Int)) := by omega
      obtain ⟨A, c, e1, hI⟩ := Ints.of_owns hown
      cases e1
      rw [derived_of_tags key (numsOf s) M k (by have := HN.out; omega)] at hI
      have HNM := Lib.hid hNM
      have HI := Lib.hid hI
      clear hown hI hNM hkM hlt
      go_wp2_with fail
      go_ret
      rw [HNM.out] at HI
      exact ⟨vb, vc, by rw [HNM.out]; rfl, HI.out, hw5.trans (hb.mono hBw)⟩

set_option maxRecDepth 100000 in
set_option maxHeartbeats 3200000 in
theorem derive_big (a : Option Addr) (n ca : Nat) (key : List Int) (s : ByteArray) (many : Int) (w : World) (hG : Glob w) (h1 : Ints .u8 w a n ca key) (r1 : ∀ x ∈ key, 0 ≤ x ∧ x < 256) (hn : n ≤ 2147483648) (hs : s.size ≤ 1000) (hM : 8192 < many) :
    Calls Tryz.prog 26 #[.slice a n ca, .string s, .int .i64 many] w fun e w' => ∃ b c, e = .returned (.slice b 8192 c) ∧ Ints .u8 w' b 8192 c (derived key (numsOf s) 8192) ∧ Below w.heap.size w w' := by
  obtain ⟨i0, hi, hz0, hz1, hz2⟩ := info_parts infoU8
  have hM0 : (0 : Int) ≤ many := by omega
  have HSZ := Lib.hid hs
  clear hs
  go_enter Tryz.func26, Tryz.ntmps26
  go_wp2_with fail
  refine (by_any a n ca key w hG h1 r1 (by omega)).mono ?_
  rintro e w1 ⟨g1, g2, rfl, l1, l2, H1, H2, b1⟩
  have z2 := H2.lt
  go_wp2_with ((with_reducible refine wpList_alloc_blk rfl 60 rfl zeroKeyed ?_)
               refine wpList_store_part (g := w1.heap.size) (off := 0) (t := 60) (cur := [.pointer none, .pointer none]) (cs := [.pointer (some ⟨g1, 0, none⟩), .pointer (some ⟨g2, 0, none⟩)]) rfl 60 (.tmp 7) (.tmp 15) rfl ?_ ?_ (Blk.new w1 _ [.pointer none, .pointer none]) rowKeyed ?_ ?_ ?_
               rfl
               rfl
               exact Nat.le_refl 2
               exact (by intro v hv; simp at hv; rcases hv with rfl | rfl <;> rfl)
               intro w2 K2' g2'
               refine RowKit.Hid.out ?_)
  refine Lib.hid ?_
  have K2 := K2'.cast (overV_all _ _ rfl)
  have b2 : Below w1.heap.size w1 w2 := (below1 w1 _).trans (below_of_grown g2' (Nat.le_refl _) (by rw [size1]; omega))
  have hw2 : Below w.heap.size w w2 := b1.trans (b2.mono b1.size)
  have H12 := H1.keep b2 H1.lt
  have H22 := H2.keep b2 H2.lt
  have c0 := K2.cell 0
  have c1 := K2.cell 1
  simp only [List.getElem?_cons_zero, List.getElem?_cons_succ] at c0 c1
  have hgk : w1.heap.size < w2.heap.size := K2.lt
  clear K2' g2' b2 H1 H2 b1
  go_wp2_with (first
    | ((with_reducible refine wpList_bytes rfl 9 24 5 (.tmp 18) rfl Tryz.underlying9 Tryz.underlying24 Tryz.underlying5 (s := s) ?_ ?_)
       rfl
       intro w3 cap SR b3))
  have hw3 : Below w.heap.size w w3 := hw2.trans (b3.mono hw2.size)
  refine (write_any g1 (pad key 54) _ s.size cap (numsOf s) w3 (H12.keep b3 H12.lt) (hG.keep hw3 (Nat.le_refl _)) SR.ints (numsOf_range s) (fun x hx _ => by injection hx with hx; subst hx; simp; omega) (by rw [pad_length]; have := HSZ.out; omega)).mono ?_
  rintro e w4 ⟨rfl, H14, g4⟩
  have H24 := (H22.keep b3 H22.lt).grown g4 (by omega)
  have K4 := (K2.keep b3 K2.lt).grown g4 (by intro e; injection e with e; omega)
  have hw4 : Below w.heap.size w w4 := hw3.trans (below_of_grown g4 l1 (by have := b3.size; omega))
  have hgk4 : w1.heap.size < w4.heap.size := K4.lt
  clear K2 H12 H22 c0 c1 SR b3 g4 hw3 hw2 hgk
  obtain ⟨gk, hgk⟩ : ∃ gk, gk = w1.heap.size := ⟨_, rfl⟩
  rw [← hgk] at K4 hgk4 z2
  rw [← hgk]
  clear hgk
  go_wp2_with (at_make
               refine wpList_make_two rfl (.const (.int .i64 0)) (.tmp 21) 24 rfl w4.heap.size 5 i0 (.int .u8 0) Tryz.underlying24 hi hz0 hz1 rfl rfl rfl (n := 0) (C := 8192) ?_ ?_ ?_ ?_ ?_ (Nat.le_refl _) ?_
               omega
               omega
               omega
               (rw [hz2]; omega)
               (unfold maxLen; omega)
               intro w5 hown5 hblk5 hgr5
               refine RowKit.Hid.out ?_)
  refine Lib.hid ?_
  have b5 : Below w4.heap.size w4 w5 := (Below.refl _ _).grown hgr5 (Nat.le_refl _) (by simp)
  have hw5 : Below w.heap.size w w5 := hw4.trans (b5.mono hw4.size)
  obtain ⟨Bz, hBz⟩ : ∃ Bz, Bz = w4.heap.size := ⟨_, rfl⟩
  rw [← hBz] at hown5 b5
  have hB5 : Bz ≤ w5.heap.size := by have := b5.size; omega
  have hBw : w.heap.size ≤ Bz := by rw [hBz]; exact hw4.size
  have h1B : g1 < Bz := by rw [hBz]; exact H14.lt
  have h2B : g2 < Bz := by rw [hBz]; exact H24.lt
  have hkB : gk < Bz := by rw [hBz]; exact hgk4
  have H15 := H14.keep b5 h1B
  have H25 := H24.keep b5 h2B
  have K5 := K4.keep b5 hkB
  have G5 := hG.keep hw5 (Nat.le_refl _)
  have GB : Glob w5 → ∀ w', Below Bz w5 w' → Glob w' := fun g w' q => hG.keep (hw5.trans (q.mono hBw)) (Nat.le_refl _)
  have GG := Lib.hid (GB G5)
  have HH1 := Lib.hid (fun w' (q : Below Bz w5 w') => H15.keep q h1B)
  have HH2 := Lib.hid (fun w' (q : Below Bz w5 w') => H25.keep q h2B)
  have KK := Lib.hid (fun w' (q : Below Bz w5 w') => K5.keep q hkB)
  rw [← hBz]
  clear H14 H24 K4 b5 hw4 hgk4 hblk5 hgr5 H15 H25 K5 G5 GB h1 l1 l2 z2 hG hBz
  go_wp2_with fail
  go_loopw [8, 9] (fun v i wr => ∃ k : Nat, k ≤ 257 ∧ i = .int .i64 k ∧ wr.ownsRow Bz 5 1 v (min (32 * k) 8192) (((tags key (numsOf s) k).take 8192).map (Value.int .u8)) ∧ 32 * k < 8192 + 32 ∧ Below Bz w5 wr) (fun _ i _ => 512 - (intOf i).toNat)
  case atStart => exact ⟨0, Nat.zero_le _, rfl, by simpa [tags] using hown5, by omega, Below.refl _ _⟩
  case round =>
    obtain ⟨k, hk, rfl, hown, hkM, hb⟩ := hrel
    clear hown5
    obtain ⟨vb, vc, hv⟩ := own_slice hown
    subst hv
    obtain ⟨N, hN⟩ : ∃ N, N = min (32 * k) 8192 := ⟨_, rfl⟩
    rw [← hN] at hown
    rw [← hN]
    have HN := Lib.hid hN
    clear hN
    by_cases hlt : N < 8192
    · have hltI : (N : Int) < 8192 := by omega
      have HN32 := Lib.hid (show N = 32 * k by have := HN.out; omega)
      have k0 : (0 : Int) ≤ (k : Int) := by omega
      have k1 : (k : Int) < 256 := by have := HN32.out; omega
      have hbs := hb.size
      have kk := KK.out wr hb
      have yk : ((k : Int)) = ((k % 256 : Nat) : Int) := by omega
      have YK := Lib.hid yk
      clear yk
      have wt : Below Bz w5 ((wr.alloc (.cells #[.int .u8 k] 5)).alloc (.cells #[.slice (some ⟨wr.heap.size, 0, none⟩) 1 1] 24)) := (hb.alloc (by omega) _).alloc (by simp; omega) _
      have PT : Parts ((wr.alloc (.cells #[.int .u8 k] 5)).alloc (.cells #[.slice (some ⟨wr.heap.size, 0, none⟩) 1 1] 24)) (some ⟨wr.heap.size + 1, 0, none⟩) 1 1 [[(k : Int)]] := by
        have := one_part _ (some ⟨wr.heap.size, 0, none⟩) 1 1 [(k : Int)] (one_at wr .u8 5 (k : Int)) 24
        rwa [size1] at this
      go_wp2_with (with_reducible refine wpList_load_blk rfl 60 (.tmp 7) rfl rfl kk rowKeyed rfl ?_)
      refine (tag_any g1 g2 (pad key 54 ++ numsOf s) (pad key 92) _ 1 1 [[(k : Int)]] _ (GG.out _ wt) (HH1.out _ wt) (HH2.out _ wt) PT (by intro p hp x hx; simp at hp; subst hp; simp at hx; omega) (by simp; rw [pad_length, numsOf_length]; have := HSZ.out; omega) (by decide) (by rw [pad_length]; omega)).mono ?_
      rintro e w6 ⟨rfl, b6⟩
      obtain ⟨T, hT⟩ : ∃ T, T = tagOf key (numsOf s ++ [((k % 256 : Nat) : Int)]) := ⟨_, rfl⟩
      have hTe : shaSum (pad key 92 ++ shaSum (pad key 54 ++ numsOf s ++ [[(k : Int)]].flatten)) = T := by
        rw [hT, ← YK.out]
        simp only [List.flatten_cons, List.flatten_nil, List.append_nil, List.append_assoc]
        rfl
      rw [hTe]
      have hTl : T.length = 32 := by rw [hT, tagOf_length]
      obtain ⟨X, hX⟩ : ∃ X, X = T.map (Value.int .u8) := ⟨_, rfl⟩
      have hXl : X.length = 32 := by rw [hX, List.length_map, hTl]
      rw [← hX]
      have HX := Lib.hid hX; have HXL := Lib.hid hXl; have HTL := Lib.hid hTl
      have HI : IsRow Tryz.prog 23 X.length := by rw [hXl]; exact rowId
      have HO1 := Lib.hid (show ∀ v ∈ X, v.oneCell' = true by rw [hX]; exact ints_oneCell' _ _)
      have HOF := Lib.hid (show 0 + X.length ≤ (zb 32).length by rw [hXl]; decide)
      have q6 : Below Bz w5 w6 := wt.trans (b6.mono (by simp; omega))
      have SN := Lib.hid (fun D (hD : D = min 32 (8192 - 32 * k)) => (show (tags key (numsOf s) (k + 1)).take 8192 = (tags key (numsOf s) k).take 8192 ++ T.take D by rw [hT]; exact tags_next key (numsOf s) k 8192 D hD))
      have hown6 := own_below (own_below hown (below2 wr _ _)) b6
      clear hX hXl hTl hT hTe PT wt b6 kk hown YK
      go_wp2_with ((with_reducible refine wpList_alloc_blk rfl 23 rfl zeroId ?_)
                   refine wpList_store_part (g := w6.heap.size) (off := 0) (t := 23) (cur := zb 32) (cs := X) rfl 23 (.tmp 10) (.tmp 34) rfl ?_ ?_ (Blk.new w6 _ (zb 32)) HI ?_ HO1.out ?_
                   rfl
                   rfl
                   exact HOF.out
                   intro w7 hX' hg7
                   refine RowKit.Hid.out ?_)
      refine Lib.hid ?_
      have B7 := hX'.cast (overV_all _ _ (by rw [HXL.out]; rfl))
      have b7 : Below w6.heap.size w6 w7 := (below1 w6 _).trans (below_of_grown hg7 (Nat.le_refl _) (by rw [size1]; omega))
      have hs6 : Bz ≤ w6.heap.size := Nat.le_trans hB5 q6.size
      have q7 : Below Bz w5 w7 := q6.trans (b7.mono hs6)
      have hown7 := own_below hown6 b7
      have hbs7 : Bz ≤ w7.heap.size := Nat.le_trans hs6 b7.size
      have I7 : Ints .u8 w7 (some ⟨w6.heap.size, 0, none⟩) 32 32 T := Ints.of_blk B7 HTL.out (Nat.le_refl _) (fun i hi => by rw [HX.out, Nat.zero_add]; exact getElem?_mapInt _ _ _ (by rw [HTL.out]; exact hi))
      clear hX' hg7 b7 B7 q6 hown6 hs6 hbs HO1 HOF
      obtain ⟨R, hR⟩ : ∃ R, R = 8192 - N := ⟨_, rfl⟩
      have hsub : 8192 - (N : Int) = (R : Int) := by omega
      have R0 : (0 : Int) ≤ (R : Int) := by omega
      have R1 : (R : Int) ≤ 8192 := by omega
      have HR := Lib.hid hR
      have hNM : N ≤ 8192 := by omega
      clear hR
      by_cases hd : R < 32
      · have hdI : (R : Int) < 32 := by omega
        have hd32 : (R : Int) ≤ 32 := by omega
        have hdn : R ≤ 32 := by omega
        go_wp2_with (at_builtin
                     refine wpList_append_ints rfl (.tmp 35) (.tmp 41) 24 rfl Bz 5 i0 (.int .u8 0) 1 Tryz.underlying24 hi hz0 hz1 hz2 rfl rfl hown7 rfl (I7.upto R (by omega)) ?_ ?_ hbs7 ?_
                     (unfold maxLen; omega)
                     omega
                     intro v8 w8 hown8 hg8
                     refine RowKit.Hid.out ?_)
        refine Lib.hid ?_
        have q8 : Below Bz w5 w8 := q7.grown hg8 hbs7 (fun q hq => (hown7.lt q hq).1)
        have hown9 : w8.ownsRow Bz 5 1 v8 (min (32 * (k + 1)) 8192) (((tags key (numsOf s) (k + 1)).take 8192).map (Value.int .u8)) := by
          rw [SN.out R (by have := HN32.out; have := HR.out; omega), List.map_append, show min (32 * (k + 1)) 8192 = N + R from by have := HN32.out; have := HR.out; omega]
          exact hown8
        have HN' := HN32.out
        have HR' := HR.out
        clear hsub
        clear hown8 hown7 hg8 I7 q7 hbs7
        go_wp2_with fail
        go_roundw
        case rel => exact ⟨k + 1, by omega, by go_num, hown9, by omega, q8⟩
        case measure => simp [intOf]; omega
      · have hdI : (32 : Int) ≤ (R : Int) := by omega
        go_wp2_with (at_builtin
                     refine wpList_append_ints rfl (.tmp 35) (.tmp 41) 24 rfl Bz 5 i0 (.int .u8 0) 1 Tryz.underlying24 hi hz0 hz1 hz2 rfl rfl hown7 rfl (I7.upto 32 (by omega)) ?_ ?_ hbs7 ?_
                     (unfold maxLen; omega)
                     omega
                     intro v8 w8 hown8 hg8
                     refine RowKit.Hid.out ?_)
        refine Lib.hid ?_
        have q8 : Below Bz w5 w8 := q7.grown hg8 hbs7 (fun q hq => (hown7.lt q hq).1)
        have hown9 : w8.ownsRow Bz 5 1 v8 (min (32 * (k + 1)) 8192) (((tags key (numsOf s) (k + 1)).take 8192).map (Value.int .u8)) := by
          rw [SN.out 32 (by have := HN32.out; have := HR.out; omega), List.map_append, show min (32 * (k + 1)) 8192 = N + 32 from by have := HN32.out; have := HR.out; omega]
          exact hown8
        have HN' := HN32.out
        have HR' := HR.out
        clear hsub
        clear hown8 hown7 hg8 I7 q7 hbs7
        go_wp2_with fail
        go_roundw
        case rel => exact ⟨k + 1, by omega, by go_num, hown9, by omega, q8⟩
        case measure => simp [intOf]; omega
    · have hNM : N = 8192 := by have := HN.out; omega
      have hnl : ¬ ((N : Int) < 8192) := by omega
      obtain ⟨A, c, e1, hI⟩ := Ints.of_owns hown
      cases e1
      rw [derived_of_tags key (numsOf s) 8192 k (by have := HN.out; omega)] at hI
      have HNM := Lib.hid hNM
      have HI := Lib.hid hI
      clear hown hI hNM hkM hlt
      go_wp2_with fail
      go_ret
      rw [HNM.out] at HI
      exact ⟨vb, vc, by rw [HNM.out]; rfl, HI.out, hw5.trans (hb.mono hBw)⟩

set_option maxRecDepth 100000 in
set_option maxHeartbeats 3200000 in
theorem derive_neg (a : Option Addr) (n ca : Nat) (key : List Int) (s : ByteArray) (many : Int) (w : World) (hG : Glob w) (h1 : Ints .u8 w a n ca key) (r1 : ∀ x ∈ key, 0 ≤ x ∧ x < 256) (hn : n ≤ 2147483648) (hs : s.size ≤ 1000) (hM : many < 0) :
    Calls Tryz.prog 26 #[.slice a n ca, .string s, .int .i64 many] w fun e w' => ∃ b c, e = .returned (.slice b 0 c) ∧ Ints .u8 w' b 0 c (derived key (numsOf s) 0) ∧ Below w.heap.size w w' := by
  obtain ⟨i0, hi, hz0, hz1, hz2⟩ := info_parts infoU8
  have HSZ := Lib.hid hs
  clear hs
  go_enter Tryz.func26, Tryz.ntmps26
  go_wp2_with fail
  refine (by_any a n ca key w hG h1 r1 (by omega)).mono ?_
  rintro e w1 ⟨g1, g2, rfl, l1, l2, H1, H2, b1⟩
  have z2 := H2.lt
  go_wp2_with ((with_reducible refine wpList_alloc_blk rfl 60 rfl zeroKeyed ?_)
               refine wpList_store_part (g := w1.heap.size) (off := 0) (t := 60) (cur := [.pointer none, .pointer none]) (cs := [.pointer (some ⟨g1, 0, none⟩), .pointer (some ⟨g2, 0, none⟩)]) rfl 60 (.tmp 7) (.tmp 15) rfl ?_ ?_ (Blk.new w1 _ [.pointer none, .pointer none]) rowKeyed ?_ ?_ ?_
               rfl
               rfl
               exact Nat.le_refl 2
               exact (by intro v hv; simp at hv; rcases hv with rfl | rfl <;> rfl)
               intro w2 K2' g2'
               refine RowKit.Hid.out ?_)
  refine Lib.hid ?_
  have K2 := K2'.cast (overV_all _ _ rfl)
  have b2 : Below w1.heap.size w1 w2 := (below1 w1 _).trans (below_of_grown g2' (Nat.le_refl _) (by rw [size1]; omega))
  have hw2 : Below w.heap.size w w2 := b1.trans (b2.mono b1.size)
  have H12 := H1.keep b2 H1.lt
  have H22 := H2.keep b2 H2.lt
  have c0 := K2.cell 0
  have c1 := K2.cell 1
  simp only [List.getElem?_cons_zero, List.getElem?_cons_succ] at c0 c1
  have hgk : w1.heap.size < w2.heap.size := K2.lt
  clear K2' g2' b2 H1 H2 b1
  go_wp2_with (first
    | ((with_reducible refine wpList_bytes rfl 9 24 5 (.tmp 18) rfl Tryz.underlying9 Tryz.underlying24 Tryz.underlying5 (s := s) ?_ ?_)
       rfl
       intro w3 cap SR b3))
  have hw3 : Below w.heap.size w w3 := hw2.trans (b3.mono hw2.size)
  refine (write_any g1 (pad key 54) _ s.size cap (numsOf s) w3 (H12.keep b3 H12.lt) (hG.keep hw3 (Nat.le_refl _)) SR.ints (numsOf_range s) (fun x hx _ => by injection hx with hx; subst hx; simp; omega) (by rw [pad_length]; have := HSZ.out; omega)).mono ?_
  rintro e w4 ⟨rfl, H14, g4⟩
  have H24 := (H22.keep b3 H22.lt).grown g4 (by omega)
  have K4 := (K2.keep b3 K2.lt).grown g4 (by intro e; injection e with e; omega)
  have hw4 : Below w.heap.size w w4 := hw3.trans (below_of_grown g4 l1 (by have := b3.size; omega))
  have hgk4 : w1.heap.size < w4.heap.size := K4.lt
  clear K2 H12 H22 c0 c1 SR b3 g4 hw3 hw2 hgk
  obtain ⟨gk, hgk⟩ : ∃ gk, gk = w1.heap.size := ⟨_, rfl⟩
  rw [← hgk] at K4 hgk4 z2
  rw [← hgk]
  clear hgk
  go_wp2_with (at_make
               refine wpList_make_two rfl (.const (.int .i64 0)) (.tmp 21) 24 rfl w4.heap.size 5 i0 (.int .u8 0) Tryz.underlying24 hi hz0 hz1 rfl rfl rfl (n := 0) (C := 0) ?_ ?_ ?_ ?_ ?_ (Nat.le_refl _) ?_
               omega
               omega
               omega
               (rw [hz2]; omega)
               (unfold maxLen; omega)
               intro w5 hown5 hblk5 hgr5
               refine RowKit.Hid.out ?_)
  refine Lib.hid ?_
  have b5 : Below w4.heap.size w4 w5 := (Below.refl _ _).grown hgr5 (Nat.le_refl _) (by simp)
  have hw5 : Below w.heap.size w w5 := hw4.trans (b5.mono hw4.size)
  obtain ⟨Bz, hBz⟩ : ∃ Bz, Bz = w4.heap.size := ⟨_, rfl⟩
  rw [← hBz] at hown5 b5
  have hB5 : Bz ≤ w5.heap.size := by have := b5.size; omega
  have hBw : w.heap.size ≤ Bz := by rw [hBz]; exact hw4.size
  have h1B : g1 < Bz := by rw [hBz]; exact H14.lt
  have h2B : g2 < Bz := by rw [hBz]; exact H24.lt
  have hkB : gk < Bz := by rw [hBz]; exact hgk4
  have H15 := H14.keep b5 h1B
  have H25 := H24.keep b5 h2B
  have K5 := K4.keep b5 hkB
  have G5 := hG.keep hw5 (Nat.le_refl _)
  have GB : Glob w5 → ∀ w', Below Bz w5 w' → Glob w' := fun g w' q => hG.keep (hw5.trans (q.mono hBw)) (Nat.le_refl _)
  have GG := Lib.hid (GB G5)
  have HH1 := Lib.hid (fun w' (q : Below Bz w5 w') => H15.keep q h1B)
  have HH2 := Lib.hid (fun w' (q : Below Bz w5 w') => H25.keep q h2B)
  have KK := Lib.hid (fun w' (q : Below Bz w5 w') => K5.keep q hkB)
  rw [← hBz]
  clear H14 H24 K4 b5 hw4 hgk4 hblk5 hgr5 H15 H25 K5 G5 GB h1 l1 l2 z2 hG hBz
  go_wp2_with fail
  go_loopw [8, 9] (fun v i wr => ∃ k : Nat, k ≤ 257 ∧ i = .int .i64 k ∧ wr.ownsRow Bz 5 1 v (min (32 * k) 0) (((tags key (numsOf s) k).take 0).map (Value.int .u8)) ∧ 32 * k < 0 + 32 ∧ Below Bz w5 wr) (fun _ i _ => 512 - (intOf i).toNat)
  case atStart => exact ⟨0, Nat.zero_le _, rfl, by simpa [tags] using hown5, by omega, Below.refl _ _⟩
  case round =>
    obtain ⟨k, hk, rfl, hown, hkM, hb⟩ := hrel
    clear hown5
    obtain ⟨vb, vc, hv⟩ := own_slice hown
    subst hv
    obtain ⟨N, hN⟩ : ∃ N, N = min (32 * k) 0 := ⟨_, rfl⟩
    rw [← hN] at hown
    rw [← hN]
    have HN := Lib.hid hN
    clear hN
    by_cases hlt : N < 0
    · exact absurd hlt (Nat.not_lt_zero _)
    · have hNM : N = 0 := by have := HN.out; omega
      have hnl : ¬ ((N : Int) < 0) := by omega
      obtain ⟨A, c, e1, hI⟩ := Ints.of_owns hown
      cases e1
      rw [derived_of_tags key (numsOf s) 0 k (by have := HN.out; omega)] at hI
      have HNM := Lib.hid hNM
      have HI := Lib.hid hI
      clear hown hI hNM hkM hlt
      go_wp2_with fail
      go_ret
      rw [HNM.out] at HI
      exact ⟨vb, vc, by rw [HNM.out]; rfl, HI.out, hw5.trans (hb.mono hBw)⟩
end Go.Proofs.YtagacpjeooaapaaGreatDoor

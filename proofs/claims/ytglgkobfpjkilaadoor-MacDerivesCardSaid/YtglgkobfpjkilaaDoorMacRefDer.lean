/-
  What the document's own bytes derived come to. Conditions: bytes are numbers from 0 to 255; of the key at most 2^32, of the label at most 1000; at most 8192 bytes are asked for.
-/
import Derived.Test.YtglgkobfpjkilaaDoorMacEqual
import Derived.Test.YtglgkobfpjkilaaDoorBytesOf
namespace Go.Proofs.YtglgkobfpjkilaaDoor
open Go.RowKit

theorem Ints.upto {k : IntKind} {w : World} {a : Option Addr} {n cap : Nat} {xs : List Int} (h : Ints k w a n cap xs) (m : Nat) (hm : m ≤ n) : Ints k w a m cap (xs.take m) := by
  refine ⟨by rw [List.length_take, h.1]; omega, Nat.le_trans hm h.2.1, ?_⟩
  by_cases h0 : m = 0
  · exact .inl h0
  · obtain ⟨b, off, ha, hc⟩ := h.at (by omega)
    refine .inr ⟨b, off, ha, fun i hi => ?_⟩
    rw [hc i (by omega)]
    congr 2
    rw [List.getD_eq_getElem?_getD, List.getD_eq_getElem?_getD, List.getElem?_take_of_lt hi]
theorem own_below {w w' : World} {b : Nat} {e : TypeId} {size : Nat} {v : Value} {n : Nat} {xs : List Value} (h : w.ownsRow b e size v n xs) (hb : Below w.heap.size w w') : w'.ownsRow b e size v n xs :=
  h.kept (grown_of_below hb none) (by cases hv : v.ownBlock <;> simp)
theorem one_cell (w : World) (v : Value) (t : TypeId) : (w.alloc (.cells #[v] t)).cell? ⟨w.heap.size, 0, none⟩ = some v := World.cell?_alloc_at (w := w) #[v] t w.heap.size 0 rfl
theorem sizeU8i : ∃ i, Tryd.prog.info? 5 = some i ∧ i.zero = some (.int .u8 0) ∧ i.size = 1 ∧ i.bytes = 1 := by
  obtain ⟨i, h1, h2, h3, h4⟩ := info_parts infoU8
  exact ⟨i, h1, h2, h3, h4⟩

set_option maxRecDepth 100000 in
set_option maxHeartbeats 1600000 in
theorem refDerive_neg (a : Option Addr) (n ca : Nat) (s : ByteArray) (many : Int) (w : World) (h0 : many < 0) :
    Calls Tryd.prog 16 #[.slice a n ca, .string s, .int .i64 many] w fun e w' => e = .returned (.slice none 0 0) ∧ w = w' := by
  have h1 : many ≤ 8192 := by omega
  go_enter Tryd.func16, Tryd.ntmps16
  go_wp2_with fail
  go_loopw [7, 8] (fun v i wr => v = .slice none 0 0 ∧ i = .int .i64 0 ∧ w = wr) (fun _ _ _ => 0)
  case atStart => exact ⟨rfl, rfl, rfl⟩
  case round =>
    obtain ⟨rfl, rfl, rfl⟩ := hrel
    go_wp2
    go_ret
    exact ⟨rfl, rfl⟩

set_option maxRecDepth 100000 in
set_option maxHeartbeats 3200000 in
theorem refDerive_any (a : Option Addr) (n ca : Nat) (key : List Int) (s : ByteArray) (M : Nat) (w : World) (h1 : Ints .u8 w a n ca key) (r1 : ∀ x ∈ key, 0 ≤ x ∧ x < 256) (hn : n ≤ 4294967296) (hs : s.size ≤ 1000) (hM : M ≤ 8192) :
    Calls Tryd.prog 16 #[.slice a n ca, .string s, .int .i64 M] w fun e w' => ∃ b c, e = .returned (.slice b M c) ∧ Ints .u8 w' b M c (derived key (numsOf s) M) ∧ Below w.heap.size w w' := by
  obtain ⟨i0, hi, hz0, hz1, hz2⟩ := info_parts infoU8
  have hMI : (M : Int) ≤ 8192 := by omega
  have hM0 : (0 : Int) ≤ (M : Int) := by omega
  have H1 := Lib.hid h1; have R1 := Lib.hid r1
  have HSZ := Lib.hid hs
  clear h1 r1 hs
  go_enter Tryd.func16, Tryd.ntmps16
  go_wp2_with fail
  go_loopw [7, 8] (fun v i wr => ∃ k : Nat, k ≤ 256 ∧ i = .int .i64 k ∧ wr.ownsRow w.heap.size 5 1 v (32 * k) ((tags key (numsOf s) k).map (Value.int .u8)) ∧ 32 * k < M + 32 ∧ Below w.heap.size w wr) (fun _ i _ => 512 - (intOf i).toNat)
  case atStart => exact ⟨0, Nat.zero_le _, rfl, World.ownsRow_nil _ _ _ _, by omega, Below.refl _ _⟩
  case round =>
    obtain ⟨k, hk, rfl, hown, hkM, hb⟩ := hrel
    obtain ⟨vb, vc, hv⟩ := own_slice hown
    subst hv
    obtain ⟨N, hN⟩ : ∃ N, N = 32 * k := ⟨_, rfl⟩
    rw [← hN] at hown hkM
    rw [← hN]
    have HN := Lib.hid hN
    clear hN
    by_cases hlt : N < M
    · have hltI : (N : Int) < (M : Int) := by omega
      have k0 : (0 : Int) ≤ (k : Int) := by omega
      have k1 : (k : Int) < 256 := by have := HN.out; omega
      have hbs := hb.size
      go_wp2_with (first
        | ((with_reducible refine wpList_bytes rfl 9 22 5 (.tmp 17) rfl Tryd.underlying9 Tryd.underlying22 Tryd.underlying5 (s := s) ?_ ?_)
           rfl
           intro w1 cap SR b1)
        | (at_builtin
           refine wpList_append_sbyte rfl (.tmp 18) (.tmp 21) 22 rfl 5 i0 (.int .u8 0) Tryd.underlying22 hi hz0 hz1 hz2 rfl (SR.alloc _) rfl rfl (one_cell _ _ _) ?_ ?_
           (have := HSZ.out; omega)
           intro A c w2 I2 q2
           refine RowKit.Hid.out ?_))
      refine Lib.hid ?_
      have hyk : (k : Int) = ((k % 256 : Nat) : Int) := by omega
      rw [hyk] at I2
      have b1s := b1.size
      have b2 : Below w.heap.size w w2 := hb.trans (((b1.alloc b1.size _).mono hbs).trans ((q2 wr.heap.size (Nat.le_refl _) (by simp; omega)).mono hbs))
      have hown2 := own_below hown (((b1.alloc b1.size _)).trans (q2 wr.heap.size (Nat.le_refl _) (by simp; omega)))
      obtain ⟨LB, hLB⟩ : ∃ LB, LB = numsOf s ++ [((k % 256 : Nat) : Int)] := ⟨_, rfl⟩
      rw [← hLB] at I2
      have HLB := Lib.hid hLB
      have HLR := Lib.hid (show ∀ x ∈ LB, 0 ≤ x ∧ x < 256 by
        intro x hx
        rw [hLB] at hx
        rcases List.mem_append.1 hx with hx | hx
        · exact numsOf_range s x hx
        · simp at hx; omega)
      have K2 := H1.out.keep b2
      have hsz : s.size + 1 ≤ 1001 := by have := HSZ.out; omega
      obtain ⟨ls, hls⟩ : ∃ ls, ls = s.size + 1 := ⟨_, rfl⟩
      rw [← hls] at I2 hsz
      rw [← hls]
      clear hLB hls SR b1 q2 b1s hyk hbs
      go_wp2_with fail
      refine (refOf_any a n ca key A ls c LB w2 K2 R1.out I2 HLR.out hn (by omega)).mono ?_
      rintro e w3 ⟨rfl, b3⟩
      have hw3 : Below w.heap.size w w3 := b2.trans (b3.mono b2.size)
      have hown3 := own_below hown2 b3
      obtain ⟨T, hT⟩ : ∃ T, T = tagOf key LB := ⟨_, rfl⟩
      have hTl : T.length = 32 := by rw [hT, tagOf_length]
      rw [← hT]
      obtain ⟨X, hX⟩ : ∃ X, X = T.map (Value.int .u8) := ⟨_, rfl⟩
      have hXl : X.length = 32 := by rw [hX, List.length_map, hTl]
      rw [← hX]
      have HX := Lib.hid hX; have HXL := Lib.hid hXl; have HTL := Lib.hid hTl; have HT := Lib.hid hT
      have HI : IsRow Tryd.prog 27 X.length := by rw [hXl]; exact rowId
      have HO1 := Lib.hid (show ∀ v ∈ X, v.oneCell' = true by rw [hX]; exact ints_oneCell' _ _)
      have HOF := Lib.hid (show 0 + X.length ≤ (zb 32).length by rw [hXl]; decide)
      clear hX hXl hTl hT hown hown2 b2 b3 K2 I2
      go_wp2_with ((with_reducible refine wpList_alloc_blk rfl 27 rfl zeroId ?_)
                   refine wpList_store_part (g := w3.heap.size) (off := 0) (t := 27) (cur := zb 32) (cs := X) rfl 27 (.tmp 10) (.tmp 25) rfl ?_ ?_ (Blk.new w3 _ (zb 32)) HI ?_ HO1.out ?_
                   rfl
                   rfl
                   exact HOF.out
                   intro w4 hX' hg4
                   refine RowKit.Hid.out ?_)
      refine Lib.hid ?_
      have B4 := hX'.cast (overV_all _ _ (by rw [HXL.out]; rfl))
      have b4 : Below w3.heap.size w3 w4 := (below1 w3 _).trans (below_of_grown hg4 (Nat.le_refl _) (by rw [size1]; omega))
      have hw4 : Below w.heap.size w w4 := hw3.trans (b4.mono hw3.size)
      have hown4 := own_below hown3 b4
      have I4 : Ints .u8 w4 (some ⟨w3.heap.size, 0, none⟩) 32 32 T := Ints.of_blk B4 HTL.out (Nat.le_refl _) (fun i hi => by rw [HX.out, Nat.zero_add]; exact getElem?_mapInt _ _ _ (by rw [HTL.out]; exact hi))
      have hbs4 := hw4.size
      clear hX' hg4 b4 hown3 hw3 B4
      go_wp2_with (at_builtin
                   refine wpList_append_ints rfl (.tmp 26) (.tmp 27) 22 rfl w.heap.size 5 i0 (.int .u8 0) 1 Tryd.underlying22 hi hz0 hz1 hz2 rfl rfl hown4 rfl I4 ?_ ?_ hbs4 ?_
                   (unfold maxLen; omega)
                   omega
                   intro v5 w5 hown5 hg5
                   refine RowKit.Hid.out ?_)
      refine Lib.hid ?_
      have hw5 : Below w.heap.size w w5 := hw4.grown hg5 hbs4 (fun q hq => (hown4.lt q hq).1)
      rw [← List.map_append] at hown5
      have SN := Lib.hid (show tags key (numsOf s) (k + 1) = tags key (numsOf s) k ++ T by rw [HT.out, HLB.out]; rfl)
      rw [← SN.out] at hown5
      have hN5 := HN.out
      clear hg5 hown4 I4 hw4 hbs4
      go_wp2_with fail
      go_roundw
      case rel => exact ⟨k + 1, by omega, by go_num, by rw [show 32 * (k + 1) = N + 32 from by omega]; exact hown5, by omega, hw5⟩
      case measure => simp [intOf]; omega
    · have hge : (M : Int) ≤ (N : Int) := by omega
      obtain ⟨A, c, e1, hI⟩ := Ints.of_owns hown
      cases e1
      have hcc := hI.2.1
      have hcI : (M : Int) ≤ (vc : Int) := by omega
      have hU := hI.upto M (by omega)
      rw [derived_of_tags key (numsOf s) M k (by have := HN.out; omega)] at hU
      clear hown hI
      go_wp2_with fail
      go_ret
      exact ⟨vb, vc, rfl, hU, hb⟩
end Go.Proofs.YtglgkobfpjkilaaDoor

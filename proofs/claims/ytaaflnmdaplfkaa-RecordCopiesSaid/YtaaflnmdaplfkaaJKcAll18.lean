/-
  Texts of stages that were proved on their own, joined: BkHint, BkHinted, BfBytes, KfBytes, BkHas. Each begins with its own words.
-/
import Derived.Test.YtaaflnmdaplfkaaJKcAll10
import Derived.Test.YtaaflnmdaplfkaaJKcAll17
import Derived.Test.YtaaflnmdaplfkaaBlocks2
import Derived.Test.YtaaflnmdaplfkaaJKcAll16
import Derived.Great.BuildSlice
import Derived.Test.YtaaflnmdaplfkaaAppends
import Derived.Test.YtaaflnmdaplfkaaJKcAll0

/-
  What seal's HintOf, and the document's own Hint, come to: the first 16 bytes of an id. New memory alone is written. Conditions: an id has 32 bytes.
-/
namespace Go.Proofs.Ytaaflnmdaplfkaa
open Go.RowKit

theorem id_head16 {w : World} {g : Nat} {t : TypeId} {X : List Int} (h : Blk w g t (X.map (Value.int .u8))) : w.rangeAt g 0 ((X.take 16).map (Value.int .u8)) := h.range 0 _ (fun j v hj => by
  rw [Nat.zero_add]
  have hl : j < 16 := by
    rcases Nat.lt_or_ge j 16 with h | h
    · exact h
    · rw [List.getElem?_eq_none (by rw [List.length_map, List.length_take]; omega)] at hj; cases hj
  rw [List.getElem?_map, List.getElem?_take_of_lt hl, ← List.getElem?_map] at hj
  exact hj)
end Go.Proofs.Ytaaflnmdaplfkaa

/-
  What block's Hinted, and the document's own, come to. New memory alone is written. Conditions: at most a hundred thousand ids; an id has 32 bytes, a hint 16.
-/
namespace Go.Proofs.Ytaaflnmdaplfkaa
open Go.RowKit

theorem owns_blk16 {w : World} {B s n g : Nat} {e t : TypeId} {v : Value} {xs cs : List Value} (h : w.ownsRow B e s v n xs) (k : Blk w g t cs) (he : t ≠ e) : some g ≠ v.ownBlock := by
  rcases h.2 with ⟨rfl, _⟩ | ⟨q, cap, cur, rfl, _, hq, _⟩
  · intro hb; cases hb
  · intro hb
    have hb : some g = some q := hb
    injection hb with hb
    subst hb
    unfold Blk at k
    rw [k] at hq
    injection hq with hq
    injection hq with _ h2 _
    exact he h2
end Go.Proofs.Ytaaflnmdaplfkaa

/-
  The document's own Bytes and Encode of a block. New memory alone is written. Conditions: the fields' ranges, at most a hundred thousand ids.
-/
namespace Go.Proofs.Ytaaflnmdaplfkaa
open Go.RowKit

theorem slice_all16 {P : Program} {t e : TypeId} {n g off : Nat} (hu : P.underlying t = some (.array n e)) (hs : (P.info? e).map (·.size) = some 1) (w : World) :
    (Instr.sliceAt t (.pointer (some ⟨g, off, none⟩)) none none none).run P w = .ok (.slice (some ⟨g, off, none⟩) n n) w := by
  have hn : P.arrayLen t = n := by simp [Program.arrayLen, hu]
  have he : P.elem t = e := by simp [Program.elem, hu]
  have hrun := run_sliceAt_array_all w t ⟨g, off, none⟩ (by rw [hn, he]; exact hu)
  have hsz : (sizeOf e).run P w = .ok 1 w := by
    cases hq : P.info? e with
    | none => simp [hq] at hs
    | some i => simp [sizeOf, typeInfo, hq, (by simpa [hq] using hs : i.size = 1)]
  rw [hn, he, hsz] at hrun
  rw [hrun]
  unfold slicedAt
  have : (⟨g, off, none⟩ : Addr).add (0 * 1) = ⟨g, off, none⟩ := by simp [Addr.add_mid]
  simp [this]
theorem ints_range16 {w : World} {g off m : Nat} {X : List Int} (h : w.rangeAt g off (X.map (Value.int .u8))) (hl : X.length = m) : Ints .u8 w (some ⟨g, off, none⟩) m m X :=
  ⟨hl, Nat.le_refl _, .inr ⟨g, off, rfl, fun i hi => by
    have := h i (.int .u8 (X.getD i 0)) (by rw [List.getElem?_map, List.getD_eq_getElem?_getD, List.getElem?_eq_getElem (by omega)]; rfl)
    exact this⟩⟩

set_option maxRecDepth 100000 in
set_option maxHeartbeats 4000000 in
theorem r16Bytes_any (H P : List Int) (a : Option Addr) (n c : Nat) (zs : List Int) (w : World) (hH : H.length = 32) (hP : P.length = 32) (hT : IdsAt w a n c zs) (hn : n ≤ 100000) :
    Calls Try.prog 47 #[.agg (bkC H P a n c).toArray] w fun q w' => ∃ b d, q = .returned (.slice b (blkB ⟨H, P, n, zs⟩).length d) ∧ w'.ownsRow w.heap.size 5 1 (.slice b (blkB ⟨H, P, n, zs⟩).length d) (blkB ⟨H, P, n, zs⟩).length ((blkB ⟨H, P, n, zs⟩).map (Value.int .u8)) ∧ Below w.heap.size w w' := by
  have hl := hT.1
  obtain ⟨i0, hi, hz0, hz1, hz2⟩ := info_u8b
  have tp : 31 ≠ 5 := by decide
  have e0 := Lib.hid (fun w' g (h : Blk w' g 31 (bkC H P a n c)) => ints_range16 (bk0 h) hH)
  have e1 := Lib.hid (fun w' g (h : Blk w' g 31 (bkC H P a n c)) => ints_range16 (bk1 h hH) hP)
  have e2 := Lib.hid (fun w' g (h : Blk w' g 31 (bkC H P a n c)) => bk2 h hH hP)
  obtain ⟨C, hC⟩ : ∃ C, bkC H P a n c = C := ⟨_, rfl⟩
  rw [hC] at e0 e1 e2
  rw [hC]
  have hb := below1 w (.cells C.toArray 31)
  have hk : Blk (w.alloc (.cells C.toArray 31)) w.heap.size 31 C := Blk.new w _ C
  obtain ⟨W, hW⟩ : ∃ V, w.alloc (.cells C.toArray 31) = V := ⟨_, rfl⟩
  rw [hW] at hb hk
  obtain ⟨G, g9⟩ : ∃ G, w.heap.size = G := ⟨_, rfl⟩
  rw [g9] at hk
  have gH := Lib.hid g9
  have hTH := Lib.hid hT
  have hnH := Lib.hid hn
  have hnm : (n : Int) ≤ 100000 := by omega
  have hps := Lib.hid (fun j (hj : j < n) => idP_len hl hj)
  have hsA := fun w' => slice_all16 (P := Try.prog) (g := G) (off := 0) Try.underlying28 sizeU8s w'
  have hsB := fun w' => slice_all16 (P := Try.prog) (g := G) (off := 32) Try.underlying28 sizeU8s w'
  obtain ⟨bs, hbs⟩ : ∃ bs, H ++ (P ++ [(n : Int) % 256]) = bs := ⟨_, rfl⟩
  have hbl : bs.length = 65 := by rw [← hbs, List.length_append, List.length_append, hH, hP]; rfl
  have hM : blkB ⟨H, P, n, zs⟩ = bs ++ zs.take (32 * n) := by
    rw [take_ids hl, ← hbs]
    unfold blkB
    simp
  obtain ⟨M, hMM⟩ : ∃ M, blkB ⟨H, P, n, zs⟩ = M := ⟨_, rfl⟩
  rw [hMM] at hM
  rw [hMM]
  have hMl : M.length = 65 + 32 * n := by rw [hM, take_ids hl, List.length_append, hbl, hl]
  have hMH := Lib.hid (And.intro hM hMl)
  have hbsH := Lib.hid hbs
  have hstep := Lib.hid (take_step zs)
  clear hC hT hn hM hMM hMl hbs hl
  go_enter Try.func47, Try.ntmps47
  go_wp2_with ((with_reducible refine box_row rfl 31 (.tmp 0) rfl C ?_ ?_); rfl; refine RowKit.Hid.out ?_)
  refine Lib.hid ?_
  clear hW
  have q1 : Below w.heap.size w (W.alloc (.cells #[] 5)) := hb.alloc hb.size _
  have hk1 := hk.alloc (.cells #[] 5)
  have hO1 : (W.alloc (.cells #[] 5)).ownsRow w.heap.size 5 1 (.slice (some ⟨W.heap.size, 0, none⟩) 0 0) 0 [] := World.ownsRow_made W #[] 0 hb.size (Nat.zero_le _) rfl
  have I1 := e0.out _ G hk1
  clear hk hb
  go_wp2_with (at_builtin
               refine wpList_append_ints rfl (.tmp 5) (.tmp 7) 26 rfl w.heap.size 5 i0 (.int .u8 0) 1 Try.underlying26 hi hz0 hz1 hz2 rfl rfl hO1 rfl I1 ?_ ?_ q1.size ?_
               (skip; unfold maxLen; omega)
               (skip; omega)
               intro v2 w2 hO2 hg2
               refine RowKit.Hid.out ?_)
  refine Lib.hid ?_
  have hk2 := hk1.grown hg2 (owns_blk16 hO1 hk1 tp)
  have hB2 := q1.grown hg2 q1.size (fun q hq => (hO1.lt q hq).1)
  have I2 := e1.out _ G hk2
  clear hk1 q1 hO1 hg2 I1
  rw [List.nil_append, Nat.zero_add] at hO2
  go_wp2_with (at_builtin
               refine wpList_append_ints rfl (.tmp 9) (.tmp 11) 26 rfl w.heap.size 5 i0 (.int .u8 0) 1 Try.underlying26 hi hz0 hz1 hz2 rfl rfl hO2 rfl I2 ?_ ?_ hB2.size ?_
               (skip; unfold maxLen; omega)
               (skip; omega)
               intro v3 w3 hO3 hg3
               refine RowKit.Hid.out ?_)
  refine Lib.hid ?_
  have hk3 := hk2.grown hg3 (owns_blk16 hO2 hk2 tp)
  have hB3 := hB2.grown hg3 hB2.size (fun q hq => (hO2.lt q hq).1)
  have c2 := e2.out _ G hk3
  rw [← List.map_append] at hO3
  clear hk2 hB2 hO2 hg3 I2
  obtain ⟨k8, hk8⟩ : ∃ k : Int, (n : Int) % 256 = k := ⟨_, rfl⟩
  have hkn := Blk.new w3 5 [.int .u8 k8]
  have hk4 := hk3.alloc (.cells #[.int .u8 k8] 5)
  have hB4 := hB3.alloc hB3.size (.cells #[.int .u8 k8] 5)
  have hO4 := hO3.alloc (.cells #[.int .u8 k8] 5)
  have I4 : Ints .u8 (w3.alloc (.cells #[.int .u8 k8] 5)) (some ⟨w3.heap.size, 0, none⟩) 1 1 [k8] := ints_range16 (X := [k8]) (hkn.range 0 _ (fun j v hj => by rw [Nat.zero_add]; exact hj)) rfl
  clear hk3 hB3 hO3 hkn
  go_wp2_with (at_builtin
               refine wpList_append_ints rfl (.tmp 13) (.tmp 18) 26 rfl w.heap.size 5 i0 (.int .u8 0) 1 Try.underlying26 hi hz0 hz1 hz2 rfl rfl hO4 rfl I4 ?_ ?_ hB4.size ?_
               (skip; unfold maxLen; omega)
               (skip; omega)
               intro v5 w5 hO5 hg5
               refine RowKit.Hid.out ?_)
  refine Lib.hid ?_
  have hk5 := hk4.grown hg5 (owns_blk16 hO4 hk4 tp)
  have hB5 := hB4.grown hg5 hB4.size (fun q hq => (hO4.lt q hq).1)
  rw [← List.map_append] at hO5
  have hO5 : w5.ownsRow w.heap.size 5 1 v5 (65 + 32 * 0) ((bs ++ zs.take (32 * 0)).map (Value.int .u8)) := by
    rw [Nat.mul_zero, List.take_zero, List.append_nil, ← hbsH.out, hk8, ← List.append_assoc]
    exact hO5
  clear hk4 hB4 hO4 hg5 I4 c2 hk8
  go_wp2
  go_loopw [3, 4] (fun v i wr => ∃ j : Nat, j ≤ n ∧ i = .int .i64 j ∧ wr.ownsRow w.heap.size 5 1 v (65 + 32 * j) ((bs ++ zs.take (32 * j)).map (Value.int .u8)) ∧ Blk wr G 31 C ∧ Below w.heap.size w wr) (fun _ i _ => n - (intOf i).toNat)
  case atStart => exact ⟨0, Nat.zero_le _, rfl, hO5, hk5, hB5⟩
  case round =>
    clear hO5 hk5 hB5
    obtain ⟨j, hj, rfl, hO, hk, hB⟩ := hrel
    have c2 := e2.out wr G hk
    by_cases hlt : j < n
    · have hji : (j : Int) < (n : Int) := by omega
      obtain ⟨b, off, rfl, hp⟩ := (hTH.out.keep hB).get hlt
      have hJ := ints_range16 hp (hps.out j hlt)
      have hsC := fun w' => slice_all16 (P := Try.prog) (g := b) (off := off + j * 32) Try.underlying28 sizeU8s w'
      have hst := Lib.hid (hstep.out j)
      have hltH := Lib.hid hlt
      clear hlt hj hp
      go_wp2_with (at_builtin
                   refine wpList_append_ints rfl (.tmp 27) (.tmp 32) 26 rfl w.heap.size 5 i0 (.int .u8 0) 1 Try.underlying26 hi hz0 hz1 hz2 rfl rfl hO rfl hJ ?_ ?_ hB.size ?_
                   (have := hltH.out; have := hnH.out; unfold maxLen; omega)
                   (have := hltH.out; have := hnH.out; omega)
                   intro v6 w6 hO6 hg6
                   refine RowKit.Hid.out ?_)
      refine Lib.hid ?_
      have hk6 := hk.grown hg6 (owns_blk16 hO hk tp)
      have hB6 := hB.grown hg6 hB.size (fun q hq => (hO.lt q hq).1)
      rw [← List.map_append, List.append_assoc, ← hst.out] at hO6
      have hO7 : w6.ownsRow w.heap.size 5 1 v6 (65 + 32 * (j + 1)) ((bs ++ zs.take (32 * (j + 1))).map (Value.int .u8)) := hO6
      clear hO hk hB hJ hO6 hg6 c2
      go_wp2
      exact ⟨⟨j + 1, by have := hltH.out; omega, by congr 1, hO7, hk6, hB6⟩, by simp only [intOf]; have := hltH.out; omega⟩
    · obtain rfl : n = j := by omega
      have hji : ¬ (n : Int) < (n : Int) := by omega
      rw [← hMH.out.1, ← hMH.out.2] at hO
      clear hlt hj
      go_wp2
      go_ret
      obtain ⟨b, d, hv⟩ := own_slice32 hO
      subst hv
      rw [gH.out] at hO hB
      exact ⟨b, d, rfl, hO, hB⟩
end Go.Proofs.Ytaaflnmdaplfkaa

/-
  The document's own Few, Bytes and Encode of a record. New memory alone is written. Conditions: the fields' ranges, at most a hundred thousand ids and bytes. (Made by wip/tools/mk_kfbytes.py.)
-/
namespace Go.Proofs.Ytaaflnmdaplfkaa
open Go.RowKit

theorem own_made17 {w : World} {B : Nat} (x : Int) (hB : B ≤ w.heap.size) : (w.alloc (.cells #[.int .u8 x] 5)).ownsRow B 5 1 (.slice (some ⟨w.heap.size, 0, none⟩) 1 1) 1 (([x] : List Int).map (Value.int .u8)) :=
  ⟨rfl, .inr ⟨w.heap.size, 1, #[.int .u8 x], rfl, hB, heap_alloc_new w _, Nat.le_refl _, by unfold maxLen; decide, rfl, rfl⟩⟩

set_option maxRecDepth 100000 in
set_option maxHeartbeats 2000000 in
theorem r17Few_any (r : RecV) (a b : Option Addr) (c d : Nat) (w : World) (hr : RecOk r) :
    Calls Try.prog 6 #[.agg (rC r a c b d).toArray] w fun q w' => q = .returned (.bool (decide (r.m.blob.length ≤ 2000) && decide (r.b.n ≤ 100))) ∧ Below w.heap.size w w' := by
  obtain ⟨⟨K, S, Q, O, H, xs⟩, ⟨h, p, m, zs⟩⟩ := r
  obtain ⟨⟨_, _, _, hl, _, _⟩, ⟨hh, hp, _, _, _, _⟩⟩ := hr
  dsimp only at hl hh hp
  unfold rC
  dsimp only
  obtain ⟨n, hnx⟩ : ∃ n, xs.length = n := ⟨_, rfl⟩
  rw [hnx]
  clear hnx
  have hb := below1 w (.cells (rcC K S Q O H a n c h p b m d).toArray 33)
  have c5 := rc5 (Blk.new w 33 (rcC K S Q O H a n c h p b m d)) hl
  have c6 := rc6 (Blk.new w 33 (rcC K S Q O H a n c h p b m d)) hl
  have hUl := bkC_len (a := b) (n := m) (c := d) hh hp
  have hf := fun w' => r16Few_any h p b m d w' hh hp
  obtain ⟨U, hU⟩ : ∃ U, bkC h p b m d = U := ⟨_, rfl⟩
  rw [hU] at c6 hUl hf
  have hrU : IsRow Try.prog 31 U.length := rowBk_of hUl
  obtain ⟨C, hC⟩ : ∃ C, rcC K S Q O H a n c h p b m d = C := ⟨_, rfl⟩
  rw [hC] at hb c5 c6 ⊢
  obtain ⟨F, hF⟩ : ∃ F, decide (m ≤ 100) = F := ⟨_, rfl⟩
  rw [hF] at hf ⊢
  have hfH := Lib.hid hf
  clear hU hC hF hf
  by_cases hn : n ≤ 2000
  · have hni : (n : Int) ≤ 2000 := by omega
    rw [decide_eq_true hn, Bool.true_and]
    clear hn
    go_enter Try.func6, Try.ntmps6
    go_wp2_with (first
      | ((with_reducible refine box_row rfl 33 (.tmp 0) rfl C ?_ ?_); rfl)
      | ((with_reducible refine load_pif rfl 31 (.tmp 8) rfl ?_ U c6 hrU ?_); rfl))
    refine (hfH.out _).mono ?_
    rintro q w1 ⟨rfl, b1⟩
    go_wp2
    go_ret
    exact ⟨by first | rfl | simp, hb.trans (b1.mono hb.size)⟩
  · have hni : ¬ (n : Int) ≤ 2000 := by omega
    rw [decide_eq_false hn, Bool.false_and]
    clear hn
    go_enter Try.func6, Try.ntmps6
    go_wp2_with ((with_reducible refine box_row rfl 33 (.tmp 0) rfl C ?_ ?_); rfl)
    go_ret
    exact ⟨by first | rfl | simp, hb⟩

set_option maxRecDepth 100000 in
set_option maxHeartbeats 4000000 in
theorem r17Bytes_1 (S Q O : Int) (H xs h p : List Int) (m : Nat) (zs : List Int) (a b : Option Addr) (c d : Nat) (w : World) (hr : RecOk ⟨⟨1, S, Q, O, H, xs⟩, ⟨h, p, m, zs⟩⟩) (hI : RecAt w ⟨⟨1, S, Q, O, H, xs⟩, ⟨h, p, m, zs⟩⟩ a c b d) (hn : m ≤ 100000) (hx : xs.length ≤ 100000) :
    Calls Try.prog 22 #[.agg (rC ⟨⟨1, S, Q, O, H, xs⟩, ⟨h, p, m, zs⟩⟩ a c b d).toArray] w fun q w' => ∃ b' d', q = .returned (.slice b' (recB ⟨⟨1, S, Q, O, H, xs⟩, ⟨h, p, m, zs⟩⟩).length d') ∧ w'.ownsRow w.heap.size 5 1 (.slice b' (recB ⟨⟨1, S, Q, O, H, xs⟩, ⟨h, p, m, zs⟩⟩).length d') (recB ⟨⟨1, S, Q, O, H, xs⟩, ⟨h, p, m, zs⟩⟩).length ((recB ⟨⟨1, S, Q, O, H, xs⟩, ⟨h, p, m, zs⟩⟩).map (Value.int .u8)) ∧ Below w.heap.size w w' := by
  obtain ⟨⟨hs, hq, ho, hl, _, _⟩, ⟨hh, hp, hzl, _, _, _⟩⟩ := hr
  obtain ⟨hI, hT⟩ := hI
  dsimp only at hs hq ho hl hh hp hzl hI hT
  have hm := recB_1 S O Q H xs ⟨h, p, m, zs⟩
  try dsimp only at hm
  have hnU := hn
  clear hnU
  unfold rC
  dsimp only
  obtain ⟨n, hnx⟩ : ∃ n, xs.length = n := ⟨_, rfl⟩
  rw [hnx] at hI hx
  rw [hnx]
  obtain ⟨i0, hi, hz0, hz1, hz2⟩ := info_u8b
  have tp : 33 ≠ 5 := by decide
  have e0 := Lib.hid (fun w' g (k : Blk w' g 33 (rcC 1 S Q O H a n c h p b m d)) => rc0 k)
  have e1 := Lib.hid (fun w' g (k : Blk w' g 33 (rcC 1 S Q O H a n c h p b m d)) => rc1 k)
  have e2 := Lib.hid (fun w' g (k : Blk w' g 33 (rcC 1 S Q O H a n c h p b m d)) => rc2 k)
  have e3 := Lib.hid (fun w' g (k : Blk w' g 33 (rcC 1 S Q O H a n c h p b m d)) => rc3 k)
  have e4 := Lib.hid (fun w' g (k : Blk w' g 33 (rcC 1 S Q O H a n c h p b m d)) => ints_range16 (rc4 k) hl)
  have e5 := Lib.hid (fun w' g (k : Blk w' g 33 (rcC 1 S Q O H a n c h p b m d)) => rc5 k hl)
  have e6 := fun w' g (k : Blk w' g 33 (rcC 1 S Q O H a n c h p b m d)) => rc6 k hl
  have e7 := Lib.hid (fun w' g (k : Blk w' g 33 (rcC 1 S Q O H a n c h p b m d)) => ints_range16 (rc7 k hl) hh)
  obtain ⟨C, hC⟩ : ∃ C, rcC 1 S Q O H a n c h p b m d = C := ⟨_, rfl⟩
  rw [hC] at e0 e1 e2 e3 e4 e5 e6 e7
  rw [hC]
  have hb := below1 w (.cells C.toArray 33)
  have hk : Blk (w.alloc (.cells C.toArray 33)) w.heap.size 33 C := Blk.new w _ C
  obtain ⟨W, hW⟩ : ∃ V, w.alloc (.cells C.toArray 33) = V := ⟨_, rfl⟩
  rw [hW] at hb hk
  obtain ⟨G, g9⟩ : ∃ G, w.heap.size = G := ⟨_, rfl⟩
  rw [g9] at hk
  have gH := Lib.hid g9
  have c0 := e0.out W G hk
  have s64 : IntKind.u64.wrap S = S := by rw [IntKind.wrap_u64]; omega
  have q64 : IntKind.u64.wrap Q = Q := by rw [IntKind.wrap_u64]; omega
  have o8 : IntKind.u8.wrap O = O % 256 := IntKind.wrap_u8 O
  obtain ⟨M, hMM⟩ : ∃ M, recB ⟨⟨1, S, Q, O, H, xs⟩, ⟨h, p, m, zs⟩⟩ = M := ⟨_, rfl⟩
  rw [hMM] at hm
  rw [hMM]
  have hIH := Lib.hid (fun w' (k : Below w.heap.size w w') => hI.keep k)
  have hTH := Lib.hid (fun w' (k : Below w.heap.size w w') => hT.keep k)
  have hnH := Lib.hid hx
  obtain ⟨bs, hbs⟩ : ∃ bs, beL S 4 = bs := ⟨_, rfl⟩
  have hbl : bs.length = 4 := by rw [← hbs]; exact beL_len _ _
  obtain ⟨bq, hbq⟩ : ∃ bs, beL Q 4 = bs := ⟨_, rfl⟩
  have hbql : bq.length = 4 := by rw [← hbq]; exact beL_len _ _
  try rw [hbs] at hm
  try rw [hbq] at hm
  have hmH := Lib.hid hm
  clear hC hMM hm hI hT hnx hx
  obtain ⟨k8, hk8⟩ : ∃ k : Int, O % 256 = k := ⟨_, rfl⟩
  rw [hk8] at o8
  rw [hk8] at hmH
  go_enter Try.func22, Try.ntmps22
  go_wp2_with ((with_reducible refine box_row rfl 33 (.tmp 0) rfl C ?_ ?_); rfl; refine RowKit.Hid.out ?_)
  refine Lib.hid ?_
  clear hW g9
  have hk1 := hk.alloc (.cells #[.int .u8 1] 5)
  have hB1 := hb.alloc hb.size (.cells #[.int .u8 1] 5)
  have hO1 := own_made17 (w := W) (B := w.heap.size) (1) hb.size
  obtain ⟨w1, hw1⟩ : ∃ V, W.alloc (.cells #[.int .u8 1] 5) = V := ⟨_, rfl⟩
  rw [hw1] at hk1 hB1 hO1
  clear hk hb
  have c0' := e0.out w1 G hk1
  have c1 := e1.out w1 G hk1
  have hnum := rNumber_any (S) 4 w1 (by decide)
  have hnumH := Lib.hid hnum
  clear hnum
  go_wp2_with fail
  refine hnumH.out.mono ?_
  rintro q w1a ⟨nb, nc, rfl, ho3, b3⟩
  have hO1a := own_stay9 hO1 b3
  have hk1a := hk1.keep b3 hk1.lt
  have hB1a := hB1.trans (b3.mono hB1.size)
  obtain ⟨nb', nc', hv', hnI⟩ := Ints.of_owns ho3
  injection hv' with e5 _ e6
  subst e5; subst e6
  clear hnumH b3 ho3 hk1 hO1 hB1
  rw [hbs] at hnI
  go_wp2_with (at_builtin; refine wpList_append_ints rfl (.tmp 12) (.tmp 16) 26 rfl w.heap.size 5 i0 (.int .u8 0) 1 Try.underlying26 hi hz0 hz1 hz2 rfl rfl hO1a rfl hnI ?_ ?_ hB1a.size ?_; (skip; unfold maxLen; omega); (skip; omega); intro v2 w2 hO2 hg2; refine RowKit.Hid.out ?_)
  refine Lib.hid ?_
  rw [← List.map_append] at hO2
  have hk2 := hk1a.grown hg2 (owns_blk16 hO1a hk1a tp)
  have hB2 := hB1a.grown hg2 hB1a.size (fun q hq => (hO1a.lt q hq).1)
  clear hk1a hB1a hO1a hg2 hnI
  have c3 := e3.out w2 G hk2
  have hkn := Blk.new w2 5 [.int .u8 k8]
  have hk3 := hk2.alloc (.cells #[.int .u8 k8] 5)
  have hB3 := hB2.alloc hB2.size (.cells #[.int .u8 k8] 5)
  have hO3 := hO2.alloc (.cells #[.int .u8 k8] 5)
  have I3 : Ints .u8 (w2.alloc (.cells #[.int .u8 k8] 5)) (some ⟨w2.heap.size, 0, none⟩) 1 1 [k8] := ints_range16 (X := [k8]) (hkn.range 0 _ (fun j v hj => by rw [Nat.zero_add]; exact hj)) rfl
  clear hk2 hB2 hO2 hkn c1 hk8
  go_wp2_with (at_builtin; refine wpList_append_ints rfl (.tmp 18) (.tmp 22) 26 rfl w.heap.size 5 i0 (.int .u8 0) 1 Try.underlying26 hi hz0 hz1 hz2 rfl rfl hO3 rfl I3 ?_ ?_ hB3.size ?_; (skip; unfold maxLen; omega); (skip; omega); intro v4 w4 hO4 hg4; refine RowKit.Hid.out ?_)
  refine Lib.hid ?_
  rw [← List.map_append] at hO4
  have hk4 := hk3.grown hg4 (owns_blk16 hO3 hk3 tp)
  have hB4 := hB3.grown hg4 hB3.size (fun q hq => (hO3.lt q hq).1)
  clear hk3 hB3 hO3 hg4 I3
  have hO9 : w4.ownsRow w.heap.size 5 1 v4 M.length (M.map (Value.int .u8)) := by
    rw [List.append_assoc] at hO4
    have hlen := hO4.1
    rw [hmH.out]
    rw [List.length_map, Nat.mul_one] at hlen
    try rw [List.singleton_append] at hO4 hlen
    rw [hlen]
    exact hO4
  have hB9 := hB4
  clear hO4 hB4 hk4
  go_wp2
  go_ret
  obtain ⟨b, d, hv⟩ := own_slice32 hO9
  subst hv
  exact ⟨b, d, rfl, hO9, hB9⟩

set_option maxRecDepth 100000 in
set_option maxHeartbeats 4000000 in
theorem r17Bytes_2 (S Q O : Int) (H xs h p : List Int) (m : Nat) (zs : List Int) (a b : Option Addr) (c d : Nat) (w : World) (hr : RecOk ⟨⟨2, S, Q, O, H, xs⟩, ⟨h, p, m, zs⟩⟩) (hI : RecAt w ⟨⟨2, S, Q, O, H, xs⟩, ⟨h, p, m, zs⟩⟩ a c b d) (hn : m ≤ 100000) (hx : xs.length ≤ 100000) :
    Calls Try.prog 22 #[.agg (rC ⟨⟨2, S, Q, O, H, xs⟩, ⟨h, p, m, zs⟩⟩ a c b d).toArray] w fun q w' => ∃ b' d', q = .returned (.slice b' (recB ⟨⟨2, S, Q, O, H, xs⟩, ⟨h, p, m, zs⟩⟩).length d') ∧ w'.ownsRow w.heap.size 5 1 (.slice b' (recB ⟨⟨2, S, Q, O, H, xs⟩, ⟨h, p, m, zs⟩⟩).length d') (recB ⟨⟨2, S, Q, O, H, xs⟩, ⟨h, p, m, zs⟩⟩).length ((recB ⟨⟨2, S, Q, O, H, xs⟩, ⟨h, p, m, zs⟩⟩).map (Value.int .u8)) ∧ Below w.heap.size w w' := by
  obtain ⟨⟨hs, hq, ho, hl, _, _⟩, ⟨hh, hp, hzl, _, _, _⟩⟩ := hr
  obtain ⟨hI, hT⟩ := hI
  dsimp only at hs hq ho hl hh hp hzl hI hT
  have hm := recB_2 S O Q H xs ⟨h, p, m, zs⟩
  try dsimp only at hm
  have hnU := hn
  clear hnU
  unfold rC
  dsimp only
  obtain ⟨n, hnx⟩ : ∃ n, xs.length = n := ⟨_, rfl⟩
  rw [hnx] at hI hx
  rw [hnx]
  obtain ⟨i0, hi, hz0, hz1, hz2⟩ := info_u8b
  have tp : 33 ≠ 5 := by decide
  have e0 := Lib.hid (fun w' g (k : Blk w' g 33 (rcC 2 S Q O H a n c h p b m d)) => rc0 k)
  have e1 := Lib.hid (fun w' g (k : Blk w' g 33 (rcC 2 S Q O H a n c h p b m d)) => rc1 k)
  have e2 := Lib.hid (fun w' g (k : Blk w' g 33 (rcC 2 S Q O H a n c h p b m d)) => rc2 k)
  have e3 := Lib.hid (fun w' g (k : Blk w' g 33 (rcC 2 S Q O H a n c h p b m d)) => rc3 k)
  have e4 := Lib.hid (fun w' g (k : Blk w' g 33 (rcC 2 S Q O H a n c h p b m d)) => ints_range16 (rc4 k) hl)
  have e5 := Lib.hid (fun w' g (k : Blk w' g 33 (rcC 2 S Q O H a n c h p b m d)) => rc5 k hl)
  have e6 := fun w' g (k : Blk w' g 33 (rcC 2 S Q O H a n c h p b m d)) => rc6 k hl
  have e7 := Lib.hid (fun w' g (k : Blk w' g 33 (rcC 2 S Q O H a n c h p b m d)) => ints_range16 (rc7 k hl) hh)
  obtain ⟨C, hC⟩ : ∃ C, rcC 2 S Q O H a n c h p b m d = C := ⟨_, rfl⟩
  rw [hC] at e0 e1 e2 e3 e4 e5 e6 e7
  rw [hC]
  have hb := below1 w (.cells C.toArray 33)
  have hk : Blk (w.alloc (.cells C.toArray 33)) w.heap.size 33 C := Blk.new w _ C
  obtain ⟨W, hW⟩ : ∃ V, w.alloc (.cells C.toArray 33) = V := ⟨_, rfl⟩
  rw [hW] at hb hk
  obtain ⟨G, g9⟩ : ∃ G, w.heap.size = G := ⟨_, rfl⟩
  rw [g9] at hk
  have gH := Lib.hid g9
  have c0 := e0.out W G hk
  have s64 : IntKind.u64.wrap S = S := by rw [IntKind.wrap_u64]; omega
  have q64 : IntKind.u64.wrap Q = Q := by rw [IntKind.wrap_u64]; omega
  have o8 : IntKind.u8.wrap O = O % 256 := IntKind.wrap_u8 O
  obtain ⟨M, hMM⟩ : ∃ M, recB ⟨⟨2, S, Q, O, H, xs⟩, ⟨h, p, m, zs⟩⟩ = M := ⟨_, rfl⟩
  rw [hMM] at hm
  rw [hMM]
  have hIH := Lib.hid (fun w' (k : Below w.heap.size w w') => hI.keep k)
  have hTH := Lib.hid (fun w' (k : Below w.heap.size w w') => hT.keep k)
  have hnH := Lib.hid hx
  obtain ⟨bs, hbs⟩ : ∃ bs, beL S 4 = bs := ⟨_, rfl⟩
  have hbl : bs.length = 4 := by rw [← hbs]; exact beL_len _ _
  obtain ⟨bq, hbq⟩ : ∃ bs, beL Q 4 = bs := ⟨_, rfl⟩
  have hbql : bq.length = 4 := by rw [← hbq]; exact beL_len _ _
  try rw [hbs] at hm
  try rw [hbq] at hm
  have hmH := Lib.hid hm
  clear hC hMM hm hI hT hnx hx
  have hsA := fun w' => slice_all16 (P := Try.prog) (g := G) (off := 4) Try.underlying25 sizeU8s w'
  go_enter Try.func22, Try.ntmps22
  go_wp2_with ((with_reducible refine box_row rfl 33 (.tmp 0) rfl C ?_ ?_); rfl; refine RowKit.Hid.out ?_)
  refine Lib.hid ?_
  clear hW g9
  have hk1 := hk.alloc (.cells #[.int .u8 2] 5)
  have hB1 := hb.alloc hb.size (.cells #[.int .u8 2] 5)
  have hO1 := own_made17 (w := W) (B := w.heap.size) (2) hb.size
  obtain ⟨w1, hw1⟩ : ∃ V, W.alloc (.cells #[.int .u8 2] 5) = V := ⟨_, rfl⟩
  rw [hw1] at hk1 hB1 hO1
  clear hk hb
  have c0' := e0.out w1 G hk1
  have c1 := e1.out w1 G hk1
  have hnum := rNumber_any (S) 4 w1 (by decide)
  have hnumH := Lib.hid hnum
  clear hnum
  go_wp2_with fail
  refine hnumH.out.mono ?_
  rintro q w1a ⟨nb, nc, rfl, ho3, b3⟩
  have hO1a := own_stay9 hO1 b3
  have hk1a := hk1.keep b3 hk1.lt
  have hB1a := hB1.trans (b3.mono hB1.size)
  obtain ⟨nb', nc', hv', hnI⟩ := Ints.of_owns ho3
  injection hv' with e5 _ e6
  subst e5; subst e6
  clear hnumH b3 ho3 hk1 hO1 hB1
  rw [hbs] at hnI
  go_wp2_with (at_builtin; refine wpList_append_ints rfl (.tmp 26) (.tmp 30) 26 rfl w.heap.size 5 i0 (.int .u8 0) 1 Try.underlying26 hi hz0 hz1 hz2 rfl rfl hO1a rfl hnI ?_ ?_ hB1a.size ?_; (skip; unfold maxLen; omega); (skip; omega); intro v2 w2 hO2 hg2; refine RowKit.Hid.out ?_)
  refine Lib.hid ?_
  rw [← List.map_append] at hO2
  have hk2 := hk1a.grown hg2 (owns_blk16 hO1a hk1a tp)
  have hB2 := hB1a.grown hg2 hB1a.size (fun q hq => (hO1a.lt q hq).1)
  clear hk1a hB1a hO1a hg2 hnI
  have c2 := e2.out w2 G hk2
  have hnum := rNumber_any (Q) 4 w2 (by decide)
  have hnumH := Lib.hid hnum
  clear hnum
  go_wp2_with fail
  refine hnumH.out.mono ?_
  rintro q w2a ⟨nb, nc, rfl, ho3, b3⟩
  have hO2a := own_stay9 hO2 b3
  have hk2a := hk2.keep b3 hk2.lt
  have hB2a := hB2.trans (b3.mono hB2.size)
  obtain ⟨nb', nc', hv', hnI⟩ := Ints.of_owns ho3
  injection hv' with e5 _ e6
  subst e5; subst e6
  clear hnumH b3 ho3 hk2 hO2 hB2
  rw [hbq] at hnI
  go_wp2_with (at_builtin; refine wpList_append_ints rfl (.tmp 32) (.tmp 36) 26 rfl w.heap.size 5 i0 (.int .u8 0) 1 Try.underlying26 hi hz0 hz1 hz2 rfl rfl hO2a rfl hnI ?_ ?_ hB2a.size ?_; (skip; unfold maxLen; omega); (skip; omega); intro v3 w3 hO3 hg3; refine RowKit.Hid.out ?_)
  refine Lib.hid ?_
  rw [← List.map_append] at hO3
  have hk3 := hk2a.grown hg3 (owns_blk16 hO2a hk2a tp)
  have hB3 := hB2a.grown hg3 hB2a.size (fun q hq => (hO2a.lt q hq).1)
  clear hk2a hB2a hO2a hg3 hnI
  have hHI := e4.out w3 G hk3
  go_wp2_with (at_builtin; refine wpList_append_ints rfl (.tmp 38) (.tmp 40) 26 rfl w.heap.size 5 i0 (.int .u8 0) 1 Try.underlying26 hi hz0 hz1 hz2 rfl rfl hO3 rfl hHI ?_ ?_ hB3.size ?_; (skip; unfold maxLen; omega); (skip; omega); intro v4 w4 hO4 hg4; refine RowKit.Hid.out ?_)
  refine Lib.hid ?_
  rw [← List.map_append] at hO4
  have hk4 := hk3.grown hg4 (owns_blk16 hO3 hk3 tp)
  have hB4 := hB3.grown hg4 hB3.size (fun q hq => (hO3.lt q hq).1)
  clear hk3 hB3 hO3 hg4 hHI
  have c5 := e5.out w4 G hk4
  have hxI := hIH.out w4 hB4
  go_wp2_with (at_builtin; refine wpList_append_ints rfl (.tmp 42) (.tmp 44) 26 rfl w.heap.size 5 i0 (.int .u8 0) 1 Try.underlying26 hi hz0 hz1 hz2 rfl rfl hO4 rfl hxI ?_ ?_ hB4.size ?_; (have := hnH.out; unfold maxLen; omega); (have := hnH.out; omega); intro v5 w5 hO5 hg5; refine RowKit.Hid.out ?_)
  refine Lib.hid ?_
  rw [← List.map_append] at hO5
  have hk5 := hk4.grown hg5 (owns_blk16 hO4 hk4 tp)
  have hB5 := hB4.grown hg5 hB4.size (fun q hq => (hO4.lt q hq).1)
  clear hk4 hB4 hO4 hg5 hxI
  have hO9 : w5.ownsRow w.heap.size 5 1 v5 M.length (M.map (Value.int .u8)) := by
    rw [List.append_assoc, List.append_assoc, List.append_assoc] at hO5
    have hlen := hO5.1
    rw [hmH.out]
    rw [List.length_map, Nat.mul_one] at hlen
    try rw [List.singleton_append] at hO5 hlen
    rw [hlen]
    exact hO5
  have hB9 := hB5
  clear hO5 hB5 hk5
  go_wp2
  go_ret
  obtain ⟨b, d, hv⟩ := own_slice32 hO9
  subst hv
  exact ⟨b, d, rfl, hO9, hB9⟩

set_option maxRecDepth 100000 in
set_option maxHeartbeats 4000000 in
theorem r17Bytes_4 (S Q O : Int) (H xs h p : List Int) (m : Nat) (zs : List Int) (a b : Option Addr) (c d : Nat) (w : World) (hr : RecOk ⟨⟨4, S, Q, O, H, xs⟩, ⟨h, p, m, zs⟩⟩) (hI : RecAt w ⟨⟨4, S, Q, O, H, xs⟩, ⟨h, p, m, zs⟩⟩ a c b d) (hn : m ≤ 100000) (hx : xs.length ≤ 100000) :
    Calls Try.prog 22 #[.agg (rC ⟨⟨4, S, Q, O, H, xs⟩, ⟨h, p, m, zs⟩⟩ a c b d).toArray] w fun q w' => ∃ b' d', q = .returned (.slice b' (recB ⟨⟨4, S, Q, O, H, xs⟩, ⟨h, p, m, zs⟩⟩).length d') ∧ w'.ownsRow w.heap.size 5 1 (.slice b' (recB ⟨⟨4, S, Q, O, H, xs⟩, ⟨h, p, m, zs⟩⟩).length d') (recB ⟨⟨4, S, Q, O, H, xs⟩, ⟨h, p, m, zs⟩⟩).length ((recB ⟨⟨4, S, Q, O, H, xs⟩, ⟨h, p, m, zs⟩⟩).map (Value.int .u8)) ∧ Below w.heap.size w w' := by
  obtain ⟨⟨hs, hq, ho, hl, _, _⟩, ⟨hh, hp, hzl, _, _, _⟩⟩ := hr
  obtain ⟨hI, hT⟩ := hI
  dsimp only at hs hq ho hl hh hp hzl hI hT
  have hm := recB_4 S O Q H xs ⟨h, p, m, zs⟩
  try dsimp only at hm
  have hnU := hn
  clear hnU
  unfold rC
  dsimp only
  obtain ⟨n, hnx⟩ : ∃ n, xs.length = n := ⟨_, rfl⟩
  rw [hnx] at hI hx
  rw [hnx]
  obtain ⟨i0, hi, hz0, hz1, hz2⟩ := info_u8b
  have tp : 33 ≠ 5 := by decide
  have e0 := Lib.hid (fun w' g (k : Blk w' g 33 (rcC 4 S Q O H a n c h p b m d)) => rc0 k)
  have e1 := Lib.hid (fun w' g (k : Blk w' g 33 (rcC 4 S Q O H a n c h p b m d)) => rc1 k)
  have e2 := Lib.hid (fun w' g (k : Blk w' g 33 (rcC 4 S Q O H a n c h p b m d)) => rc2 k)
  have e3 := Lib.hid (fun w' g (k : Blk w' g 33 (rcC 4 S Q O H a n c h p b m d)) => rc3 k)
  have e4 := Lib.hid (fun w' g (k : Blk w' g 33 (rcC 4 S Q O H a n c h p b m d)) => ints_range16 (rc4 k) hl)
  have e5 := Lib.hid (fun w' g (k : Blk w' g 33 (rcC 4 S Q O H a n c h p b m d)) => rc5 k hl)
  have e6 := fun w' g (k : Blk w' g 33 (rcC 4 S Q O H a n c h p b m d)) => rc6 k hl
  have e7 := Lib.hid (fun w' g (k : Blk w' g 33 (rcC 4 S Q O H a n c h p b m d)) => ints_range16 (rc7 k hl) hh)
  obtain ⟨C, hC⟩ : ∃ C, rcC 4 S Q O H a n c h p b m d = C := ⟨_, rfl⟩
  rw [hC] at e0 e1 e2 e3 e4 e5 e6 e7
  rw [hC]
  have hb := below1 w (.cells C.toArray 33)
  have hk : Blk (w.alloc (.cells C.toArray 33)) w.heap.size 33 C := Blk.new w _ C
  obtain ⟨W, hW⟩ : ∃ V, w.alloc (.cells C.toArray 33) = V := ⟨_, rfl⟩
  rw [hW] at hb hk
  obtain ⟨G, g9⟩ : ∃ G, w.heap.size = G := ⟨_, rfl⟩
  rw [g9] at hk
  have gH := Lib.hid g9
  have c0 := e0.out W G hk
  have s64 : IntKind.u64.wrap S = S := by rw [IntKind.wrap_u64]; omega
  have q64 : IntKind.u64.wrap Q = Q := by rw [IntKind.wrap_u64]; omega
  have o8 : IntKind.u8.wrap O = O % 256 := IntKind.wrap_u8 O
  obtain ⟨M, hMM⟩ : ∃ M, recB ⟨⟨4, S, Q, O, H, xs⟩, ⟨h, p, m, zs⟩⟩ = M := ⟨_, rfl⟩
  rw [hMM] at hm
  rw [hMM]
  have hIH := Lib.hid (fun w' (k : Below w.heap.size w w') => hI.keep k)
  have hTH := Lib.hid (fun w' (k : Below w.heap.size w w') => hT.keep k)
  have hnH := Lib.hid hx
  obtain ⟨bs, hbs⟩ : ∃ bs, beL S 4 = bs := ⟨_, rfl⟩
  have hbl : bs.length = 4 := by rw [← hbs]; exact beL_len _ _
  obtain ⟨bq, hbq⟩ : ∃ bs, beL Q 4 = bs := ⟨_, rfl⟩
  have hbql : bq.length = 4 := by rw [← hbq]; exact beL_len _ _
  try rw [hbs] at hm
  try rw [hbq] at hm
  have hmH := Lib.hid hm
  clear hC hMM hm hI hT hnx hx
  go_enter Try.func22, Try.ntmps22
  go_wp2_with ((with_reducible refine box_row rfl 33 (.tmp 0) rfl C ?_ ?_); rfl; refine RowKit.Hid.out ?_)
  refine Lib.hid ?_
  clear hW g9
  have hk1 := hk.alloc (.cells #[.int .u8 4] 5)
  have hB1 := hb.alloc hb.size (.cells #[.int .u8 4] 5)
  have hO1 := own_made17 (w := W) (B := w.heap.size) (4) hb.size
  obtain ⟨w1, hw1⟩ : ∃ V, W.alloc (.cells #[.int .u8 4] 5) = V := ⟨_, rfl⟩
  rw [hw1] at hk1 hB1 hO1
  clear hk hb
  have c0' := e0.out w1 G hk1
  have c1 := e1.out w1 G hk1
  have hnum := rNumber_any (S) 4 w1 (by decide)
  have hnumH := Lib.hid hnum
  clear hnum
  go_wp2_with fail
  refine hnumH.out.mono ?_
  rintro q w1a ⟨nb, nc, rfl, ho3, b3⟩
  have hO1a := own_stay9 hO1 b3
  have hk1a := hk1.keep b3 hk1.lt
  have hB1a := hB1.trans (b3.mono hB1.size)
  obtain ⟨nb', nc', hv', hnI⟩ := Ints.of_owns ho3
  injection hv' with e5 _ e6
  subst e5; subst e6
  clear hnumH b3 ho3 hk1 hO1 hB1
  rw [hbs] at hnI
  go_wp2_with (at_builtin; refine wpList_append_ints rfl (.tmp 48) (.tmp 52) 26 rfl w.heap.size 5 i0 (.int .u8 0) 1 Try.underlying26 hi hz0 hz1 hz2 rfl rfl hO1a rfl hnI ?_ ?_ hB1a.size ?_; (skip; unfold maxLen; omega); (skip; omega); intro v2 w2 hO2 hg2; refine RowKit.Hid.out ?_)
  refine Lib.hid ?_
  rw [← List.map_append] at hO2
  have hk2 := hk1a.grown hg2 (owns_blk16 hO1a hk1a tp)
  have hB2 := hB1a.grown hg2 hB1a.size (fun q hq => (hO1a.lt q hq).1)
  clear hk1a hB1a hO1a hg2 hnI
  have hO9 : w2.ownsRow w.heap.size 5 1 v2 M.length (M.map (Value.int .u8)) := by
    have hlen := hO2.1
    rw [hmH.out]
    rw [List.length_map, Nat.mul_one] at hlen
    try rw [List.singleton_append] at hO2 hlen
    rw [hlen]
    exact hO2
  have hB9 := hB2
  clear hO2 hB2 hk2
  go_wp2
  go_ret
  obtain ⟨b, d, hv⟩ := own_slice32 hO9
  subst hv
  exact ⟨b, d, rfl, hO9, hB9⟩

set_option maxRecDepth 100000 in
set_option maxHeartbeats 4000000 in
theorem r17Bytes_5 (S Q O : Int) (H xs h p : List Int) (m : Nat) (zs : List Int) (a b : Option Addr) (c d : Nat) (w : World) (hr : RecOk ⟨⟨5, S, Q, O, H, xs⟩, ⟨h, p, m, zs⟩⟩) (hI : RecAt w ⟨⟨5, S, Q, O, H, xs⟩, ⟨h, p, m, zs⟩⟩ a c b d) (hn : m ≤ 100000) (hx : xs.length ≤ 100000) :
    Calls Try.prog 22 #[.agg (rC ⟨⟨5, S, Q, O, H, xs⟩, ⟨h, p, m, zs⟩⟩ a c b d).toArray] w fun q w' => ∃ b' d', q = .returned (.slice b' (recB ⟨⟨5, S, Q, O, H, xs⟩, ⟨h, p, m, zs⟩⟩).length d') ∧ w'.ownsRow w.heap.size 5 1 (.slice b' (recB ⟨⟨5, S, Q, O, H, xs⟩, ⟨h, p, m, zs⟩⟩).length d') (recB ⟨⟨5, S, Q, O, H, xs⟩, ⟨h, p, m, zs⟩⟩).length ((recB ⟨⟨5, S, Q, O, H, xs⟩, ⟨h, p, m, zs⟩⟩).map (Value.int .u8)) ∧ Below w.heap.size w w' := by
  obtain ⟨⟨hs, hq, ho, hl, _, _⟩, ⟨hh, hp, hzl, _, _, _⟩⟩ := hr
  obtain ⟨hI, hT⟩ := hI
  dsimp only at hs hq ho hl hh hp hzl hI hT
  have hm := recB_5 S O Q H xs ⟨h, p, m, zs⟩
  try dsimp only at hm
  have hnU := hn
  clear hnU
  unfold rC
  dsimp only
  obtain ⟨n, hnx⟩ : ∃ n, xs.length = n := ⟨_, rfl⟩
  rw [hnx] at hI hx
  rw [hnx]
  obtain ⟨i0, hi, hz0, hz1, hz2⟩ := info_u8b
  have tp : 33 ≠ 5 := by decide
  have e0 := Lib.hid (fun w' g (k : Blk w' g 33 (rcC 5 S Q O H a n c h p b m d)) => rc0 k)
  have e1 := Lib.hid (fun w' g (k : Blk w' g 33 (rcC 5 S Q O H a n c h p b m d)) => rc1 k)
  have e2 := Lib.hid (fun w' g (k : Blk w' g 33 (rcC 5 S Q O H a n c h p b m d)) => rc2 k)
  have e3 := Lib.hid (fun w' g (k : Blk w' g 33 (rcC 5 S Q O H a n c h p b m d)) => rc3 k)
  have e4 := Lib.hid (fun w' g (k : Blk w' g 33 (rcC 5 S Q O H a n c h p b m d)) => ints_range16 (rc4 k) hl)
  have e5 := Lib.hid (fun w' g (k : Blk w' g 33 (rcC 5 S Q O H a n c h p b m d)) => rc5 k hl)
  have e6 := fun w' g (k : Blk w' g 33 (rcC 5 S Q O H a n c h p b m d)) => rc6 k hl
  have e7 := Lib.hid (fun w' g (k : Blk w' g 33 (rcC 5 S Q O H a n c h p b m d)) => ints_range16 (rc7 k hl) hh)
  obtain ⟨C, hC⟩ : ∃ C, rcC 5 S Q O H a n c h p b m d = C := ⟨_, rfl⟩
  rw [hC] at e0 e1 e2 e3 e4 e5 e6 e7
  rw [hC]
  have hb := below1 w (.cells C.toArray 33)
  have hk : Blk (w.alloc (.cells C.toArray 33)) w.heap.size 33 C := Blk.new w _ C
  obtain ⟨W, hW⟩ : ∃ V, w.alloc (.cells C.toArray 33) = V := ⟨_, rfl⟩
  rw [hW] at hb hk
  obtain ⟨G, g9⟩ : ∃ G, w.heap.size = G := ⟨_, rfl⟩
  rw [g9] at hk
  have gH := Lib.hid g9
  have c0 := e0.out W G hk
  have s64 : IntKind.u64.wrap S = S := by rw [IntKind.wrap_u64]; omega
  have q64 : IntKind.u64.wrap Q = Q := by rw [IntKind.wrap_u64]; omega
  have o8 : IntKind.u8.wrap O = O % 256 := IntKind.wrap_u8 O
  obtain ⟨M, hMM⟩ : ∃ M, recB ⟨⟨5, S, Q, O, H, xs⟩, ⟨h, p, m, zs⟩⟩ = M := ⟨_, rfl⟩
  rw [hMM] at hm
  rw [hMM]
  have hIH := Lib.hid (fun w' (k : Below w.heap.size w w') => hI.keep k)
  have hTH := Lib.hid (fun w' (k : Below w.heap.size w w') => hT.keep k)
  have hnH := Lib.hid hx
  obtain ⟨bs, hbs⟩ : ∃ bs, beL S 4 = bs := ⟨_, rfl⟩
  have hbl : bs.length = 4 := by rw [← hbs]; exact beL_len _ _
  obtain ⟨bq, hbq⟩ : ∃ bs, beL Q 4 = bs := ⟨_, rfl⟩
  have hbql : bq.length = 4 := by rw [← hbq]; exact beL_len _ _
  try rw [hbs] at hm
  try rw [hbq] at hm
  have hmH := Lib.hid hm
  clear hC hMM hm hI hT hnx hx
  have hUl := bkC_len (a := b) (n := m) (c := d) hh hp
  have hby := fun w' (k : Below w.heap.size w w') => r16Bytes_any h p b m d zs w' hh hp (hTH.out w' k) hn
  obtain ⟨U, hU⟩ : ∃ U, bkC h p b m d = U := ⟨_, rfl⟩
  obtain ⟨bb, hbb⟩ : ∃ U, blkB ⟨h, p, m, zs⟩ = U := ⟨_, rfl⟩
  have hbbl := Lib.hid (show bb.length ≤ 4000000 by rw [← hbb]; unfold blkB; dsimp only; rw [List.length_append, List.length_append, List.length_cons, hh, hp, hzl]; omega)
  rw [hU] at e6 hUl hby
  rw [hbb] at hby
  rw [hbb] at hmH
  have hrU : IsRow Try.prog 31 U.length := rowBk_of hUl
  have e6 := Lib.hid e6
  have hbyH := Lib.hid hby
  clear hU hbb hby
  go_enter Try.func22, Try.ntmps22
  go_wp2_with ((with_reducible refine box_row rfl 33 (.tmp 0) rfl C ?_ ?_); rfl; refine RowKit.Hid.out ?_)
  refine Lib.hid ?_
  clear hW g9
  have hk1 := hk.alloc (.cells #[.int .u8 5] 5)
  have hB1 := hb.alloc hb.size (.cells #[.int .u8 5] 5)
  have hO1 := own_made17 (w := W) (B := w.heap.size) (5) hb.size
  obtain ⟨w1, hw1⟩ : ∃ V, W.alloc (.cells #[.int .u8 5] 5) = V := ⟨_, rfl⟩
  rw [hw1] at hk1 hB1 hO1
  clear hk hb
  have c0' := e0.out w1 G hk1
  have c6 := e6.out w1 G hk1
  go_wp2_with ((with_reducible refine wpList_load_part rfl 31 (.tmp 57) rfl ?_ U c6 hrU ?_); rfl)
  refine (hbyH.out w1 hB1).mono ?_
  rintro q w1a ⟨nb, nc, rfl, ho3, b3⟩
  have hO1a := own_stay9 hO1 b3
  have hk1a := hk1.keep b3 hk1.lt
  have hB1a := hB1.trans (b3.mono hB1.size)
  obtain ⟨nb', nc', hv', hnI⟩ := Ints.of_owns ho3
  injection hv' with e5' _ e6'
  subst e5'; subst e6'
  clear hbyH b3 ho3 hk1 hO1 hB1 c6
  go_wp2_with (at_builtin; refine wpList_append_ints rfl (.tmp 56) (.tmp 59) 26 rfl w.heap.size 5 i0 (.int .u8 0) 1 Try.underlying26 hi hz0 hz1 hz2 rfl rfl hO1a rfl hnI ?_ ?_ hB1a.size ?_; (have := hbbl.out; unfold maxLen; omega); (have := hbbl.out; omega); intro v2 w2 hO2 hg2; refine RowKit.Hid.out ?_)
  refine Lib.hid ?_
  rw [← List.map_append] at hO2
  have hk2 := hk1a.grown hg2 (owns_blk16 hO1a hk1a tp)
  have hB2 := hB1a.grown hg2 hB1a.size (fun q hq => (hO1a.lt q hq).1)
  clear hk1a hB1a hO1a hg2 hnI
  have hO9 : w2.ownsRow w.heap.size 5 1 v2 M.length (M.map (Value.int .u8)) := by
    have hlen := hO2.1
    rw [hmH.out]
    rw [List.length_map, Nat.mul_one] at hlen
    try rw [List.singleton_append] at hO2 hlen
    rw [hlen]
    exact hO2
  have hB9 := hB2
  clear hO2 hB2 hk2
  go_wp2
  go_ret
  obtain ⟨b, d, hv⟩ := own_slice32 hO9
  subst hv
  exact ⟨b, d, rfl, hO9, hB9⟩

set_option maxRecDepth 100000 in
set_option maxHeartbeats 4000000 in
theorem r17Bytes_6 (S Q O : Int) (H xs h p : List Int) (m : Nat) (zs : List Int) (a b : Option Addr) (c d : Nat) (w : World) (hr : RecOk ⟨⟨6, S, Q, O, H, xs⟩, ⟨h, p, m, zs⟩⟩) (hI : RecAt w ⟨⟨6, S, Q, O, H, xs⟩, ⟨h, p, m, zs⟩⟩ a c b d) (hn : m ≤ 100000) (hx : xs.length ≤ 100000) :
    Calls Try.prog 22 #[.agg (rC ⟨⟨6, S, Q, O, H, xs⟩, ⟨h, p, m, zs⟩⟩ a c b d).toArray] w fun q w' => ∃ b' d', q = .returned (.slice b' (recB ⟨⟨6, S, Q, O, H, xs⟩, ⟨h, p, m, zs⟩⟩).length d') ∧ w'.ownsRow w.heap.size 5 1 (.slice b' (recB ⟨⟨6, S, Q, O, H, xs⟩, ⟨h, p, m, zs⟩⟩).length d') (recB ⟨⟨6, S, Q, O, H, xs⟩, ⟨h, p, m, zs⟩⟩).length ((recB ⟨⟨6, S, Q, O, H, xs⟩, ⟨h, p, m, zs⟩⟩).map (Value.int .u8)) ∧ Below w.heap.size w w' := by
  obtain ⟨⟨hs, hq, ho, hl, _, _⟩, ⟨hh, hp, hzl, _, _, _⟩⟩ := hr
  obtain ⟨hI, hT⟩ := hI
  dsimp only at hs hq ho hl hh hp hzl hI hT
  have hm := recB_6 S O Q H xs ⟨h, p, m, zs⟩
  try dsimp only at hm
  have hnU := hn
  clear hnU
  unfold rC
  dsimp only
  obtain ⟨n, hnx⟩ : ∃ n, xs.length = n := ⟨_, rfl⟩
  rw [hnx] at hI hx
  rw [hnx]
  obtain ⟨i0, hi, hz0, hz1, hz2⟩ := info_u8b
  have tp : 33 ≠ 5 := by decide
  have e0 := Lib.hid (fun w' g (k : Blk w' g 33 (rcC 6 S Q O H a n c h p b m d)) => rc0 k)
  have e1 := Lib.hid (fun w' g (k : Blk w' g 33 (rcC 6 S Q O H a n c h p b m d)) => rc1 k)
  have e2 := Lib.hid (fun w' g (k : Blk w' g 33 (rcC 6 S Q O H a n c h p b m d)) => rc2 k)
  have e3 := Lib.hid (fun w' g (k : Blk w' g 33 (rcC 6 S Q O H a n c h p b m d)) => rc3 k)
  have e4 := Lib.hid (fun w' g (k : Blk w' g 33 (rcC 6 S Q O H a n c h p b m d)) => ints_range16 (rc4 k) hl)
  have e5 := Lib.hid (fun w' g (k : Blk w' g 33 (rcC 6 S Q O H a n c h p b m d)) => rc5 k hl)
  have e6 := fun w' g (k : Blk w' g 33 (rcC 6 S Q O H a n c h p b m d)) => rc6 k hl
  have e7 := Lib.hid (fun w' g (k : Blk w' g 33 (rcC 6 S Q O H a n c h p b m d)) => ints_range16 (rc7 k hl) hh)
  obtain ⟨C, hC⟩ : ∃ C, rcC 6 S Q O H a n c h p b m d = C := ⟨_, rfl⟩
  rw [hC] at e0 e1 e2 e3 e4 e5 e6 e7
  rw [hC]
  have hb := below1 w (.cells C.toArray 33)
  have hk : Blk (w.alloc (.cells C.toArray 33)) w.heap.size 33 C := Blk.new w _ C
  obtain ⟨W, hW⟩ : ∃ V, w.alloc (.cells C.toArray 33) = V := ⟨_, rfl⟩
  rw [hW] at hb hk
  obtain ⟨G, g9⟩ : ∃ G, w.heap.size = G := ⟨_, rfl⟩
  rw [g9] at hk
  have gH := Lib.hid g9
  have c0 := e0.out W G hk
  have s64 : IntKind.u64.wrap S = S := by rw [IntKind.wrap_u64]; omega
  have q64 : IntKind.u64.wrap Q = Q := by rw [IntKind.wrap_u64]; omega
  have o8 : IntKind.u8.wrap O = O % 256 := IntKind.wrap_u8 O
  obtain ⟨M, hMM⟩ : ∃ M, recB ⟨⟨6, S, Q, O, H, xs⟩, ⟨h, p, m, zs⟩⟩ = M := ⟨_, rfl⟩
  rw [hMM] at hm
  rw [hMM]
  have hIH := Lib.hid (fun w' (k : Below w.heap.size w w') => hI.keep k)
  have hTH := Lib.hid (fun w' (k : Below w.heap.size w w') => hT.keep k)
  have hnH := Lib.hid hx
  obtain ⟨bs, hbs⟩ : ∃ bs, beL S 4 = bs := ⟨_, rfl⟩
  have hbl : bs.length = 4 := by rw [← hbs]; exact beL_len _ _
  obtain ⟨bq, hbq⟩ : ∃ bs, beL Q 4 = bs := ⟨_, rfl⟩
  have hbql : bq.length = 4 := by rw [← hbq]; exact beL_len _ _
  try rw [hbs] at hm
  try rw [hbq] at hm
  have hmH := Lib.hid hm
  clear hC hMM hm hI hT hnx hx
  have hsA := fun w' => slice_all16 (P := Try.prog) (g := G) (off := 21) Try.underlying28 sizeU8s w'
  go_enter Try.func22, Try.ntmps22
  go_wp2_with ((with_reducible refine box_row rfl 33 (.tmp 0) rfl C ?_ ?_); rfl; refine RowKit.Hid.out ?_)
  refine Lib.hid ?_
  clear hW g9
  have hk1 := hk.alloc (.cells #[.int .u8 6] 5)
  have hB1 := hb.alloc hb.size (.cells #[.int .u8 6] 5)
  have hO1 := own_made17 (w := W) (B := w.heap.size) (6) hb.size
  obtain ⟨w1, hw1⟩ : ∃ V, W.alloc (.cells #[.int .u8 6] 5) = V := ⟨_, rfl⟩
  rw [hw1] at hk1 hB1 hO1
  clear hk hb
  have c0' := e0.out w1 G hk1
  have hHI := e7.out w1 G hk1
  go_wp2_with (at_builtin; refine wpList_append_ints rfl (.tmp 61) (.tmp 64) 26 rfl w.heap.size 5 i0 (.int .u8 0) 1 Try.underlying26 hi hz0 hz1 hz2 rfl rfl hO1 rfl hHI ?_ ?_ hB1.size ?_; (skip; unfold maxLen; omega); (skip; omega); intro v2 w2 hO2 hg2; refine RowKit.Hid.out ?_)
  refine Lib.hid ?_
  rw [← List.map_append] at hO2
  have hk2 := hk1.grown hg2 (owns_blk16 hO1 hk1 tp)
  have hB2 := hB1.grown hg2 hB1.size (fun q hq => (hO1.lt q hq).1)
  clear hk1 hB1 hO1 hg2 hHI
  have hO9 : w2.ownsRow w.heap.size 5 1 v2 M.length (M.map (Value.int .u8)) := by
    have hlen := hO2.1
    rw [hmH.out]
    rw [List.length_map, Nat.mul_one] at hlen
    try rw [List.singleton_append] at hO2 hlen
    rw [hlen]
    exact hO2
  have hB9 := hB2
  clear hO2 hB2 hk2
  go_wp2
  go_ret
  obtain ⟨b, d, hv⟩ := own_slice32 hO9
  subst hv
  exact ⟨b, d, rfl, hO9, hB9⟩

theorem r17Bytes_any (r : RecV) (a b : Option Addr) (c d : Nat) (w : World) (hr : RecOk r) (hI : RecAt w r a c b d) (hn : r.b.n ≤ 100000) (hx : r.m.blob.length ≤ 100000) (hrt : rightRec r = true) :
    Calls Try.prog 22 #[.agg (rC r a c b d).toArray] w fun q w' => ∃ b' d', q = .returned (.slice b' (recB r).length d') ∧ w'.ownsRow w.heap.size 5 1 (.slice b' (recB r).length d') (recB r).length ((recB r).map (Value.int .u8)) ∧ Below w.heap.size w w' := by
  obtain ⟨⟨K, S, Q, O, H, xs⟩, ⟨h, p, m, zs⟩⟩ := r
  have hK : K = 1 ∨ K = 2 ∨ K = 4 ∨ K = 5 ∨ K = 6 := by
    rcases right_cases hrt with ⟨s, o, e, _⟩ | ⟨s, q, g, x, e, _⟩ | ⟨s, e⟩ | ⟨b, e, _⟩ | ⟨g, e⟩
    all_goals (injection e with e _; injection e with e _; subst e; decide)
  rcases hK with rfl | rfl | rfl | rfl | rfl
  · exact r17Bytes_1 S Q O H xs h p m zs a b c d w hr hI hn hx
  · exact r17Bytes_2 S Q O H xs h p m zs a b c d w hr hI hn hx
  · exact r17Bytes_4 S Q O H xs h p m zs a b c d w hr hI hn hx
  · exact r17Bytes_5 S Q O H xs h p m zs a b c d w hr hI hn hx
  · exact r17Bytes_6 S Q O H xs h p m zs a b c d w hr hI hn hx

set_option maxRecDepth 100000 in
set_option maxHeartbeats 2000000 in
theorem r17Encode_any (r : RecV) (a b : Option Addr) (c d : Nat) (w : World) (hr : RecOk r) (hI : RecAt w r a c b d) (hn : r.b.n ≤ 100000) (hx : r.m.blob.length ≤ 100000) :
    Calls Try.prog 9 #[.agg (rC r a c b d).toArray] w fun q w' => ∃ b' d', q = .returned (.tuple #[.slice b' (encRec r).1.length d', .int .i64 (encRec r).2]) ∧ Ints .u8 w' b' (encRec r).1.length d' (encRec r).1 ∧ Below w.heap.size w w' := by
  have hR := Lib.hid (fun w' (k : Below w.heap.size w w') => r17Right_any r a b c d w' hr (hI.keep k) hn)
  have hBy := Lib.hid (fun (h : rightRec r = true) w' (k : Below w.heap.size w w') => r17Bytes_any r a b c d w' hr (hI.keep k) hn hx h)
  have hCl := rC_len hr a c b d
  obtain ⟨C, hC⟩ : ∃ C, rC r a c b d = C := ⟨_, rfl⟩
  rw [hC] at hR hBy hCl
  rw [hC]
  have hb := below1 w (.cells C.toArray 33)
  have hk : Blk (w.alloc (.cells C.toArray 33)) w.heap.size 33 C := Blk.new w _ C
  obtain ⟨W, hW⟩ : ∃ V, w.alloc (.cells C.toArray 33) = V := ⟨_, rfl⟩
  rw [hW] at hb hk
  obtain ⟨G, g9⟩ : ∃ G, w.heap.size = G := ⟨_, rfl⟩
  rw [g9] at hk
  have gH := Lib.hid g9
  unfold encRec
  obtain ⟨K, hK⟩ : ∃ K, rightRec r = K := ⟨_, rfl⟩
  obtain ⟨M, hM⟩ : ∃ K, recB r = K := ⟨_, rfl⟩
  rw [hK] at hR ⊢
  rw [hK, hM] at hBy
  rw [hM]
  clear hC hI hK hM
  cases K with
  | false =>
    rw [if_neg (by decide)]
    go_enter Try.func9, Try.ntmps9
    go_wp2_with ((with_reducible refine box_row rfl 33 (.tmp 0) rfl C ?_ ?_); rfl; refine RowKit.Hid.out ?_)
    refine Lib.hid ?_
    clear hW g9
    go_wp2_with ((with_reducible refine wpList_load_blk rfl 33 (.tmp 1) rfl ?_ hk rowRc hCl ?_); rfl)
    refine (hR.out W hb).mono ?_
    rintro q w1 ⟨rfl, b1⟩
    go_wp2
    go_ret2
    exact ⟨none, 0, rfl, ⟨rfl, Nat.le_refl _, .inl rfl⟩, hb.trans (b1.mono hb.size)⟩
  | true =>
    rw [if_pos rfl]
    dsimp only
    have hBy2 := Lib.hid (hBy.out rfl)
    clear hBy
    go_enter Try.func9, Try.ntmps9
    go_wp2_with ((with_reducible refine box_row rfl 33 (.tmp 0) rfl C ?_ ?_); rfl; refine RowKit.Hid.out ?_)
    refine Lib.hid ?_
    clear hW g9
    go_wp2_with ((with_reducible refine wpList_load_blk rfl 33 (.tmp 1) rfl ?_ hk rowRc hCl ?_); rfl)
    refine (hR.out W hb).mono ?_
    rintro q w1 ⟨rfl, b1⟩
    have hk1 := hk.keep b1 hk.lt
    have hS1 := hb.trans (b1.mono hb.size)
    clear hk hb b1 hR
    go_wp2_with ((with_reducible refine wpList_load_blk rfl 33 (.tmp 1) rfl ?_ hk1 rowRc hCl ?_); rfl)
    refine (hBy2.out w1 hS1).mono ?_
    rintro q w2 ⟨b, d, rfl, ho, b2⟩
    obtain ⟨b', d', hv, hJ⟩ := Ints.of_owns ho
    injection hv with e1 _ e2
    subst e1; subst e2
    go_wp2
    go_ret2
    exact ⟨b, d, rfl, hJ, hS1.trans (b2.mono hS1.size)⟩
end Go.Proofs.Ytaaflnmdaplfkaa

/-
  Whether an id stands among ids: slices.Index, slices.Contains, block's Has and the document's own. New memory alone is written. Conditions: at most a hundred thousand ids; an id has 32 bytes.
-/
namespace Go.Proofs.Ytaaflnmdaplfkaa
open Go.RowKit
end Go.Proofs.Ytaaflnmdaplfkaa

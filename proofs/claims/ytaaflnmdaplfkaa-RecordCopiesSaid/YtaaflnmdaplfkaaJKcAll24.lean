/-
  Texts of stages that were proved on their own, joined: KfDecode. Each begins with its own words.
-/
import Derived.Test.YtaaflnmdaplfkaaJKcAll10
import Derived.Test.YtaaflnmdaplfkaaJKcAll23
import Derived.Test.YtaaflnmdaplfkaaAppends

/-
  The document's own Decode of a record. New memory alone is written. Conditions: bytes below 256, at most a million. (Made by wip/tools/mk_kfdecode.py.)
-/
namespace Go.Proofs.Ytaaflnmdaplfkaa
open Go.RowKit

theorem sl_cut17 {n c : Nat} (a : Option Addr) (l h : Nat) (hlh : l ≤ h) (hc : h ≤ c) (wx : World) : (Instr.sliceAt 26 (.slice a n c) (some (.int .i64 (l : Int))) (some (.int .i64 (h : Int))) none).run Try.prog wx = .ok (.slice (cutAddr a c l) (h - l) (c - l)) wx :=
  run_cut2 26 5 Try.underlying26 sizeU8s wx a n c .i64 .i64 l h hlh hc
theorem sl_from17 {n c : Nat} (a : Option Addr) (l : Nat) (hl : l ≤ n) (wx : World) : (Instr.sliceAt 26 (.slice a n c) (some (.int .i64 (l : Int))) none none).run Try.prog wx = .ok (.slice (cutAddr a c l) (n - l) (c - l)) wx :=
  run_cut 26 5 Try.underlying26 sizeU8s wx a n c .i64 l hl
/-- A row of bytes, as far as it has been read. -/
def fil (l : List Int) (j : Nat) : List Int := l.take j ++ List.replicate (l.length - j) 0
theorem fil_len {l : List Int} {j : Nat} (h : j ≤ l.length) : (fil l j).length = l.length := by
  unfold fil
  rw [List.length_append, List.length_take, List.length_replicate]; omega
theorem fil_zero (l : List Int) : fil l 0 = List.replicate l.length 0 := by unfold fil; rw [List.take_zero, List.nil_append, Nat.sub_zero]
theorem fil_all {l : List Int} {j : Nat} (h : j = l.length) : fil l j = l := by
  subst h
  unfold fil
  rw [List.take_length, Nat.sub_self]
  exact List.append_nil _
theorem fil_at {l : List Int} {j : Nat} (h : j < l.length) : (fil l j)[j]? = some 0 := by
  unfold fil
  rw [List.getElem?_append_right (by rw [List.length_take]; omega), List.length_take, show j - min j l.length = 0 by omega]
  rw [List.getElem?_replicate]
  rw [if_pos (by omega)]
theorem fil_step {l : List Int} {j : Nat} (h : j < l.length) : fil l (j + 1) = (fil l j).set j (l.getD j 0) := by
  unfold fil
  have hl : (l.take j).length = j := by rw [List.length_take]; omega
  rw [List.set_append_right _ _ (by omega), hl, Nat.sub_self, show l.length - j = (l.length - (j + 1)) + 1 by omega, List.replicate_succ, List.set_cons_zero]
  have e : l.take (j + 1) = l.take j ++ [l.getD j 0] := by rw [List.take_succ_eq_append_getElem h, List.getD_eq_getElem?_getD, List.getElem?_eq_getElem h]; rfl
  rw [e, List.append_assoc]
  rfl
theorem getD_cut {xs : List Int} {p q j : Nat} (h : j < q) : ((xs.drop p).take q).getD j 0 = xs.getD (p + j) 0 := by
  rw [List.getD_eq_getElem?_getD, List.getD_eq_getElem?_getD, List.getElem?_take_of_lt h, List.getElem?_drop]
section
variable {w : World} {g : Nat} {T : TypeId} {K S Q O : Int} {H : List Int} {a : Option Addr} {n c : Nat} {h p : List Int} {b : Option Addr} {m d : Nat}
theorem rcC_sethint {j : Nat} (hl : H.length = 16) (hj : j < 16) (x : Int) : (rcC K S Q O H a n c h p b m d).set (4 + j) (.int .u8 x) = rcC K S Q O (H.set j x) a n c h p b m d := by
  unfold rcC msC hdC
  rw [show 4 + j = j + 4 by omega]
  simp only [List.cons_append, List.set_cons_succ]
  rw [List.append_assoc, List.append_assoc, List.set_append_left _ _ (by rw [List.length_map]; omega), List.map_set]
theorem rcC_sethash {j : Nat} (hl : H.length = 16) (hh : h.length = 32) (hj : j < 32) (x : Int) : (rcC K S Q O H a n c h p b m d).set (21 + j) (.int .u8 x) = rcC K S Q O H a n c (h.set j x) p b m d := by
  unfold rcC bkC
  rw [List.set_append_right _ _ (by rw [msC_len hl]; omega), msC_len hl, Nat.add_sub_cancel_left, List.set_append_left _ _ (by rw [List.length_map]; omega), List.map_set]
end

set_option maxRecDepth 100000 in
set_option maxHeartbeats 1000000 in
theorem r17Value_any (a : Option Addr) (n c : Nat) (xs : List Int) (w : World) (hI : Ints .u8 w a n c xs) (hr : okB xs) (hn : n ≤ 4) :
    Calls Try.prog 34 #[.slice a n c] w fun q w' => q = .returned (.int .u32 (be xs)) ∧ w = w' := by
  have hln := hI.len
  have hnH := Lib.hid hn
  have hnm : (n : Int) ≤ 4 := by omega
  have hIH := Lib.hid hI
  clear hn hI
  go_enter Try.func34, Try.ntmps34
  go_wp2_with fail
  go_loopw [3, 4] (fun s i wr => ∃ j : Nat, j ≤ n ∧ i = .int .i64 j ∧ s = .int .u32 (be (xs.take j)) ∧ w = wr) (fun _ i _ => n - (intOf i).toNat)
  case atStart => exact ⟨0, Nat.zero_le _, rfl, rfl, rfl⟩
  case round =>
    obtain ⟨j, hj, rfl, rfl, rfl⟩ := hrel
    by_cases hlt : j < n
    · have hji : (j : Int) < (n : Int) := by omega
      obtain ⟨b, off, rfl, hc⟩ := hIH.out.at (by omega)
      have c1 := hc j hlt
      have hb : 0 ≤ be (xs.take j) ∧ be (xs.take j) < 16777216 := by
        have h1 := be_range (xs.take j) j (by rw [List.length_take]; omega) (okB_take hr j)
        have := hnH.out
        refine ⟨h1.1, Int.lt_of_lt_of_le h1.2 ?_⟩
        match j, (by omega : j ≤ 3) with
        | 0, _ => decide
        | 1, _ => decide
        | 2, _ => decide
        | 3, _ => decide
      have hx := hr (xs.getD j 0) (by rw [List.getD_eq_getElem?_getD, List.getElem?_eq_getElem (by omega)]; exact List.getElem_mem _)
      have hst := be_take xs j (by omega)
      obtain ⟨X, hX⟩ : ∃ X, be (xs.take j) = X := ⟨_, rfl⟩
      obtain ⟨y, hy⟩ : ∃ X, xs.getD j 0 = X := ⟨_, rfl⟩
      rw [hX] at hb hst
      rw [hy] at hx hst c1
      rw [hX]
      have m1 : 256 * X % 4294967296 = 256 * X := by omega
      have m2 : (256 * X + y) % 4294967296 = 256 * X + y := by omega
      have m3 : y % 4294967296 = y := by omega
      have hstH := Lib.hid hst
      have hltH := Lib.hid hlt
      clear hlt hj hX hy hst hc hb hx
      go_wp2
      exact ⟨⟨j + 1, by have := hltH.out; omega, by congr 1, by rw [hstH.out], by trivial⟩, by simp only [intOf]; have := hltH.out; omega⟩
    · obtain rfl : n = j := by omega
      have hji : ¬ (n : Int) < (n : Int) := by omega
      rw [List.take_of_length_le (by omega)]
      clear hlt hj
      go_wp2
      go_ret
      exact ⟨rfl, rfl⟩

set_option maxRecDepth 100000 in
set_option maxHeartbeats 4000000 in
theorem r17Decode_nil (a : Option Addr) (n c : Nat)  (w : World) (hI : Ints .u8 w a n c ([]))  :
    Calls Try.prog 14 #[.slice a n c] w (DecEndR ([]) w) := by
  obtain ⟨Z, hZ⟩ : ∃ Z, rC noRec none 0 none 0 = Z := ⟨_, rfl⟩
  have hZ0 : Zero Try.prog 33 Z := by rw [← hZ]; exact zeroRc
  have hZl : Z.length = 86 := by rw [← hZ]; exact rC_len noRec_ok _ _ _ _
  have hZ1 : ∀ v ∈ Z, v.oneCell' = true := by rw [← hZ]; exact rC_one _ _ _ _ _
  have hbt0 : Try.prog.built 33 [] = some Z.toArray := by rw [← hZ]; exact built_rc0
  have hZH := Lib.hid hZ
  clear hZ
  have hb := below1 w (.cells Z.toArray 33)
  have hk : Blk (w.alloc (.cells Z.toArray 33)) w.heap.size 33 Z := Blk.new w _ _
  obtain ⟨V, hV⟩ : ∃ V, w.alloc (.cells Z.toArray 33) = V := ⟨_, rfl⟩
  rw [hV] at hb hk
  obtain ⟨G, g9⟩ : ∃ G, w.heap.size = G := ⟨_, rfl⟩
  rw [g9] at hk
  have gH := Lib.hid g9
  unfold DecEndR

  have hln := hI.len
  obtain rfl : n = 0 := hln.symm
  have hend := Lib.hid (show decRec [] = (noRec, 2) from rfl)
  clear hI hln

  go_enter Try.func14, Try.ntmps14
  go_wp2_with ((with_reducible refine wpList_alloc_blk rfl 33 rfl hZ0 ?_); refine RowKit.Hid.out ?_)
  refine Lib.hid ?_
  clear hV g9
  go_wp2_with ((with_reducible refine build_row rfl 33 #[] rfl (cells := Z.toArray) ?_ ?_); (refine Eq.trans (congrArg _ ?_) hbt0; kernel_rfl); refine RowKit.Hid.out ?_)
  refine Lib.hid ?_
  refine wpList_alloc_blk rfl 33 rfl hZ0 ?_
  try simp only [Act.put, List.setIfInBounds_toArray, List.set_cons_zero, List.set_cons_succ]
  have hGA := hk.alloc (.cells Z.toArray 33)
  have hNA := Blk.new V 33 Z
  have hBA := hb.alloc hb.size (.cells Z.toArray 33)
  have hnG : G < V.heap.size := hk.lt
  obtain ⟨N0, hN⟩ : ∃ N, V.heap.size = N := ⟨_, rfl⟩
  rw [hN] at hNA hnG ⊢
  have nG0 := Lib.hid hnG
  obtain ⟨U, hU⟩ : ∃ W, V.alloc (.cells Z.toArray 33) = W := ⟨_, rfl⟩
  rw [hU] at hGA hNA hBA ⊢
  clear hk hb hN hU
  refine store_row rfl 33 (.tmp 4) (.tmp 12) rfl rfl rfl hNA rowRc hZl hZl hZ1 ?_
  intro w1 hz1 hg1
  have hG1 := hGA.grown hg1 (fun e => by injection e with e; omega)
  have hB1 := hBA.grown hg1 hBA.size (fun q hq => by injection hq with hq; have := gH.out; omega)
  clear hGA hNA hBA hg1 hnG

  go_wp2_with ((with_reducible refine wpList_load_blk rfl 33 (.tmp 4) rfl ?_ hz1 rowRc hZl ?_); rfl; refine RowKit.Hid.out ?_)
  refine Lib.hid ?_
  try simp only [Act.put, List.setIfInBounds_toArray, List.set_cons_zero, List.set_cons_succ]
  refine store_row rfl 33 (.tmp 2) (.tmp 16) rfl rfl rfl hG1 rowRc hZl hZl hZ1 ?_
  intro wY hGY hgY
  have hrZ : IsRow Try.prog 33 Z.length := rowRc_of hZl
  have hBY := hB1.grown hgY hB1.size (fun q hq => by injection hq with hq; have := gH.out; omega)
  go_wp2_with fail
  refine bodyPost_ret (results_blk_tmp rfl rfl hGY hrZ) rfl ?_
  rw [hend.out]
  exact ⟨none, 0, none, 0, by rw [← hZH.out]; rfl, recAt_nil wY 0 0, (fun x hx => by cases hx), (fun x hx => by cases hx), hBY⟩

set_option maxRecDepth 100000 in
set_option maxHeartbeats 4000000 in
theorem r17Decode_other (a : Option Addr) (n c : Nat) (k : Int) (r : List Int) (w : World) (hI : Ints .u8 w a n c (k :: r)) (hr : okB (k :: r)) (hn : n ≤ 1000000) (h1 : ¬ k = 1) (h2 : ¬ k = 2) (h4 : ¬ k = 4) (h5 : ¬ k = 5) (h6 : ¬ k = 6) :
    Calls Try.prog 14 #[.slice a n c] w (DecEndR (k :: r) w) := by
  have hkr : 0 ≤ k ∧ k < 256 := hr k (by simp)
  have hend := Lib.hid (show decRec (k :: r) = (noRec, 4) by rw [decRec, if_neg h5, if_neg h1, if_neg h2, if_neg h4, if_neg h6])
  have k64 : wrap64 k = k := by unfold wrap64; omega
  have k64' : IntKind.i64.wrap k = k := by rw [IntKind.wrap_i64]; omega
  have hcs : k = 0 ∨ k = 3 ∨ 7 ≤ k := by omega

  have hln := hI.len
  have hlr : r.length + 1 = n := hln
  have hcapH := Lib.hid hI.2.1
  have hnm0 : (n : Int) ≤ 1000000 := by omega
  obtain ⟨bb, off, rfl, _⟩ := hI.at (show 0 < n by omega)
  have hcell := Lib.hid (fun w' (h : Below w.heap.size w w') i (hi : i < n) => show w'.cell? ⟨bb, off + i, none⟩ = some (.int .u8 ((k :: r).getD i 0)) from by
    obtain ⟨b', off', hae, hc⟩ := (hI.keep h).at (show 0 < n by omega)
    injection hae with hae
    injection hae with e1 e2 _
    subst e1; subst e2
    exact hc i hi)
  have hIH := Lib.hid (fun w' (h : Below w.heap.size w w') => hI.keep h)
  have hrr : okB r := fun x hx => hr x (List.mem_cons_of_mem _ hx)
  have hrrH := Lib.hid hrr
  have hnH := Lib.hid hlr
  have hni : ¬ (n : Int) < 1 := by omega
  have hbt := built_rc1 k
  have hBl := rcC_len (K := k) (S := 0) (Q := 0) (O := 0) (H := z16) (a := none) (n := 0) (c := 0) (h := z32) (p := z32) (b := none) (m := 0) (d := 0) rfl rfl rfl
  have hB1' := rcC_one (K := k) (S := 0) (Q := 0) (O := 0) (H := z16) (a := none) (n := 0) (c := 0) (h := z32) (p := z32) (b := none) (m := 0) (d := 0)
  obtain ⟨B, hB⟩ : ∃ B, rcC k 0 0 0 z16 none 0 0 z32 z32 none 0 0 = B := ⟨_, rfl⟩
  have hBH := Lib.hid hB
  rw [hB] at hbt hBl hB1'
  clear hB
  obtain ⟨Z, hZ⟩ : ∃ Z, rC noRec none 0 none 0 = Z := ⟨_, rfl⟩
  have hZ0 : Zero Try.prog 33 Z := by rw [← hZ]; exact zeroRc
  have hZl : Z.length = 86 := by rw [← hZ]; exact rC_len noRec_ok _ _ _ _
  have hZ1 : ∀ v ∈ Z, v.oneCell' = true := by rw [← hZ]; exact rC_one _ _ _ _ _
  have hbt0 : Try.prog.built 33 [] = some Z.toArray := by rw [← hZ]; exact built_rc0
  have hZH := Lib.hid hZ
  clear hZ
  have hb := below1 w (.cells Z.toArray 33)
  have hk : Blk (w.alloc (.cells Z.toArray 33)) w.heap.size 33 Z := Blk.new w _ _
  obtain ⟨V, hV⟩ : ∃ V, w.alloc (.cells Z.toArray 33) = V := ⟨_, rfl⟩
  rw [hV] at hb hk
  obtain ⟨G, g9⟩ : ∃ G, w.heap.size = G := ⟨_, rfl⟩
  rw [g9] at hk
  have gH := Lib.hid g9
  unfold DecEndR

  rcases hcs with rfl | rfl | h7
  · clear hI hr hn hln hlr hrr k64 k64' h1 h2 h4 h5 h6 hkr
    go_enter Try.func14, Try.ntmps14
    go_wp2_with ((with_reducible refine wpList_alloc_blk rfl 33 rfl hZ0 ?_); refine RowKit.Hid.out ?_)
    refine Lib.hid ?_
    clear hV g9
    go_wp2_with ((with_reducible refine build_row rfl 33 #[] rfl (cells := Z.toArray) ?_ ?_); (refine Eq.trans (congrArg _ ?_) hbt0; kernel_rfl); refine RowKit.Hid.out ?_)
    refine Lib.hid ?_
    refine wpList_alloc_blk rfl 33 rfl hZ0 ?_
    try simp only [Act.put, List.setIfInBounds_toArray, List.set_cons_zero, List.set_cons_succ]
    have hGA := hk.alloc (.cells Z.toArray 33)
    have hNA := Blk.new V 33 Z
    have hBA := hb.alloc hb.size (.cells Z.toArray 33)
    have hnG : G < V.heap.size := hk.lt
    obtain ⟨N0, hN⟩ : ∃ N, V.heap.size = N := ⟨_, rfl⟩
    rw [hN] at hNA hnG ⊢
    have nG0 := Lib.hid hnG
    obtain ⟨U, hU⟩ : ∃ W, V.alloc (.cells Z.toArray 33) = W := ⟨_, rfl⟩
    rw [hU] at hGA hNA hBA ⊢
    clear hk hb hN hU
    refine store_row rfl 33 (.tmp 4) (.tmp 12) rfl rfl rfl hNA rowRc hZl hZl hZ1 ?_
    intro w1 hz1 hg1
    have hG1 := hGA.grown hg1 (fun e => by injection e with e; omega)
    have hB1 := hBA.grown hg1 hBA.size (fun q hq => by injection hq with hq; have := gH.out; omega)
    clear hGA hNA hBA hg1 hnG

    have cb : w1.cell? ⟨bb, off, none⟩ = some (.int .u8 0) := by have := hcell.out w1 hB1 0 (by have := hnH.out; omega); rw [Nat.add_zero] at this; exact this
    go_wp2_with ((with_reducible refine build_row rfl 33 #[(0, .tmp 20)] rfl (cells := B.toArray) ?_ ?_); (refine Eq.trans (congrArg _ ?_) hbt; kernel_rfl); refine RowKit.Hid.out ?_)
    refine Lib.hid ?_
    refine wpList_alloc_blk rfl 33 rfl hZ0 ?_
    try simp only [Act.put, List.setIfInBounds_toArray, List.set_cons_zero, List.set_cons_succ]
    have hGA := hG1.alloc (.cells Z.toArray 33)
    have hzA := hz1.alloc (.cells Z.toArray 33)
    have hNA := Blk.new w1 33 Z
    have hBA := hB1.alloc hB1.size (.cells Z.toArray 33)
    have hn0 : N0 < w1.heap.size := hz1.lt
    obtain ⟨N, hN⟩ : ∃ N, w1.heap.size = N := ⟨_, rfl⟩
    rw [hN] at hNA hn0 ⊢
    have nGN := Lib.hid hn0
    obtain ⟨U1, hU⟩ : ∃ W, w1.alloc (.cells Z.toArray 33) = W := ⟨_, rfl⟩
    rw [hU] at hGA hzA hNA hBA ⊢
    clear hG1 hz1 hB1 hN hU cb
    refine store_row rfl 33 (.tmp 5) (.tmp 21) rfl rfl rfl hNA rowRc hBl hZl hB1' ?_
    intro w2 hN2 hg2
    have hG2 := hGA.grown hg2 (fun e => by injection e with e; have := nG0.out; omega)
    have hz2 := hzA.grown hg2 (fun e => by injection e with e; omega)
    have hB2 := hBA.grown hg2 hBA.size (fun q hq => by injection hq with hq; have := gH.out; have := nG0.out; omega)
    rw [← hBH.out] at hN2
    clear hGA hzA hNA hBA hg2 hn0

    have hG3 := hG2.alloc (.cells #[.int .i64 0, .int .i64 6, .int .i64 25, .int .i64 0, .int .i64 5, .int .i64 0, .int .i64 33] 3)
    have hz3 := hz2.alloc (.cells #[.int .i64 0, .int .i64 6, .int .i64 25, .int .i64 0, .int .i64 5, .int .i64 0, .int .i64 33] 3)
    have hN3 := hN2.alloc (.cells #[.int .i64 0, .int .i64 6, .int .i64 25, .int .i64 0, .int .i64 5, .int .i64 0, .int .i64 33] 3)
    have hM3 := Blk.new w2 3 [.int .i64 0, .int .i64 6, .int .i64 25, .int .i64 0, .int .i64 5, .int .i64 0, .int .i64 33]
    have hB3 := hB2.alloc hB2.size (.cells #[.int .i64 0, .int .i64 6, .int .i64 25, .int .i64 0, .int .i64 5, .int .i64 0, .int .i64 33] 3)
    have hnm : N < w2.heap.size := hN2.lt
    obtain ⟨M5, hM⟩ : ∃ N, w2.heap.size = N := ⟨_, rfl⟩
    obtain ⟨w3, hw3⟩ : ∃ W, w2.alloc (.cells #[.int .i64 0, .int .i64 6, .int .i64 25, .int .i64 0, .int .i64 5, .int .i64 0, .int .i64 33] 3) = W := ⟨_, rfl⟩
    rw [hw3] at hG3 hz3 hN3 hM3 hB3
    rw [hM] at hM3 hnm
    have nNM := Lib.hid hnm
    have c0 := rc0 hN2
    clear hG2 hz2 hB2 hnm
    have c0' := rc0 hN3
    have cs : w3.cell? ⟨M5, 0, none⟩ = some (.int .i64 0) := hM3.cell 0
    clear hM3 hN2

    go_wp2_with ((with_reducible refine wpList_load_blk rfl 33 (.tmp 4) rfl ?_ hz3 rowRc hZl ?_); rfl; refine RowKit.Hid.out ?_)
    refine Lib.hid ?_
    try simp only [Act.put, List.setIfInBounds_toArray, List.set_cons_zero, List.set_cons_succ]
    refine store_row rfl 33 (.tmp 2) (.tmp 52) rfl rfl rfl hG3 rowRc hZl hZl hZ1 ?_
    intro wY hGY hgY
    have hrZ : IsRow Try.prog 33 Z.length := rowRc_of hZl
    have hBY := hB3.grown hgY hB3.size (fun q hq => by injection hq with hq; have := gH.out; omega)
    go_wp2_with fail
    refine bodyPost_ret (results_blk_tmp rfl rfl hGY hrZ) rfl ?_
    rw [hend.out]
    exact ⟨none, 0, none, 0, by rw [← hZH.out]; rfl, recAt_nil wY 0 0, (fun x hx => by cases hx), (fun x hx => by cases hx), hBY⟩
  · clear hI hr hn hln hlr hrr k64 k64' h1 h2 h4 h5 h6 hkr
    go_enter Try.func14, Try.ntmps14
    go_wp2_with ((with_reducible refine wpList_alloc_blk rfl 33 rfl hZ0 ?_); refine RowKit.Hid.out ?_)
    refine Lib.hid ?_
    clear hV g9
    go_wp2_with ((with_reducible refine build_row rfl 33 #[] rfl (cells := Z.toArray) ?_ ?_); (refine Eq.trans (congrArg _ ?_) hbt0; kernel_rfl); refine RowKit.Hid.out ?_)
    refine Lib.hid ?_
    refine wpList_alloc_blk rfl 33 rfl hZ0 ?_
    try simp only [Act.put, List.setIfInBounds_toArray, List.set_cons_zero, List.set_cons_succ]
    have hGA := hk.alloc (.cells Z.toArray 33)
    have hNA := Blk.new V 33 Z
    have hBA := hb.alloc hb.size (.cells Z.toArray 33)
    have hnG : G < V.heap.size := hk.lt
    obtain ⟨N0, hN⟩ : ∃ N, V.heap.size = N := ⟨_, rfl⟩
    rw [hN] at hNA hnG ⊢
    have nG0 := Lib.hid hnG
    obtain ⟨U, hU⟩ : ∃ W, V.alloc (.cells Z.toArray 33) = W := ⟨_, rfl⟩
    rw [hU] at hGA hNA hBA ⊢
    clear hk hb hN hU
    refine store_row rfl 33 (.tmp 4) (.tmp 12) rfl rfl rfl hNA rowRc hZl hZl hZ1 ?_
    intro w1 hz1 hg1
    have hG1 := hGA.grown hg1 (fun e => by injection e with e; omega)
    have hB1 := hBA.grown hg1 hBA.size (fun q hq => by injection hq with hq; have := gH.out; omega)
    clear hGA hNA hBA hg1 hnG

    have cb : w1.cell? ⟨bb, off, none⟩ = some (.int .u8 3) := by have := hcell.out w1 hB1 0 (by have := hnH.out; omega); rw [Nat.add_zero] at this; exact this
    go_wp2_with ((with_reducible refine build_row rfl 33 #[(0, .tmp 20)] rfl (cells := B.toArray) ?_ ?_); (refine Eq.trans (congrArg _ ?_) hbt; kernel_rfl); refine RowKit.Hid.out ?_)
    refine Lib.hid ?_
    refine wpList_alloc_blk rfl 33 rfl hZ0 ?_
    try simp only [Act.put, List.setIfInBounds_toArray, List.set_cons_zero, List.set_cons_succ]
    have hGA := hG1.alloc (.cells Z.toArray 33)
    have hzA := hz1.alloc (.cells Z.toArray 33)
    have hNA := Blk.new w1 33 Z
    have hBA := hB1.alloc hB1.size (.cells Z.toArray 33)
    have hn0 : N0 < w1.heap.size := hz1.lt
    obtain ⟨N, hN⟩ : ∃ N, w1.heap.size = N := ⟨_, rfl⟩
    rw [hN] at hNA hn0 ⊢
    have nGN := Lib.hid hn0
    obtain ⟨U1, hU⟩ : ∃ W, w1.alloc (.cells Z.toArray 33) = W := ⟨_, rfl⟩
    rw [hU] at hGA hzA hNA hBA ⊢
    clear hG1 hz1 hB1 hN hU cb
    refine store_row rfl 33 (.tmp 5) (.tmp 21) rfl rfl rfl hNA rowRc hBl hZl hB1' ?_
    intro w2 hN2 hg2
    have hG2 := hGA.grown hg2 (fun e => by injection e with e; have := nG0.out; omega)
    have hz2 := hzA.grown hg2 (fun e => by injection e with e; omega)
    have hB2 := hBA.grown hg2 hBA.size (fun q hq => by injection hq with hq; have := gH.out; have := nG0.out; omega)
    rw [← hBH.out] at hN2
    clear hGA hzA hNA hBA hg2 hn0

    have hG3 := hG2.alloc (.cells #[.int .i64 0, .int .i64 6, .int .i64 25, .int .i64 0, .int .i64 5, .int .i64 0, .int .i64 33] 3)
    have hz3 := hz2.alloc (.cells #[.int .i64 0, .int .i64 6, .int .i64 25, .int .i64 0, .int .i64 5, .int .i64 0, .int .i64 33] 3)
    have hN3 := hN2.alloc (.cells #[.int .i64 0, .int .i64 6, .int .i64 25, .int .i64 0, .int .i64 5, .int .i64 0, .int .i64 33] 3)
    have hM3 := Blk.new w2 3 [.int .i64 0, .int .i64 6, .int .i64 25, .int .i64 0, .int .i64 5, .int .i64 0, .int .i64 33]
    have hB3 := hB2.alloc hB2.size (.cells #[.int .i64 0, .int .i64 6, .int .i64 25, .int .i64 0, .int .i64 5, .int .i64 0, .int .i64 33] 3)
    have hnm : N < w2.heap.size := hN2.lt
    obtain ⟨M5, hM⟩ : ∃ N, w2.heap.size = N := ⟨_, rfl⟩
    obtain ⟨w3, hw3⟩ : ∃ W, w2.alloc (.cells #[.int .i64 0, .int .i64 6, .int .i64 25, .int .i64 0, .int .i64 5, .int .i64 0, .int .i64 33] 3) = W := ⟨_, rfl⟩
    rw [hw3] at hG3 hz3 hN3 hM3 hB3
    rw [hM] at hM3 hnm
    have nNM := Lib.hid hnm
    have c0 := rc0 hN2
    clear hG2 hz2 hB2 hnm
    have c0' := rc0 hN3
    have cs : w3.cell? ⟨M5, 3, none⟩ = some (.int .i64 0) := hM3.cell 3
    clear hM3 hN2

    go_wp2_with ((with_reducible refine wpList_load_blk rfl 33 (.tmp 4) rfl ?_ hz3 rowRc hZl ?_); rfl; refine RowKit.Hid.out ?_)
    refine Lib.hid ?_
    try simp only [Act.put, List.setIfInBounds_toArray, List.set_cons_zero, List.set_cons_succ]
    refine store_row rfl 33 (.tmp 2) (.tmp 52) rfl rfl rfl hG3 rowRc hZl hZl hZ1 ?_
    intro wY hGY hgY
    have hrZ : IsRow Try.prog 33 Z.length := rowRc_of hZl
    have hBY := hB3.grown hgY hB3.size (fun q hq => by injection hq with hq; have := gH.out; omega)
    go_wp2_with fail
    refine bodyPost_ret (results_blk_tmp rfl rfl hGY hrZ) rfl ?_
    rw [hend.out]
    exact ⟨none, 0, none, 0, by rw [← hZH.out]; rfl, recAt_nil wY 0 0, (fun x hx => by cases hx), (fun x hx => by cases hx), hBY⟩
  · have n5 : (k == 5) = false := beq_false_of_ne h5
    have g7 : decide (7 ≤ k) = true := decide_eq_true h7
    clear hI hr hn hln hlr hrr h1 h2 h4 h5 h6 hkr
    go_enter Try.func14, Try.ntmps14
    go_wp2_with ((with_reducible refine wpList_alloc_blk rfl 33 rfl hZ0 ?_); refine RowKit.Hid.out ?_)
    refine Lib.hid ?_
    clear hV g9
    go_wp2_with ((with_reducible refine build_row rfl 33 #[] rfl (cells := Z.toArray) ?_ ?_); (refine Eq.trans (congrArg _ ?_) hbt0; kernel_rfl); refine RowKit.Hid.out ?_)
    refine Lib.hid ?_
    refine wpList_alloc_blk rfl 33 rfl hZ0 ?_
    try simp only [Act.put, List.setIfInBounds_toArray, List.set_cons_zero, List.set_cons_succ]
    have hGA := hk.alloc (.cells Z.toArray 33)
    have hNA := Blk.new V 33 Z
    have hBA := hb.alloc hb.size (.cells Z.toArray 33)
    have hnG : G < V.heap.size := hk.lt
    obtain ⟨N0, hN⟩ : ∃ N, V.heap.size = N := ⟨_, rfl⟩
    rw [hN] at hNA hnG ⊢
    have nG0 := Lib.hid hnG
    obtain ⟨U, hU⟩ : ∃ W, V.alloc (.cells Z.toArray 33) = W := ⟨_, rfl⟩
    rw [hU] at hGA hNA hBA ⊢
    clear hk hb hN hU
    refine store_row rfl 33 (.tmp 4) (.tmp 12) rfl rfl rfl hNA rowRc hZl hZl hZ1 ?_
    intro w1 hz1 hg1
    have hG1 := hGA.grown hg1 (fun e => by injection e with e; omega)
    have hB1 := hBA.grown hg1 hBA.size (fun q hq => by injection hq with hq; have := gH.out; omega)
    clear hGA hNA hBA hg1 hnG

    have cb : w1.cell? ⟨bb, off, none⟩ = some (.int .u8 k) := by have := hcell.out w1 hB1 0 (by have := hnH.out; omega); rw [Nat.add_zero] at this; exact this
    go_wp2_with ((with_reducible refine build_row rfl 33 #[(0, .tmp 20)] rfl (cells := B.toArray) ?_ ?_); (refine Eq.trans (congrArg _ ?_) hbt; kernel_rfl); refine RowKit.Hid.out ?_)
    refine Lib.hid ?_
    refine wpList_alloc_blk rfl 33 rfl hZ0 ?_
    try simp only [Act.put, List.setIfInBounds_toArray, List.set_cons_zero, List.set_cons_succ]
    have hGA := hG1.alloc (.cells Z.toArray 33)
    have hzA := hz1.alloc (.cells Z.toArray 33)
    have hNA := Blk.new w1 33 Z
    have hBA := hB1.alloc hB1.size (.cells Z.toArray 33)
    have hn0 : N0 < w1.heap.size := hz1.lt
    obtain ⟨N, hN⟩ : ∃ N, w1.heap.size = N := ⟨_, rfl⟩
    rw [hN] at hNA hn0 ⊢
    have nGN := Lib.hid hn0
    obtain ⟨U1, hU⟩ : ∃ W, w1.alloc (.cells Z.toArray 33) = W := ⟨_, rfl⟩
    rw [hU] at hGA hzA hNA hBA ⊢
    clear hG1 hz1 hB1 hN hU cb
    refine store_row rfl 33 (.tmp 5) (.tmp 21) rfl rfl rfl hNA rowRc hBl hZl hB1' ?_
    intro w2 hN2 hg2
    have hG2 := hGA.grown hg2 (fun e => by injection e with e; have := nG0.out; omega)
    have hz2 := hzA.grown hg2 (fun e => by injection e with e; omega)
    have hB2 := hBA.grown hg2 hBA.size (fun q hq => by injection hq with hq; have := gH.out; have := nG0.out; omega)
    rw [← hBH.out] at hN2
    clear hGA hzA hNA hBA hg2 hn0

    have hG3 := hG2.alloc (.cells #[.int .i64 0, .int .i64 6, .int .i64 25, .int .i64 0, .int .i64 5, .int .i64 0, .int .i64 33] 3)
    have hz3 := hz2.alloc (.cells #[.int .i64 0, .int .i64 6, .int .i64 25, .int .i64 0, .int .i64 5, .int .i64 0, .int .i64 33] 3)
    have hN3 := hN2.alloc (.cells #[.int .i64 0, .int .i64 6, .int .i64 25, .int .i64 0, .int .i64 5, .int .i64 0, .int .i64 33] 3)
    have hM3 := Blk.new w2 3 [.int .i64 0, .int .i64 6, .int .i64 25, .int .i64 0, .int .i64 5, .int .i64 0, .int .i64 33]
    have hB3 := hB2.alloc hB2.size (.cells #[.int .i64 0, .int .i64 6, .int .i64 25, .int .i64 0, .int .i64 5, .int .i64 0, .int .i64 33] 3)
    have hnm : N < w2.heap.size := hN2.lt
    obtain ⟨M5, hM⟩ : ∃ N, w2.heap.size = N := ⟨_, rfl⟩
    obtain ⟨w3, hw3⟩ : ∃ W, w2.alloc (.cells #[.int .i64 0, .int .i64 6, .int .i64 25, .int .i64 0, .int .i64 5, .int .i64 0, .int .i64 33] 3) = W := ⟨_, rfl⟩
    rw [hw3] at hG3 hz3 hN3 hM3 hB3
    rw [hM] at hM3 hnm
    have nNM := Lib.hid hnm
    have c0 := rc0 hN2
    clear hG2 hz2 hB2 hnm
    have c0' := rc0 hN3
    clear hM3 hN2

    go_wp2_with ((with_reducible refine wpList_load_blk rfl 33 (.tmp 4) rfl ?_ hz3 rowRc hZl ?_); rfl; refine RowKit.Hid.out ?_)
    refine Lib.hid ?_
    try simp only [Act.put, List.setIfInBounds_toArray, List.set_cons_zero, List.set_cons_succ]
    refine store_row rfl 33 (.tmp 2) (.tmp 52) rfl rfl rfl hG3 rowRc hZl hZl hZ1 ?_
    intro wY hGY hgY
    have hrZ : IsRow Try.prog 33 Z.length := rowRc_of hZl
    have hBY := hB3.grown hgY hB3.size (fun q hq => by injection hq with hq; have := gH.out; omega)
    go_wp2_with fail
    refine bodyPost_ret (results_blk_tmp rfl rfl hGY hrZ) rfl ?_
    rw [hend.out]
    exact ⟨none, 0, none, 0, by rw [← hZH.out]; rfl, recAt_nil wY 0 0, (fun x hx => by cases hx), (fun x hx => by cases hx), hBY⟩

set_option maxRecDepth 100000 in
set_option maxHeartbeats 4000000 in
theorem r17Decode_close (a : Option Addr) (n c : Nat) (r : List Int) (w : World) (hI : Ints .u8 w a n c (4 :: r)) (hr : okB (4 :: r)) (hn : n ≤ 1000000)  :
    Calls Try.prog 14 #[.slice a n c] w (DecEndR (4 :: r) w) := by
  have hln := hI.len
  have hlr : r.length + 1 = n := hln
  have hcapH := Lib.hid hI.2.1
  have hnm0 : (n : Int) ≤ 1000000 := by omega
  obtain ⟨bb, off, rfl, _⟩ := hI.at (show 0 < n by omega)
  have hcell := Lib.hid (fun w' (h : Below w.heap.size w w') i (hi : i < n) => show w'.cell? ⟨bb, off + i, none⟩ = some (.int .u8 ((4 :: r).getD i 0)) from by
    obtain ⟨b', off', hae, hc⟩ := (hI.keep h).at (show 0 < n by omega)
    injection hae with hae
    injection hae with e1 e2 _
    subst e1; subst e2
    exact hc i hi)
  have hIH := Lib.hid (fun w' (h : Below w.heap.size w w') => hI.keep h)
  have hrr : okB r := fun x hx => hr x (List.mem_cons_of_mem _ hx)
  have hrrH := Lib.hid hrr
  have hnH := Lib.hid hlr
  have hni : ¬ (n : Int) < 1 := by omega
  have hbt := built_rc1 4
  have hBl := rcC_len (K := 4) (S := 0) (Q := 0) (O := 0) (H := z16) (a := none) (n := 0) (c := 0) (h := z32) (p := z32) (b := none) (m := 0) (d := 0) rfl rfl rfl
  have hB1' := rcC_one (K := 4) (S := 0) (Q := 0) (O := 0) (H := z16) (a := none) (n := 0) (c := 0) (h := z32) (p := z32) (b := none) (m := 0) (d := 0)
  obtain ⟨B, hB⟩ : ∃ B, rcC 4 0 0 0 z16 none 0 0 z32 z32 none 0 0 = B := ⟨_, rfl⟩
  have hBH := Lib.hid hB
  rw [hB] at hbt hBl hB1'
  clear hB
  obtain ⟨Z, hZ⟩ : ∃ Z, rC noRec none 0 none 0 = Z := ⟨_, rfl⟩
  have hZ0 : Zero Try.prog 33 Z := by rw [← hZ]; exact zeroRc
  have hZl : Z.length = 86 := by rw [← hZ]; exact rC_len noRec_ok _ _ _ _
  have hZ1 : ∀ v ∈ Z, v.oneCell' = true := by rw [← hZ]; exact rC_one _ _ _ _ _
  have hbt0 : Try.prog.built 33 [] = some Z.toArray := by rw [← hZ]; exact built_rc0
  have hZH := Lib.hid hZ
  clear hZ
  have hb := below1 w (.cells Z.toArray 33)
  have hk : Blk (w.alloc (.cells Z.toArray 33)) w.heap.size 33 Z := Blk.new w _ _
  obtain ⟨V, hV⟩ : ∃ V, w.alloc (.cells Z.toArray 33) = V := ⟨_, rfl⟩
  rw [hV] at hb hk
  obtain ⟨G, g9⟩ : ∃ G, w.heap.size = G := ⟨_, rfl⟩
  rw [g9] at hk
  have gH := Lib.hid g9
  unfold DecEndR

  have hshort : r.length < 4 → decRec (4 :: r) = (noRec, 2) := fun h => by rw [decRec, if_neg (by decide), if_neg (by decide), if_neg (by decide), if_pos rfl, if_pos h]
  have hlong : 4 < r.length → decRec (4 :: r) = (noRec, 3) := fun h => by rw [decRec, if_neg (by decide), if_neg (by decide), if_neg (by decide), if_pos rfl, if_neg (by omega), if_pos h]
  have hvr : r.length = 4 → 0 ≤ be (r.take 4) ∧ be (r.take 4) < 4294967296 := fun h => be4_range (okB_take hrr 4) (by rw [List.length_take]; omega)
  have hgood0 : r.length = 4 → decRec (4 :: r) = (⟨⟨4, be (r.take 4), 0, 0, z16, []⟩, noBlk⟩, 0) := fun h => by rw [decRec, if_neg (by decide), if_neg (by decide), if_neg (by decide), if_pos rfl, if_neg (by omega), if_neg (by omega), List.take_of_length_le (by omega)]
  have hgood : r.length = 4 → decRec (4 :: r) = if rightRec ⟨⟨4, be (r.take 4), 0, 0, z16, []⟩, noBlk⟩ = true then (⟨⟨4, be (r.take 4), 0, 0, z16, []⟩, noBlk⟩, 0) else (noRec, 4) := fun h => by rw [right_4, if_pos rfl]; exact hgood0 h
  clear hgood0 hvr

  by_cases hs : n < 5
  · have hsi : (n : Int) < 5 := by omega
    have hend := Lib.hid (hshort (by omega))
    clear hI hr hn hln hlr hrr hshort hlong hgood hs
    go_enter Try.func14, Try.ntmps14
    go_wp2_with ((with_reducible refine wpList_alloc_blk rfl 33 rfl hZ0 ?_); refine RowKit.Hid.out ?_)
    refine Lib.hid ?_
    clear hV g9
    go_wp2_with ((with_reducible refine build_row rfl 33 #[] rfl (cells := Z.toArray) ?_ ?_); (refine Eq.trans (congrArg _ ?_) hbt0; kernel_rfl); refine RowKit.Hid.out ?_)
    refine Lib.hid ?_
    refine wpList_alloc_blk rfl 33 rfl hZ0 ?_
    try simp only [Act.put, List.setIfInBounds_toArray, List.set_cons_zero, List.set_cons_succ]
    have hGA := hk.alloc (.cells Z.toArray 33)
    have hNA := Blk.new V 33 Z
    have hBA := hb.alloc hb.size (.cells Z.toArray 33)
    have hnG : G < V.heap.size := hk.lt
    obtain ⟨N0, hN⟩ : ∃ N, V.heap.size = N := ⟨_, rfl⟩
    rw [hN] at hNA hnG ⊢
    have nG0 := Lib.hid hnG
    obtain ⟨U, hU⟩ : ∃ W, V.alloc (.cells Z.toArray 33) = W := ⟨_, rfl⟩
    rw [hU] at hGA hNA hBA ⊢
    clear hk hb hN hU
    refine store_row rfl 33 (.tmp 4) (.tmp 12) rfl rfl rfl hNA rowRc hZl hZl hZ1 ?_
    intro w1 hz1 hg1
    have hG1 := hGA.grown hg1 (fun e => by injection e with e; omega)
    have hB1 := hBA.grown hg1 hBA.size (fun q hq => by injection hq with hq; have := gH.out; omega)
    clear hGA hNA hBA hg1 hnG

    have cb : w1.cell? ⟨bb, off, none⟩ = some (.int .u8 4) := by have := hcell.out w1 hB1 0 (by have := hnH.out; omega); rw [Nat.add_zero] at this; exact this
    go_wp2_with ((with_reducible refine build_row rfl 33 #[(0, .tmp 20)] rfl (cells := B.toArray) ?_ ?_); (refine Eq.trans (congrArg _ ?_) hbt; kernel_rfl); refine RowKit.Hid.out ?_)
    refine Lib.hid ?_
    refine wpList_alloc_blk rfl 33 rfl hZ0 ?_
    try simp only [Act.put, List.setIfInBounds_toArray, List.set_cons_zero, List.set_cons_succ]
    have hGA := hG1.alloc (.cells Z.toArray 33)
    have hzA := hz1.alloc (.cells Z.toArray 33)
    have hNA := Blk.new w1 33 Z
    have hBA := hB1.alloc hB1.size (.cells Z.toArray 33)
    have hn0 : N0 < w1.heap.size := hz1.lt
    obtain ⟨N, hN⟩ : ∃ N, w1.heap.size = N := ⟨_, rfl⟩
    rw [hN] at hNA hn0 ⊢
    have nGN := Lib.hid hn0
    obtain ⟨U1, hU⟩ : ∃ W, w1.alloc (.cells Z.toArray 33) = W := ⟨_, rfl⟩
    rw [hU] at hGA hzA hNA hBA ⊢
    clear hG1 hz1 hB1 hN hU cb
    refine store_row rfl 33 (.tmp 5) (.tmp 21) rfl rfl rfl hNA rowRc hBl hZl hB1' ?_
    intro w2 hN2 hg2
    have hG2 := hGA.grown hg2 (fun e => by injection e with e; have := nG0.out; omega)
    have hz2 := hzA.grown hg2 (fun e => by injection e with e; omega)
    have hB2 := hBA.grown hg2 hBA.size (fun q hq => by injection hq with hq; have := gH.out; have := nG0.out; omega)
    rw [← hBH.out] at hN2
    clear hGA hzA hNA hBA hg2 hn0

    have hG3 := hG2.alloc (.cells #[.int .i64 0, .int .i64 6, .int .i64 25, .int .i64 0, .int .i64 5, .int .i64 0, .int .i64 33] 3)
    have hz3 := hz2.alloc (.cells #[.int .i64 0, .int .i64 6, .int .i64 25, .int .i64 0, .int .i64 5, .int .i64 0, .int .i64 33] 3)
    have hN3 := hN2.alloc (.cells #[.int .i64 0, .int .i64 6, .int .i64 25, .int .i64 0, .int .i64 5, .int .i64 0, .int .i64 33] 3)
    have hM3 := Blk.new w2 3 [.int .i64 0, .int .i64 6, .int .i64 25, .int .i64 0, .int .i64 5, .int .i64 0, .int .i64 33]
    have hB3 := hB2.alloc hB2.size (.cells #[.int .i64 0, .int .i64 6, .int .i64 25, .int .i64 0, .int .i64 5, .int .i64 0, .int .i64 33] 3)
    have hnm : N < w2.heap.size := hN2.lt
    obtain ⟨M5, hM⟩ : ∃ N, w2.heap.size = N := ⟨_, rfl⟩
    obtain ⟨w3, hw3⟩ : ∃ W, w2.alloc (.cells #[.int .i64 0, .int .i64 6, .int .i64 25, .int .i64 0, .int .i64 5, .int .i64 0, .int .i64 33] 3) = W := ⟨_, rfl⟩
    rw [hw3] at hG3 hz3 hN3 hM3 hB3
    rw [hM] at hM3 hnm
    have nNM := Lib.hid hnm
    have c0 := rc0 hN2
    clear hG2 hz2 hB2 hnm
    have c0' := rc0 hN3
    have cs : w3.cell? ⟨M5, 4, none⟩ = some (.int .i64 5) := hM3.cell 4
    clear hM3 hN2

    go_wp2_with ((with_reducible refine wpList_load_blk rfl 33 (.tmp 4) rfl ?_ hz3 rowRc hZl ?_); rfl; refine RowKit.Hid.out ?_)
    refine Lib.hid ?_
    try simp only [Act.put, List.setIfInBounds_toArray, List.set_cons_zero, List.set_cons_succ]
    refine store_row rfl 33 (.tmp 2) (.tmp 62) rfl rfl rfl hG3 rowRc hZl hZl hZ1 ?_
    intro wY hGY hgY
    have hrZ : IsRow Try.prog 33 Z.length := rowRc_of hZl
    have hBY := hB3.grown hgY hB3.size (fun q hq => by injection hq with hq; have := gH.out; omega)
    go_wp2_with fail
    refine bodyPost_ret (results_blk_tmp rfl rfl hGY hrZ) rfl ?_
    rw [hend.out]
    exact ⟨none, 0, none, 0, by rw [← hZH.out]; rfl, recAt_nil wY 0 0, (fun x hx => by cases hx), (fun x hx => by cases hx), hBY⟩
  have hsi : ¬ (n : Int) < 5 := by omega
  have hnF := Lib.hid (show 5 ≤ n by omega)

  have hvr : 0 ≤ be (r.take 4) ∧ be (r.take 4) < 4294967296 := be4_range (okB_take hrr 4) (by rw [List.length_take]; omega)
  obtain ⟨v, hv⟩ : ∃ v, be (r.take 4) = v := ⟨_, rfl⟩
  have hvH := Lib.hid (show be ((r.drop 0).take 4) = v by rw [List.drop_zero]; exact hv)
  rw [hv] at hgood hvr

  obtain ⟨rd, hrd⟩ : ∃ rd : RecV, ⟨⟨4, v, 0, 0, z16, []⟩, noBlk⟩ = rd := ⟨_, rfl⟩
  have hokH := Lib.hid (show RecOk rd by rw [← hrd]; exact ⟨ok_msg hvr zero_ok zero_ok rfl z16_range okB_nil, noBlk_ok⟩)
  have hnnH := Lib.hid (show rd.b.n ≤ 100000 by rw [← hrd]; exact Nat.zero_le _)
  have hatH := Lib.hid (fun w' => show RecAt w' rd none 0 none 0 by rw [← hrd]; exact ⟨⟨rfl, Nat.le_refl _, .inl rfl⟩, ⟨rfl, Nat.le_refl _, .inl rfl⟩⟩)
  have hDl := rcC_len (K := 4) (S := v) (Q := 0) (O := 0) (H := z16) (a := none) (n := 0) (c := 0) (h := z32) (p := z32) (b := none) (m := 0) (d := 0) rfl rfl rfl
  have hD1 := rcC_one (K := 4) (S := v) (Q := 0) (O := 0) (H := z16) (a := none) (n := 0) (c := 0) (h := z32) (p := z32) (b := none) (m := 0) (d := 0)

  by_cases hl : 5 < n
  · have hli : (5 : Int) < (n : Int) := by omega
    have hend := Lib.hid (hlong (by omega))
    clear hI hr hn hln hlr hrr hshort hlong hgood hs hl
    go_enter Try.func14, Try.ntmps14
    go_wp2_with ((with_reducible refine wpList_alloc_blk rfl 33 rfl hZ0 ?_); refine RowKit.Hid.out ?_)
    refine Lib.hid ?_
    clear hV g9
    go_wp2_with ((with_reducible refine build_row rfl 33 #[] rfl (cells := Z.toArray) ?_ ?_); (refine Eq.trans (congrArg _ ?_) hbt0; kernel_rfl); refine RowKit.Hid.out ?_)
    refine Lib.hid ?_
    refine wpList_alloc_blk rfl 33 rfl hZ0 ?_
    try simp only [Act.put, List.setIfInBounds_toArray, List.set_cons_zero, List.set_cons_succ]
    have hGA := hk.alloc (.cells Z.toArray 33)
    have hNA := Blk.new V 33 Z
    have hBA := hb.alloc hb.size (.cells Z.toArray 33)
    have hnG : G < V.heap.size := hk.lt
    obtain ⟨N0, hN⟩ : ∃ N, V.heap.size = N := ⟨_, rfl⟩
    rw [hN] at hNA hnG ⊢
    have nG0 := Lib.hid hnG
    obtain ⟨U, hU⟩ : ∃ W, V.alloc (.cells Z.toArray 33) = W := ⟨_, rfl⟩
    rw [hU] at hGA hNA hBA ⊢
    clear hk hb hN hU
    refine store_row rfl 33 (.tmp 4) (.tmp 12) rfl rfl rfl hNA rowRc hZl hZl hZ1 ?_
    intro w1 hz1 hg1
    have hG1 := hGA.grown hg1 (fun e => by injection e with e; omega)
    have hB1 := hBA.grown hg1 hBA.size (fun q hq => by injection hq with hq; have := gH.out; omega)
    clear hGA hNA hBA hg1 hnG

    have cb : w1.cell? ⟨bb, off, none⟩ = some (.int .u8 4) := by have := hcell.out w1 hB1 0 (by have := hnH.out; omega); rw [Nat.add_zero] at this; exact this
    go_wp2_with ((with_reducible refine build_row rfl 33 #[(0, .tmp 20)] rfl (cells := B.toArray) ?_ ?_); (refine Eq.trans (congrArg _ ?_) hbt; kernel_rfl); refine RowKit.Hid.out ?_)
    refine Lib.hid ?_
    refine wpList_alloc_blk rfl 33 rfl hZ0 ?_
    try simp only [Act.put, List.setIfInBounds_toArray, List.set_cons_zero, List.set_cons_succ]
    have hGA := hG1.alloc (.cells Z.toArray 33)
    have hzA := hz1.alloc (.cells Z.toArray 33)
    have hNA := Blk.new w1 33 Z
    have hBA := hB1.alloc hB1.size (.cells Z.toArray 33)
    have hn0 : N0 < w1.heap.size := hz1.lt
    obtain ⟨N, hN⟩ : ∃ N, w1.heap.size = N := ⟨_, rfl⟩
    rw [hN] at hNA hn0 ⊢
    have nGN := Lib.hid hn0
    obtain ⟨U1, hU⟩ : ∃ W, w1.alloc (.cells Z.toArray 33) = W := ⟨_, rfl⟩
    rw [hU] at hGA hzA hNA hBA ⊢
    clear hG1 hz1 hB1 hN hU cb
    refine store_row rfl 33 (.tmp 5) (.tmp 21) rfl rfl rfl hNA rowRc hBl hZl hB1' ?_
    intro w2 hN2 hg2
    have hG2 := hGA.grown hg2 (fun e => by injection e with e; have := nG0.out; omega)
    have hz2 := hzA.grown hg2 (fun e => by injection e with e; omega)
    have hB2 := hBA.grown hg2 hBA.size (fun q hq => by injection hq with hq; have := gH.out; have := nG0.out; omega)
    rw [← hBH.out] at hN2
    clear hGA hzA hNA hBA hg2 hn0

    have hG3 := hG2.alloc (.cells #[.int .i64 0, .int .i64 6, .int .i64 25, .int .i64 0, .int .i64 5, .int .i64 0, .int .i64 33] 3)
    have hz3 := hz2.alloc (.cells #[.int .i64 0, .int .i64 6, .int .i64 25, .int .i64 0, .int .i64 5, .int .i64 0, .int .i64 33] 3)
    have hN3 := hN2.alloc (.cells #[.int .i64 0, .int .i64 6, .int .i64 25, .int .i64 0, .int .i64 5, .int .i64 0, .int .i64 33] 3)
    have hM3 := Blk.new w2 3 [.int .i64 0, .int .i64 6, .int .i64 25, .int .i64 0, .int .i64 5, .int .i64 0, .int .i64 33]
    have hB3 := hB2.alloc hB2.size (.cells #[.int .i64 0, .int .i64 6, .int .i64 25, .int .i64 0, .int .i64 5, .int .i64 0, .int .i64 33] 3)
    have hnm : N < w2.heap.size := hN2.lt
    obtain ⟨M5, hM⟩ : ∃ N, w2.heap.size = N := ⟨_, rfl⟩
    obtain ⟨w3, hw3⟩ : ∃ W, w2.alloc (.cells #[.int .i64 0, .int .i64 6, .int .i64 25, .int .i64 0, .int .i64 5, .int .i64 0, .int .i64 33] 3) = W := ⟨_, rfl⟩
    rw [hw3] at hG3 hz3 hN3 hM3 hB3
    rw [hM] at hM3 hnm
    have nNM := Lib.hid hnm
    have c0 := rc0 hN2
    clear hG2 hz2 hB2 hnm
    have c0' := rc0 hN3
    have cs : w3.cell? ⟨M5, 4, none⟩ = some (.int .i64 5) := hM3.cell 4
    clear hM3 hN2

    have cv := r17Value_any (cutAddr (some ⟨bb, off, none⟩) c 1) 4 (c - 1) ((r.drop 0).take 4) w3 (by have := (hIH.out w3 hB3).cut2 1 5 (by decide) (by have := hnF.out; omega); exact this) (okB_take (okB_drop hrrH.out 0) 4) (by decide)
    rw [hvH.out] at cv
    have cvH := Lib.hid cv
    clear cv
    have hsl : ∀ wx : World, (Instr.sliceAt 26 (.slice (some ⟨bb, off, none⟩) n c) (some (.int .i64 1)) (some (.int .i64 5)) none).run Try.prog wx = .ok (.slice (cutAddr (some ⟨bb, off, none⟩) c 1) 4 (c - 1)) wx := sl_cut17 (n := n) (c := c) (some ⟨bb, off, none⟩) 1 5 (by decide) (by have := hnF.out; have := hcapH.out; omega)
    obtain ⟨A4, hA4⟩ : ∃ A, cutAddr (some ⟨bb, off, none⟩) c 1 = A := ⟨_, rfl⟩
    rw [hA4] at cvH hsl
    clear hA4
    go_wp2_with fail
    refine cvH.out.mono ?_
    rintro q wv ⟨rfl, hww⟩
    subst hww
    clear cvH hsl

    have d0 := rc1 hN3
    have f0 := hN3.frozen 1
    have hN5 : Blk (w3.setCell ⟨N, 1, none⟩ (.int .u32 v)) N 33 (rcC 4 v 0 0 z16 none 0 0 z32 z32 none 0 0) := by
      have h := hN3.set 1 (.int .u32 v)
      rw [rcC_set1] at h
      exact h
    have hG5 : Blk (w3.setCell ⟨N, 1, none⟩ (.int .u32 v)) G 33 Z := hG3.far (by show G ≠ N; have := nGN.out; have := nG0.out; omega) _
    have hz5 : Blk (w3.setCell ⟨N, 1, none⟩ (.int .u32 v)) N0 33 Z := hz3.far (by show N0 ≠ N; have := nGN.out; omega) _
    have hB5 : Below w.heap.size w (w3.setCell ⟨N, 1, none⟩ (.int .u32 v)) := hB3.setCell (p := ⟨N, 1, none⟩) (by show w.heap.size ≤ N; have := nGN.out; have := nG0.out; have := gH.out; omega) _
    obtain ⟨w5, hw5⟩ : ∃ W, w3.setCell ⟨N, 1, none⟩ (.int .u32 v) = W := ⟨_, rfl⟩
    rw [hw5] at hN5 hG5 hz5 hB5
    clear hN3 hG3 hz3 hB3

    have c05 := rc0 hN5
    clear c0 c0' cs
    go_wp2_with ((with_reducible refine wpList_load_blk rfl 33 (.tmp 4) rfl ?_ hz5 rowRc hZl ?_); rfl; refine RowKit.Hid.out ?_)
    refine Lib.hid ?_
    try simp only [Act.put, List.setIfInBounds_toArray, List.set_cons_zero, List.set_cons_succ]
    refine store_row rfl 33 (.tmp 2) (.tmp 128) rfl rfl rfl hG5 rowRc hZl hZl hZ1 ?_
    intro wY hGY hgY
    have hrZ : IsRow Try.prog 33 Z.length := rowRc_of hZl
    have hBY := hB5.grown hgY hB5.size (fun q hq => by injection hq with hq; have := gH.out; omega)
    go_wp2_with fail
    refine bodyPost_ret (results_blk_tmp rfl rfl hGY hrZ) rfl ?_
    rw [hend.out]
    exact ⟨none, 0, none, 0, by rw [← hZH.out]; rfl, recAt_nil wY 0 0, (fun x hx => by cases hx), (fun x hx => by cases hx), hBY⟩
  have hli : ¬ (5 : Int) < (n : Int) := by omega
  have hend := Lib.hid (hgood (by omega))
  rw [hrd] at hend
  have hDq : rC rd none 0 none 0 = rcC 4 v 0 0 z16 none 0 0 z32 z32 none 0 0 := by rw [← hrd]; rfl
  have hDqH := Lib.hid hDq
  rw [← hDq] at hDl hD1
  obtain ⟨D, hD⟩ : ∃ D, rC rd none 0 none 0 = D := ⟨_, rfl⟩
  rw [hD] at hDl hD1
  have hDe := Lib.hid hD
  have hlo : Hid ((∀ x : Addr, none = some x → w.heap.size ≤ x.block ∧ x.block ≠ G) ∧ (∀ x : Addr, none = some x → w.heap.size ≤ x.block ∧ x.block ≠ G)) := Lib.hid (And.intro (fun x hx => by cases hx) (fun x hx => by cases hx))
  clear hI hr hn hln hlr hrr hshort hlong hgood hs hl hrd hDq hD

  go_enter Try.func14, Try.ntmps14
  go_wp2_with ((with_reducible refine wpList_alloc_blk rfl 33 rfl hZ0 ?_); refine RowKit.Hid.out ?_)
  refine Lib.hid ?_
  clear hV g9
  go_wp2_with ((with_reducible refine build_row rfl 33 #[] rfl (cells := Z.toArray) ?_ ?_); (refine Eq.trans (congrArg _ ?_) hbt0; kernel_rfl); refine RowKit.Hid.out ?_)
  refine Lib.hid ?_
  refine wpList_alloc_blk rfl 33 rfl hZ0 ?_
  try simp only [Act.put, List.setIfInBounds_toArray, List.set_cons_zero, List.set_cons_succ]
  have hGA := hk.alloc (.cells Z.toArray 33)
  have hNA := Blk.new V 33 Z
  have hBA := hb.alloc hb.size (.cells Z.toArray 33)
  have hnG : G < V.heap.size := hk.lt
  obtain ⟨N0, hN⟩ : ∃ N, V.heap.size = N := ⟨_, rfl⟩
  rw [hN] at hNA hnG ⊢
  have nG0 := Lib.hid hnG
  obtain ⟨U, hU⟩ : ∃ W, V.alloc (.cells Z.toArray 33) = W := ⟨_, rfl⟩
  rw [hU] at hGA hNA hBA ⊢
  clear hk hb hN hU
  refine store_row rfl 33 (.tmp 4) (.tmp 12) rfl rfl rfl hNA rowRc hZl hZl hZ1 ?_
  intro w1 hz1 hg1
  have hG1 := hGA.grown hg1 (fun e => by injection e with e; omega)
  have hB1 := hBA.grown hg1 hBA.size (fun q hq => by injection hq with hq; have := gH.out; omega)
  clear hGA hNA hBA hg1 hnG

  have cb : w1.cell? ⟨bb, off, none⟩ = some (.int .u8 4) := by have := hcell.out w1 hB1 0 (by have := hnH.out; omega); rw [Nat.add_zero] at this; exact this
  go_wp2_with ((with_reducible refine build_row rfl 33 #[(0, .tmp 20)] rfl (cells := B.toArray) ?_ ?_); (refine Eq.trans (congrArg _ ?_) hbt; kernel_rfl); refine RowKit.Hid.out ?_)
  refine Lib.hid ?_
  refine wpList_alloc_blk rfl 33 rfl hZ0 ?_
  try simp only [Act.put, List.setIfInBounds_toArray, List.set_cons_zero, List.set_cons_succ]
  have hGA := hG1.alloc (.cells Z.toArray 33)
  have hzA := hz1.alloc (.cells Z.toArray 33)
  have hNA := Blk.new w1 33 Z
  have hBA := hB1.alloc hB1.size (.cells Z.toArray 33)
  have hn0 : N0 < w1.heap.size := hz1.lt
  obtain ⟨N, hN⟩ : ∃ N, w1.heap.size = N := ⟨_, rfl⟩
  rw [hN] at hNA hn0 ⊢
  have nGN := Lib.hid hn0
  obtain ⟨U1, hU⟩ : ∃ W, w1.alloc (.cells Z.toArray 33) = W := ⟨_, rfl⟩
  rw [hU] at hGA hzA hNA hBA ⊢
  clear hG1 hz1 hB1 hN hU cb
  refine store_row rfl 33 (.tmp 5) (.tmp 21) rfl rfl rfl hNA rowRc hBl hZl hB1' ?_
  intro w2 hN2 hg2
  have hG2 := hGA.grown hg2 (fun e => by injection e with e; have := nG0.out; omega)
  have hz2 := hzA.grown hg2 (fun e => by injection e with e; omega)
  have hB2 := hBA.grown hg2 hBA.size (fun q hq => by injection hq with hq; have := gH.out; have := nG0.out; omega)
  rw [← hBH.out] at hN2
  clear hGA hzA hNA hBA hg2 hn0

  have hG3 := hG2.alloc (.cells #[.int .i64 0, .int .i64 6, .int .i64 25, .int .i64 0, .int .i64 5, .int .i64 0, .int .i64 33] 3)
  have hz3 := hz2.alloc (.cells #[.int .i64 0, .int .i64 6, .int .i64 25, .int .i64 0, .int .i64 5, .int .i64 0, .int .i64 33] 3)
  have hN3 := hN2.alloc (.cells #[.int .i64 0, .int .i64 6, .int .i64 25, .int .i64 0, .int .i64 5, .int .i64 0, .int .i64 33] 3)
  have hM3 := Blk.new w2 3 [.int .i64 0, .int .i64 6, .int .i64 25, .int .i64 0, .int .i64 5, .int .i64 0, .int .i64 33]
  have hB3 := hB2.alloc hB2.size (.cells #[.int .i64 0, .int .i64 6, .int .i64 25, .int .i64 0, .int .i64 5, .int .i64 0, .int .i64 33] 3)
  have hnm : N < w2.heap.size := hN2.lt
  obtain ⟨M5, hM⟩ : ∃ N, w2.heap.size = N := ⟨_, rfl⟩
  obtain ⟨w3, hw3⟩ : ∃ W, w2.alloc (.cells #[.int .i64 0, .int .i64 6, .int .i64 25, .int .i64 0, .int .i64 5, .int .i64 0, .int .i64 33] 3) = W := ⟨_, rfl⟩
  rw [hw3] at hG3 hz3 hN3 hM3 hB3
  rw [hM] at hM3 hnm
  have nNM := Lib.hid hnm
  have c0 := rc0 hN2
  clear hG2 hz2 hB2 hnm
  have c0' := rc0 hN3
  have cs : w3.cell? ⟨M5, 4, none⟩ = some (.int .i64 5) := hM3.cell 4
  clear hM3 hN2

  have cv := r17Value_any (cutAddr (some ⟨bb, off, none⟩) c 1) 4 (c - 1) ((r.drop 0).take 4) w3 (by have := (hIH.out w3 hB3).cut2 1 5 (by decide) (by have := hnF.out; omega); exact this) (okB_take (okB_drop hrrH.out 0) 4) (by decide)
  rw [hvH.out] at cv
  have cvH := Lib.hid cv
  clear cv
  have hsl : ∀ wx : World, (Instr.sliceAt 26 (.slice (some ⟨bb, off, none⟩) n c) (some (.int .i64 1)) (some (.int .i64 5)) none).run Try.prog wx = .ok (.slice (cutAddr (some ⟨bb, off, none⟩) c 1) 4 (c - 1)) wx := sl_cut17 (n := n) (c := c) (some ⟨bb, off, none⟩) 1 5 (by decide) (by have := hnF.out; have := hcapH.out; omega)
  obtain ⟨A4, hA4⟩ : ∃ A, cutAddr (some ⟨bb, off, none⟩) c 1 = A := ⟨_, rfl⟩
  rw [hA4] at cvH hsl
  clear hA4
  go_wp2_with fail
  refine cvH.out.mono ?_
  rintro q wv ⟨rfl, hww⟩
  subst hww
  clear cvH hsl

  have d0 := rc1 hN3
  have f0 := hN3.frozen 1
  have hN5 : Blk (w3.setCell ⟨N, 1, none⟩ (.int .u32 v)) N 33 (rcC 4 v 0 0 z16 none 0 0 z32 z32 none 0 0) := by
    have h := hN3.set 1 (.int .u32 v)
    rw [rcC_set1] at h
    exact h
  have hG5 : Blk (w3.setCell ⟨N, 1, none⟩ (.int .u32 v)) G 33 Z := hG3.far (by show G ≠ N; have := nGN.out; have := nG0.out; omega) _
  have hz5 : Blk (w3.setCell ⟨N, 1, none⟩ (.int .u32 v)) N0 33 Z := hz3.far (by show N0 ≠ N; have := nGN.out; omega) _
  have hB5 : Below w.heap.size w (w3.setCell ⟨N, 1, none⟩ (.int .u32 v)) := hB3.setCell (p := ⟨N, 1, none⟩) (by show w.heap.size ≤ N; have := nGN.out; have := nG0.out; have := gH.out; omega) _
  obtain ⟨w5, hw5⟩ : ∃ W, w3.setCell ⟨N, 1, none⟩ (.int .u32 v) = W := ⟨_, rfl⟩
  rw [hw5] at hN5 hG5 hz5 hB5
  clear hN3 hG3 hz3 hB3

  have c05 := rc0 hN5
  clear c0 c0' cs
  rw [← hDqH.out] at hN5
  clear hDqH
  have hAt := hatH.out w5

  have cr := r17Right_any rd none none 0 0 w5 hokH.out hAt hnnH.out
  rw [hDe.out] at cr
  obtain ⟨K', hK'⟩ : ∃ K, rightRec rd = K := ⟨_, rfl⟩
  rw [hK'] at cr
  have hdk := hend.out
  rw [hK'] at hdk
  have hdk := Lib.hid hdk
  have hAH := Lib.hid hAt
  rw [hDe.out] at hN5
  clear hend hK'
  go_wp2_with ((with_reducible refine wpList_load_blk rfl 33 (.tmp 5) rfl ?_ hN5 rowRc hDl ?_); rfl)
  refine cr.mono ?_
  rintro q wz ⟨rfl, bz⟩
  have hNx := hN5.keep bz hN5.lt
  have hGx := hG5.keep bz hG5.lt
  have hzx := hz5.keep bz hz5.lt
  have hBx := hB5.trans (bz.mono hB5.size)
  have hAx := Lib.hid (hAH.out.keep bz)
  clear cr hN5 hG5 hz5 hB5 bz hAH
  cases K' with
  | true =>
    go_wp2_with ((with_reducible refine wpList_load_blk rfl 33 (.tmp 5) rfl ?_ hNx rowRc hDl ?_); rfl; refine RowKit.Hid.out ?_)
    refine Lib.hid ?_
    try simp only [Act.put, List.setIfInBounds_toArray, List.set_cons_zero, List.set_cons_succ]
    refine store_row rfl 33 (.tmp 2) (.tmp 133) rfl rfl rfl hGx rowRc hDl hZl hD1 ?_
    intro wY hGY hgY
    have hrC : IsRow Try.prog 33 D.length := rowRc_of hDl
    have hBY := hBx.grown hgY hBx.size (fun q hq => by injection hq with hq; have := gH.out; omega)
    go_wp2_with fail
    refine bodyPost_ret (results_blk_tmp rfl rfl hGY hrC) rfl ?_
    rw [hdk.out]
    try rw [if_pos rfl]
    refine ⟨none, 0, none, 0, ?_, ⟨hAx.out.1.grown hgY (fun x hx _ => (hlo.out.1 x hx).2), ?_⟩, fun x hx => (hlo.out.1 x hx).1, fun x hx => (hlo.out.2 x hx).1, hBY⟩
    · rw [← hDe.out]; rfl
    refine ⟨hAx.out.2.1, hAx.out.2.2.1, ?_⟩
    rcases hAx.out.2.2.2 with h0 | ⟨b', off, ha, hc⟩
    · exact .inl h0
    · exact .inr ⟨b', off, ha, fun i hi => hgY.cell (hc i hi) (fun e => by injection e with e; exact (hlo.out.2 ⟨b', off, none⟩ ha).2 e)⟩
  | false =>
    go_wp2_with ((with_reducible refine wpList_load_blk rfl 33 (.tmp 4) rfl ?_ hzx rowRc hZl ?_); rfl; refine RowKit.Hid.out ?_)
    refine Lib.hid ?_
    try simp only [Act.put, List.setIfInBounds_toArray, List.set_cons_zero, List.set_cons_succ]
    refine store_row rfl 33 (.tmp 2) (.tmp 132) rfl rfl rfl hGx rowRc hZl hZl hZ1 ?_
    intro wY hGY hgY
    have hrZ : IsRow Try.prog 33 Z.length := rowRc_of hZl
    have hBY := hBx.grown hgY hBx.size (fun q hq => by injection hq with hq; have := gH.out; omega)
    go_wp2_with fail
    refine bodyPost_ret (results_blk_tmp rfl rfl hGY hrZ) rfl ?_
    rw [hdk.out]
    try rw [if_neg (by decide)]
    exact ⟨none, 0, none, 0, by rw [← hZH.out]; rfl, recAt_nil wY 0 0, (fun x hx => by cases hx), (fun x hx => by cases hx), hBY⟩

set_option maxRecDepth 100000 in
set_option maxHeartbeats 4000000 in
theorem r17Decode_open (a : Option Addr) (n c : Nat) (r : List Int) (w : World) (hI : Ints .u8 w a n c (1 :: r)) (hr : okB (1 :: r)) (hn : n ≤ 1000000)  :
    Calls Try.prog 14 #[.slice a n c] w (DecEndR (1 :: r) w) := by
  have hln := hI.len
  have hlr : r.length + 1 = n := hln
  have hcapH := Lib.hid hI.2.1
  have hnm0 : (n : Int) ≤ 1000000 := by omega
  obtain ⟨bb, off, rfl, _⟩ := hI.at (show 0 < n by omega)
  have hcell := Lib.hid (fun w' (h : Below w.heap.size w w') i (hi : i < n) => show w'.cell? ⟨bb, off + i, none⟩ = some (.int .u8 ((1 :: r).getD i 0)) from by
    obtain ⟨b', off', hae, hc⟩ := (hI.keep h).at (show 0 < n by omega)
    injection hae with hae
    injection hae with e1 e2 _
    subst e1; subst e2
    exact hc i hi)
  have hIH := Lib.hid (fun w' (h : Below w.heap.size w w') => hI.keep h)
  have hrr : okB r := fun x hx => hr x (List.mem_cons_of_mem _ hx)
  have hrrH := Lib.hid hrr
  have hnH := Lib.hid hlr
  have hni : ¬ (n : Int) < 1 := by omega
  have hbt := built_rc1 1
  have hBl := rcC_len (K := 1) (S := 0) (Q := 0) (O := 0) (H := z16) (a := none) (n := 0) (c := 0) (h := z32) (p := z32) (b := none) (m := 0) (d := 0) rfl rfl rfl
  have hB1' := rcC_one (K := 1) (S := 0) (Q := 0) (O := 0) (H := z16) (a := none) (n := 0) (c := 0) (h := z32) (p := z32) (b := none) (m := 0) (d := 0)
  obtain ⟨B, hB⟩ : ∃ B, rcC 1 0 0 0 z16 none 0 0 z32 z32 none 0 0 = B := ⟨_, rfl⟩
  have hBH := Lib.hid hB
  rw [hB] at hbt hBl hB1'
  clear hB
  obtain ⟨Z, hZ⟩ : ∃ Z, rC noRec none 0 none 0 = Z := ⟨_, rfl⟩
  have hZ0 : Zero Try.prog 33 Z := by rw [← hZ]; exact zeroRc
  have hZl : Z.length = 86 := by rw [← hZ]; exact rC_len noRec_ok _ _ _ _
  have hZ1 : ∀ v ∈ Z, v.oneCell' = true := by rw [← hZ]; exact rC_one _ _ _ _ _
  have hbt0 : Try.prog.built 33 [] = some Z.toArray := by rw [← hZ]; exact built_rc0
  have hZH := Lib.hid hZ
  clear hZ
  have hb := below1 w (.cells Z.toArray 33)
  have hk : Blk (w.alloc (.cells Z.toArray 33)) w.heap.size 33 Z := Blk.new w _ _
  obtain ⟨V, hV⟩ : ∃ V, w.alloc (.cells Z.toArray 33) = V := ⟨_, rfl⟩
  rw [hV] at hb hk
  obtain ⟨G, g9⟩ : ∃ G, w.heap.size = G := ⟨_, rfl⟩
  rw [g9] at hk
  have gH := Lib.hid g9
  unfold DecEndR

  have hshort : r.length < 5 → decRec (1 :: r) = (noRec, 2) := fun h => by rw [decRec, if_neg (by decide), if_pos rfl, if_pos h]
  have hlong : 5 < r.length → decRec (1 :: r) = (noRec, 3) := fun h => by rw [decRec, if_neg (by decide), if_pos rfl, if_neg (by omega), if_pos h]
  have hgood : r.length = 5 → decRec (1 :: r) = if rightRec ⟨⟨1, be (r.take 4), 0, r.getD 4 0, z16, []⟩, noBlk⟩ = true then (⟨⟨1, be (r.take 4), 0, r.getD 4 0, z16, []⟩, noBlk⟩, 0) else (noRec, 4) := fun h => by
    rw [decRec, if_neg (by decide), if_pos rfl, if_neg (by omega), if_neg (by omega)]
    by_cases hq : 1 ≤ r.getD 4 0 ∧ r.getD 4 0 ≤ 64
    · rw [if_pos hq, if_pos (right_1 _ _ hq)]
    · rw [if_neg hq, if_neg (fun e => hq ?_)]
      rw [rightRec_own, Bool.and_eq_true] at e
      have := e.1
      unfold mayC at this
      dsimp only at this
      rw [if_pos rfl, Bool.and_eq_true, decide_eq_true_eq, decide_eq_true_eq] at this
      exact this

  by_cases hs : n < 6
  · have hsi : (n : Int) < 6 := by omega
    have hend := Lib.hid (hshort (by omega))
    clear hI hr hn hln hlr hrr hshort hlong hgood hs
    go_enter Try.func14, Try.ntmps14
    go_wp2_with ((with_reducible refine wpList_alloc_blk rfl 33 rfl hZ0 ?_); refine RowKit.Hid.out ?_)
    refine Lib.hid ?_
    clear hV g9
    go_wp2_with ((with_reducible refine build_row rfl 33 #[] rfl (cells := Z.toArray) ?_ ?_); (refine Eq.trans (congrArg _ ?_) hbt0; kernel_rfl); refine RowKit.Hid.out ?_)
    refine Lib.hid ?_
    refine wpList_alloc_blk rfl 33 rfl hZ0 ?_
    try simp only [Act.put, List.setIfInBounds_toArray, List.set_cons_zero, List.set_cons_succ]
    have hGA := hk.alloc (.cells Z.toArray 33)
    have hNA := Blk.new V 33 Z
    have hBA := hb.alloc hb.size (.cells Z.toArray 33)
    have hnG : G < V.heap.size := hk.lt
    obtain ⟨N0, hN⟩ : ∃ N, V.heap.size = N := ⟨_, rfl⟩
    rw [hN] at hNA hnG ⊢
    have nG0 := Lib.hid hnG
    obtain ⟨U, hU⟩ : ∃ W, V.alloc (.cells Z.toArray 33) = W := ⟨_, rfl⟩
    rw [hU] at hGA hNA hBA ⊢
    clear hk hb hN hU
    refine store_row rfl 33 (.tmp 4) (.tmp 12) rfl rfl rfl hNA rowRc hZl hZl hZ1 ?_
    intro w1 hz1 hg1
    have hG1 := hGA.grown hg1 (fun e => by injection e with e; omega)
    have hB1 := hBA.grown hg1 hBA.size (fun q hq => by injection hq with hq; have := gH.out; omega)
    clear hGA hNA hBA hg1 hnG

    have cb : w1.cell? ⟨bb, off, none⟩ = some (.int .u8 1) := by have := hcell.out w1 hB1 0 (by have := hnH.out; omega); rw [Nat.add_zero] at this; exact this
    go_wp2_with ((with_reducible refine build_row rfl 33 #[(0, .tmp 20)] rfl (cells := B.toArray) ?_ ?_); (refine Eq.trans (congrArg _ ?_) hbt; kernel_rfl); refine RowKit.Hid.out ?_)
    refine Lib.hid ?_
    refine wpList_alloc_blk rfl 33 rfl hZ0 ?_
    try simp only [Act.put, List.setIfInBounds_toArray, List.set_cons_zero, List.set_cons_succ]
    have hGA := hG1.alloc (.cells Z.toArray 33)
    have hzA := hz1.alloc (.cells Z.toArray 33)
    have hNA := Blk.new w1 33 Z
    have hBA := hB1.alloc hB1.size (.cells Z.toArray 33)
    have hn0 : N0 < w1.heap.size := hz1.lt
    obtain ⟨N, hN⟩ : ∃ N, w1.heap.size = N := ⟨_, rfl⟩
    rw [hN] at hNA hn0 ⊢
    have nGN := Lib.hid hn0
    obtain ⟨U1, hU⟩ : ∃ W, w1.alloc (.cells Z.toArray 33) = W := ⟨_, rfl⟩
    rw [hU] at hGA hzA hNA hBA ⊢
    clear hG1 hz1 hB1 hN hU cb
    refine store_row rfl 33 (.tmp 5) (.tmp 21) rfl rfl rfl hNA rowRc hBl hZl hB1' ?_
    intro w2 hN2 hg2
    have hG2 := hGA.grown hg2 (fun e => by injection e with e; have := nG0.out; omega)
    have hz2 := hzA.grown hg2 (fun e => by injection e with e; omega)
    have hB2 := hBA.grown hg2 hBA.size (fun q hq => by injection hq with hq; have := gH.out; have := nG0.out; omega)
    rw [← hBH.out] at hN2
    clear hGA hzA hNA hBA hg2 hn0

    have hG3 := hG2.alloc (.cells #[.int .i64 0, .int .i64 6, .int .i64 25, .int .i64 0, .int .i64 5, .int .i64 0, .int .i64 33] 3)
    have hz3 := hz2.alloc (.cells #[.int .i64 0, .int .i64 6, .int .i64 25, .int .i64 0, .int .i64 5, .int .i64 0, .int .i64 33] 3)
    have hN3 := hN2.alloc (.cells #[.int .i64 0, .int .i64 6, .int .i64 25, .int .i64 0, .int .i64 5, .int .i64 0, .int .i64 33] 3)
    have hM3 := Blk.new w2 3 [.int .i64 0, .int .i64 6, .int .i64 25, .int .i64 0, .int .i64 5, .int .i64 0, .int .i64 33]
    have hB3 := hB2.alloc hB2.size (.cells #[.int .i64 0, .int .i64 6, .int .i64 25, .int .i64 0, .int .i64 5, .int .i64 0, .int .i64 33] 3)
    have hnm : N < w2.heap.size := hN2.lt
    obtain ⟨M5, hM⟩ : ∃ N, w2.heap.size = N := ⟨_, rfl⟩
    obtain ⟨w3, hw3⟩ : ∃ W, w2.alloc (.cells #[.int .i64 0, .int .i64 6, .int .i64 25, .int .i64 0, .int .i64 5, .int .i64 0, .int .i64 33] 3) = W := ⟨_, rfl⟩
    rw [hw3] at hG3 hz3 hN3 hM3 hB3
    rw [hM] at hM3 hnm
    have nNM := Lib.hid hnm
    have c0 := rc0 hN2
    clear hG2 hz2 hB2 hnm
    have c0' := rc0 hN3
    have cs : w3.cell? ⟨M5, 1, none⟩ = some (.int .i64 6) := hM3.cell 1
    clear hM3 hN2

    go_wp2_with ((with_reducible refine wpList_load_blk rfl 33 (.tmp 4) rfl ?_ hz3 rowRc hZl ?_); rfl; refine RowKit.Hid.out ?_)
    refine Lib.hid ?_
    try simp only [Act.put, List.setIfInBounds_toArray, List.set_cons_zero, List.set_cons_succ]
    refine store_row rfl 33 (.tmp 2) (.tmp 62) rfl rfl rfl hG3 rowRc hZl hZl hZ1 ?_
    intro wY hGY hgY
    have hrZ : IsRow Try.prog 33 Z.length := rowRc_of hZl
    have hBY := hB3.grown hgY hB3.size (fun q hq => by injection hq with hq; have := gH.out; omega)
    go_wp2_with fail
    refine bodyPost_ret (results_blk_tmp rfl rfl hGY hrZ) rfl ?_
    rw [hend.out]
    exact ⟨none, 0, none, 0, by rw [← hZH.out]; rfl, recAt_nil wY 0 0, (fun x hx => by cases hx), (fun x hx => by cases hx), hBY⟩
  have hsi : ¬ (n : Int) < 6 := by omega
  have hnF := Lib.hid (show 6 ≤ n by omega)

  have hvr : 0 ≤ be (r.take 4) ∧ be (r.take 4) < 4294967296 := be4_range (okB_take hrr 4) (by rw [List.length_take]; omega)
  obtain ⟨v, hv⟩ : ∃ v, be (r.take 4) = v := ⟨_, rfl⟩
  have hvH := Lib.hid (show be ((r.drop 0).take 4) = v by rw [List.drop_zero]; exact hv)
  rw [hv] at hgood hvr

  have hor : 0 ≤ r.getD 4 0 ∧ r.getD 4 0 < 256 := by
    rw [List.getD_eq_getElem?_getD, List.getElem?_eq_getElem (by omega)]
    exact hrr _ (List.getElem_mem _)
  obtain ⟨o, ho⟩ : ∃ v, r.getD 4 0 = v := ⟨_, rfl⟩
  have hoH := Lib.hid (show (1 :: r).getD 5 0 = o from ho)
  rw [ho] at hgood hor
  have o32 : IntKind.u32.wrap o = o := u32_wrap ⟨hor.1, by omega⟩

  obtain ⟨rd, hrd⟩ : ∃ rd : RecV, ⟨⟨1, v, 0, o, z16, []⟩, noBlk⟩ = rd := ⟨_, rfl⟩
  have hokH := Lib.hid (show RecOk rd by rw [← hrd]; exact ⟨ok_msg hvr zero_ok ⟨hor.1, by omega⟩ rfl z16_range okB_nil, noBlk_ok⟩)
  have hnnH := Lib.hid (show rd.b.n ≤ 100000 by rw [← hrd]; exact Nat.zero_le _)
  have hatH := Lib.hid (fun w' => show RecAt w' rd none 0 none 0 by rw [← hrd]; exact ⟨⟨rfl, Nat.le_refl _, .inl rfl⟩, ⟨rfl, Nat.le_refl _, .inl rfl⟩⟩)
  have hDl := rcC_len (K := 1) (S := v) (Q := 0) (O := o) (H := z16) (a := none) (n := 0) (c := 0) (h := z32) (p := z32) (b := none) (m := 0) (d := 0) rfl rfl rfl
  have hD1 := rcC_one (K := 1) (S := v) (Q := 0) (O := o) (H := z16) (a := none) (n := 0) (c := 0) (h := z32) (p := z32) (b := none) (m := 0) (d := 0)

  by_cases hl : 6 < n
  · have hli : (6 : Int) < (n : Int) := by omega
    have hend := Lib.hid (hlong (by omega))
    clear hI hr hn hln hlr hrr hshort hlong hgood hs hl
    go_enter Try.func14, Try.ntmps14
    go_wp2_with ((with_reducible refine wpList_alloc_blk rfl 33 rfl hZ0 ?_); refine RowKit.Hid.out ?_)
    refine Lib.hid ?_
    clear hV g9
    go_wp2_with ((with_reducible refine build_row rfl 33 #[] rfl (cells := Z.toArray) ?_ ?_); (refine Eq.trans (congrArg _ ?_) hbt0; kernel_rfl); refine RowKit.Hid.out ?_)
    refine Lib.hid ?_
    refine wpList_alloc_blk rfl 33 rfl hZ0 ?_
    try simp only [Act.put, List.setIfInBounds_toArray, List.set_cons_zero, List.set_cons_succ]
    have hGA := hk.alloc (.cells Z.toArray 33)
    have hNA := Blk.new V 33 Z
    have hBA := hb.alloc hb.size (.cells Z.toArray 33)
    have hnG : G < V.heap.size := hk.lt
    obtain ⟨N0, hN⟩ : ∃ N, V.heap.size = N := ⟨_, rfl⟩
    rw [hN] at hNA hnG ⊢
    have nG0 := Lib.hid hnG
    obtain ⟨U, hU⟩ : ∃ W, V.alloc (.cells Z.toArray 33) = W := ⟨_, rfl⟩
    rw [hU] at hGA hNA hBA ⊢
    clear hk hb hN hU
    refine store_row rfl 33 (.tmp 4) (.tmp 12) rfl rfl rfl hNA rowRc hZl hZl hZ1 ?_
    intro w1 hz1 hg1
    have hG1 := hGA.grown hg1 (fun e => by injection e with e; omega)
    have hB1 := hBA.grown hg1 hBA.size (fun q hq => by injection hq with hq; have := gH.out; omega)
    clear hGA hNA hBA hg1 hnG

    have cb : w1.cell? ⟨bb, off, none⟩ = some (.int .u8 1) := by have := hcell.out w1 hB1 0 (by have := hnH.out; omega); rw [Nat.add_zero] at this; exact this
    go_wp2_with ((with_reducible refine build_row rfl 33 #[(0, .tmp 20)] rfl (cells := B.toArray) ?_ ?_); (refine Eq.trans (congrArg _ ?_) hbt; kernel_rfl); refine RowKit.Hid.out ?_)
    refine Lib.hid ?_
    refine wpList_alloc_blk rfl 33 rfl hZ0 ?_
    try simp only [Act.put, List.setIfInBounds_toArray, List.set_cons_zero, List.set_cons_succ]
    have hGA := hG1.alloc (.cells Z.toArray 33)
    have hzA := hz1.alloc (.cells Z.toArray 33)
    have hNA := Blk.new w1 33 Z
    have hBA := hB1.alloc hB1.size (.cells Z.toArray 33)
    have hn0 : N0 < w1.heap.size := hz1.lt
    obtain ⟨N, hN⟩ : ∃ N, w1.heap.size = N := ⟨_, rfl⟩
    rw [hN] at hNA hn0 ⊢
    have nGN := Lib.hid hn0
    obtain ⟨U1, hU⟩ : ∃ W, w1.alloc (.cells Z.toArray 33) = W := ⟨_, rfl⟩
    rw [hU] at hGA hzA hNA hBA ⊢
    clear hG1 hz1 hB1 hN hU cb
    refine store_row rfl 33 (.tmp 5) (.tmp 21) rfl rfl rfl hNA rowRc hBl hZl hB1' ?_
    intro w2 hN2 hg2
    have hG2 := hGA.grown hg2 (fun e => by injection e with e; have := nG0.out; omega)
    have hz2 := hzA.grown hg2 (fun e => by injection e with e; omega)
    have hB2 := hBA.grown hg2 hBA.size (fun q hq => by injection hq with hq; have := gH.out; have := nG0.out; omega)
    rw [← hBH.out] at hN2
    clear hGA hzA hNA hBA hg2 hn0

    have hG3 := hG2.alloc (.cells #[.int .i64 0, .int .i64 6, .int .i64 25, .int .i64 0, .int .i64 5, .int .i64 0, .int .i64 33] 3)
    have hz3 := hz2.alloc (.cells #[.int .i64 0, .int .i64 6, .int .i64 25, .int .i64 0, .int .i64 5, .int .i64 0, .int .i64 33] 3)
    have hN3 := hN2.alloc (.cells #[.int .i64 0, .int .i64 6, .int .i64 25, .int .i64 0, .int .i64 5, .int .i64 0, .int .i64 33] 3)
    have hM3 := Blk.new w2 3 [.int .i64 0, .int .i64 6, .int .i64 25, .int .i64 0, .int .i64 5, .int .i64 0, .int .i64 33]
    have hB3 := hB2.alloc hB2.size (.cells #[.int .i64 0, .int .i64 6, .int .i64 25, .int .i64 0, .int .i64 5, .int .i64 0, .int .i64 33] 3)
    have hnm : N < w2.heap.size := hN2.lt
    obtain ⟨M5, hM⟩ : ∃ N, w2.heap.size = N := ⟨_, rfl⟩
    obtain ⟨w3, hw3⟩ : ∃ W, w2.alloc (.cells #[.int .i64 0, .int .i64 6, .int .i64 25, .int .i64 0, .int .i64 5, .int .i64 0, .int .i64 33] 3) = W := ⟨_, rfl⟩
    rw [hw3] at hG3 hz3 hN3 hM3 hB3
    rw [hM] at hM3 hnm
    have nNM := Lib.hid hnm
    have c0 := rc0 hN2
    clear hG2 hz2 hB2 hnm
    have c0' := rc0 hN3
    have cs : w3.cell? ⟨M5, 1, none⟩ = some (.int .i64 6) := hM3.cell 1
    clear hM3 hN2

    have cv := r17Value_any (cutAddr (some ⟨bb, off, none⟩) c 1) 4 (c - 1) ((r.drop 0).take 4) w3 (by have := (hIH.out w3 hB3).cut2 1 5 (by decide) (by have := hnF.out; omega); exact this) (okB_take (okB_drop hrrH.out 0) 4) (by decide)
    rw [hvH.out] at cv
    have cvH := Lib.hid cv
    clear cv
    have hsl : ∀ wx : World, (Instr.sliceAt 26 (.slice (some ⟨bb, off, none⟩) n c) (some (.int .i64 1)) (some (.int .i64 5)) none).run Try.prog wx = .ok (.slice (cutAddr (some ⟨bb, off, none⟩) c 1) 4 (c - 1)) wx := sl_cut17 (n := n) (c := c) (some ⟨bb, off, none⟩) 1 5 (by decide) (by have := hnF.out; have := hcapH.out; omega)
    obtain ⟨A4, hA4⟩ : ∃ A, cutAddr (some ⟨bb, off, none⟩) c 1 = A := ⟨_, rfl⟩
    rw [hA4] at cvH hsl
    clear hA4
    go_wp2_with fail
    refine cvH.out.mono ?_
    rintro q wv ⟨rfl, hww⟩
    subst hww
    clear cvH hsl

    have d0 := rc1 hN3
    have f0 := hN3.frozen 1
    have hN5 : Blk (w3.setCell ⟨N, 1, none⟩ (.int .u32 v)) N 33 (rcC 1 v 0 0 z16 none 0 0 z32 z32 none 0 0) := by
      have h := hN3.set 1 (.int .u32 v)
      rw [rcC_set1] at h
      exact h
    have hG5 : Blk (w3.setCell ⟨N, 1, none⟩ (.int .u32 v)) G 33 Z := hG3.far (by show G ≠ N; have := nGN.out; have := nG0.out; omega) _
    have hz5 : Blk (w3.setCell ⟨N, 1, none⟩ (.int .u32 v)) N0 33 Z := hz3.far (by show N0 ≠ N; have := nGN.out; omega) _
    have hB5 : Below w.heap.size w (w3.setCell ⟨N, 1, none⟩ (.int .u32 v)) := hB3.setCell (p := ⟨N, 1, none⟩) (by show w.heap.size ≤ N; have := nGN.out; have := nG0.out; have := gH.out; omega) _
    obtain ⟨w5, hw5⟩ : ∃ W, w3.setCell ⟨N, 1, none⟩ (.int .u32 v) = W := ⟨_, rfl⟩
    rw [hw5] at hN5 hG5 hz5 hB5
    clear hN3 hG3 hz3 hB3

    have c05 := rc0 hN5
    have cb5 : w5.cell? ⟨bb, off + 5, none⟩ = some (.int .u8 o) := by have := hcell.out w5 hB5 5 (by have := hnF.out; omega); rw [hoH.out] at this; exact this

    have d3 := rc3 hN5
    have f3 := hN5.frozen 3
    have hN7 : Blk (w5.setCell ⟨N, 3, none⟩ (.int .u32 o)) N 33 (rcC 1 v 0 o z16 none 0 0 z32 z32 none 0 0) := by
      have h := hN5.set 3 (.int .u32 o)
      rw [rcC_set3] at h
      exact h
    have hG7 : Blk (w5.setCell ⟨N, 3, none⟩ (.int .u32 o)) G 33 Z := hG5.far (by show G ≠ N; have := nGN.out; have := nG0.out; omega) _
    have hz7 : Blk (w5.setCell ⟨N, 3, none⟩ (.int .u32 o)) N0 33 Z := hz5.far (by show N0 ≠ N; have := nGN.out; omega) _
    have hB7 : Below w.heap.size w (w5.setCell ⟨N, 3, none⟩ (.int .u32 o)) := hB5.setCell (p := ⟨N, 3, none⟩) (by show w.heap.size ≤ N; have := nGN.out; have := nG0.out; have := gH.out; omega) _
    obtain ⟨w7, hw7⟩ : ∃ W, w5.setCell ⟨N, 3, none⟩ (.int .u32 o) = W := ⟨_, rfl⟩
    rw [hw7] at hN7 hG7 hz7 hB7
    clear hN5 hG5 hz5 hB5

    have c07 := rc0 hN7
    clear c0 c0' cs
    go_wp2_with ((with_reducible refine wpList_load_blk rfl 33 (.tmp 4) rfl ?_ hz7 rowRc hZl ?_); rfl; refine RowKit.Hid.out ?_)
    refine Lib.hid ?_
    try simp only [Act.put, List.setIfInBounds_toArray, List.set_cons_zero, List.set_cons_succ]
    refine store_row rfl 33 (.tmp 2) (.tmp 128) rfl rfl rfl hG7 rowRc hZl hZl hZ1 ?_
    intro wY hGY hgY
    have hrZ : IsRow Try.prog 33 Z.length := rowRc_of hZl
    have hBY := hB7.grown hgY hB7.size (fun q hq => by injection hq with hq; have := gH.out; omega)
    go_wp2_with fail
    refine bodyPost_ret (results_blk_tmp rfl rfl hGY hrZ) rfl ?_
    rw [hend.out]
    exact ⟨none, 0, none, 0, by rw [← hZH.out]; rfl, recAt_nil wY 0 0, (fun x hx => by cases hx), (fun x hx => by cases hx), hBY⟩
  have hli : ¬ (6 : Int) < (n : Int) := by omega
  have hend := Lib.hid (hgood (by omega))
  rw [hrd] at hend
  have hDq : rC rd none 0 none 0 = rcC 1 v 0 o z16 none 0 0 z32 z32 none 0 0 := by rw [← hrd]; rfl
  have hDqH := Lib.hid hDq
  rw [← hDq] at hDl hD1
  obtain ⟨D, hD⟩ : ∃ D, rC rd none 0 none 0 = D := ⟨_, rfl⟩
  rw [hD] at hDl hD1
  have hDe := Lib.hid hD
  have hlo : Hid ((∀ x : Addr, none = some x → w.heap.size ≤ x.block ∧ x.block ≠ G) ∧ (∀ x : Addr, none = some x → w.heap.size ≤ x.block ∧ x.block ≠ G)) := Lib.hid (And.intro (fun x hx => by cases hx) (fun x hx => by cases hx))
  clear hI hr hn hln hlr hrr hshort hlong hgood hs hl hrd hDq hD

  go_enter Try.func14, Try.ntmps14
  go_wp2_with ((with_reducible refine wpList_alloc_blk rfl 33 rfl hZ0 ?_); refine RowKit.Hid.out ?_)
  refine Lib.hid ?_
  clear hV g9
  go_wp2_with ((with_reducible refine build_row rfl 33 #[] rfl (cells := Z.toArray) ?_ ?_); (refine Eq.trans (congrArg _ ?_) hbt0; kernel_rfl); refine RowKit.Hid.out ?_)
  refine Lib.hid ?_
  refine wpList_alloc_blk rfl 33 rfl hZ0 ?_
  try simp only [Act.put, List.setIfInBounds_toArray, List.set_cons_zero, List.set_cons_succ]
  have hGA := hk.alloc (.cells Z.toArray 33)
  have hNA := Blk.new V 33 Z
  have hBA := hb.alloc hb.size (.cells Z.toArray 33)
  have hnG : G < V.heap.size := hk.lt
  obtain ⟨N0, hN⟩ : ∃ N, V.heap.size = N := ⟨_, rfl⟩
  rw [hN] at hNA hnG ⊢
  have nG0 := Lib.hid hnG
  obtain ⟨U, hU⟩ : ∃ W, V.alloc (.cells Z.toArray 33) = W := ⟨_, rfl⟩
  rw [hU] at hGA hNA hBA ⊢
  clear hk hb hN hU
  refine store_row rfl 33 (.tmp 4) (.tmp 12) rfl rfl rfl hNA rowRc hZl hZl hZ1 ?_
  intro w1 hz1 hg1
  have hG1 := hGA.grown hg1 (fun e => by injection e with e; omega)
  have hB1 := hBA.grown hg1 hBA.size (fun q hq => by injection hq with hq; have := gH.out; omega)
  clear hGA hNA hBA hg1 hnG

  have cb : w1.cell? ⟨bb, off, none⟩ = some (.int .u8 1) := by have := hcell.out w1 hB1 0 (by have := hnH.out; omega); rw [Nat.add_zero] at this; exact this
  go_wp2_with ((with_reducible refine build_row rfl 33 #[(0, .tmp 20)] rfl (cells := B.toArray) ?_ ?_); (refine Eq.trans (congrArg _ ?_) hbt; kernel_rfl); refine RowKit.Hid.out ?_)
  refine Lib.hid ?_
  refine wpList_alloc_blk rfl 33 rfl hZ0 ?_
  try simp only [Act.put, List.setIfInBounds_toArray, List.set_cons_zero, List.set_cons_succ]
  have hGA := hG1.alloc (.cells Z.toArray 33)
  have hzA := hz1.alloc (.cells Z.toArray 33)
  have hNA := Blk.new w1 33 Z
  have hBA := hB1.alloc hB1.size (.cells Z.toArray 33)
  have hn0 : N0 < w1.heap.size := hz1.lt
  obtain ⟨N, hN⟩ : ∃ N, w1.heap.size = N := ⟨_, rfl⟩
  rw [hN] at hNA hn0 ⊢
  have nGN := Lib.hid hn0
  obtain ⟨U1, hU⟩ : ∃ W, w1.alloc (.cells Z.toArray 33) = W := ⟨_, rfl⟩
  rw [hU] at hGA hzA hNA hBA ⊢
  clear hG1 hz1 hB1 hN hU cb
  refine store_row rfl 33 (.tmp 5) (.tmp 21) rfl rfl rfl hNA rowRc hBl hZl hB1' ?_
  intro w2 hN2 hg2
  have hG2 := hGA.grown hg2 (fun e => by injection e with e; have := nG0.out; omega)
  have hz2 := hzA.grown hg2 (fun e => by injection e with e; omega)
  have hB2 := hBA.grown hg2 hBA.size (fun q hq => by injection hq with hq; have := gH.out; have := nG0.out; omega)
  rw [← hBH.out] at hN2
  clear hGA hzA hNA hBA hg2 hn0

  have hG3 := hG2.alloc (.cells #[.int .i64 0, .int .i64 6, .int .i64 25, .int .i64 0, .int .i64 5, .int .i64 0, .int .i64 33] 3)
  have hz3 := hz2.alloc (.cells #[.int .i64 0, .int .i64 6, .int .i64 25, .int .i64 0, .int .i64 5, .int .i64 0, .int .i64 33] 3)
  have hN3 := hN2.alloc (.cells #[.int .i64 0, .int .i64 6, .int .i64 25, .int .i64 0, .int .i64 5, .int .i64 0, .int .i64 33] 3)
  have hM3 := Blk.new w2 3 [.int .i64 0, .int .i64 6, .int .i64 25, .int .i64 0, .int .i64 5, .int .i64 0, .int .i64 33]
  have hB3 := hB2.alloc hB2.size (.cells #[.int .i64 0, .int .i64 6, .int .i64 25, .int .i64 0, .int .i64 5, .int .i64 0, .int .i64 33] 3)
  have hnm : N < w2.heap.size := hN2.lt
  obtain ⟨M5, hM⟩ : ∃ N, w2.heap.size = N := ⟨_, rfl⟩
  obtain ⟨w3, hw3⟩ : ∃ W, w2.alloc (.cells #[.int .i64 0, .int .i64 6, .int .i64 25, .int .i64 0, .int .i64 5, .int .i64 0, .int .i64 33] 3) = W := ⟨_, rfl⟩
  rw [hw3] at hG3 hz3 hN3 hM3 hB3
  rw [hM] at hM3 hnm
  have nNM := Lib.hid hnm
  have c0 := rc0 hN2
  clear hG2 hz2 hB2 hnm
  have c0' := rc0 hN3
  have cs : w3.cell? ⟨M5, 1, none⟩ = some (.int .i64 6) := hM3.cell 1
  clear hM3 hN2

  have cv := r17Value_any (cutAddr (some ⟨bb, off, none⟩) c 1) 4 (c - 1) ((r.drop 0).take 4) w3 (by have := (hIH.out w3 hB3).cut2 1 5 (by decide) (by have := hnF.out; omega); exact this) (okB_take (okB_drop hrrH.out 0) 4) (by decide)
  rw [hvH.out] at cv
  have cvH := Lib.hid cv
  clear cv
  have hsl : ∀ wx : World, (Instr.sliceAt 26 (.slice (some ⟨bb, off, none⟩) n c) (some (.int .i64 1)) (some (.int .i64 5)) none).run Try.prog wx = .ok (.slice (cutAddr (some ⟨bb, off, none⟩) c 1) 4 (c - 1)) wx := sl_cut17 (n := n) (c := c) (some ⟨bb, off, none⟩) 1 5 (by decide) (by have := hnF.out; have := hcapH.out; omega)
  obtain ⟨A4, hA4⟩ : ∃ A, cutAddr (some ⟨bb, off, none⟩) c 1 = A := ⟨_, rfl⟩
  rw [hA4] at cvH hsl
  clear hA4
  go_wp2_with fail
  refine cvH.out.mono ?_
  rintro q wv ⟨rfl, hww⟩
  subst hww
  clear cvH hsl

  have d0 := rc1 hN3
  have f0 := hN3.frozen 1
  have hN5 : Blk (w3.setCell ⟨N, 1, none⟩ (.int .u32 v)) N 33 (rcC 1 v 0 0 z16 none 0 0 z32 z32 none 0 0) := by
    have h := hN3.set 1 (.int .u32 v)
    rw [rcC_set1] at h
    exact h
  have hG5 : Blk (w3.setCell ⟨N, 1, none⟩ (.int .u32 v)) G 33 Z := hG3.far (by show G ≠ N; have := nGN.out; have := nG0.out; omega) _
  have hz5 : Blk (w3.setCell ⟨N, 1, none⟩ (.int .u32 v)) N0 33 Z := hz3.far (by show N0 ≠ N; have := nGN.out; omega) _
  have hB5 : Below w.heap.size w (w3.setCell ⟨N, 1, none⟩ (.int .u32 v)) := hB3.setCell (p := ⟨N, 1, none⟩) (by show w.heap.size ≤ N; have := nGN.out; have := nG0.out; have := gH.out; omega) _
  obtain ⟨w5, hw5⟩ : ∃ W, w3.setCell ⟨N, 1, none⟩ (.int .u32 v) = W := ⟨_, rfl⟩
  rw [hw5] at hN5 hG5 hz5 hB5
  clear hN3 hG3 hz3 hB3

  have c05 := rc0 hN5
  have cb5 : w5.cell? ⟨bb, off + 5, none⟩ = some (.int .u8 o) := by have := hcell.out w5 hB5 5 (by have := hnF.out; omega); rw [hoH.out] at this; exact this

  have d3 := rc3 hN5
  have f3 := hN5.frozen 3
  have hN7 : Blk (w5.setCell ⟨N, 3, none⟩ (.int .u32 o)) N 33 (rcC 1 v 0 o z16 none 0 0 z32 z32 none 0 0) := by
    have h := hN5.set 3 (.int .u32 o)
    rw [rcC_set3] at h
    exact h
  have hG7 : Blk (w5.setCell ⟨N, 3, none⟩ (.int .u32 o)) G 33 Z := hG5.far (by show G ≠ N; have := nGN.out; have := nG0.out; omega) _
  have hz7 : Blk (w5.setCell ⟨N, 3, none⟩ (.int .u32 o)) N0 33 Z := hz5.far (by show N0 ≠ N; have := nGN.out; omega) _
  have hB7 : Below w.heap.size w (w5.setCell ⟨N, 3, none⟩ (.int .u32 o)) := hB5.setCell (p := ⟨N, 3, none⟩) (by show w.heap.size ≤ N; have := nGN.out; have := nG0.out; have := gH.out; omega) _
  obtain ⟨w7, hw7⟩ : ∃ W, w5.setCell ⟨N, 3, none⟩ (.int .u32 o) = W := ⟨_, rfl⟩
  rw [hw7] at hN7 hG7 hz7 hB7
  clear hN5 hG5 hz5 hB5

  have c07 := rc0 hN7
  clear c0 c0' cs
  rw [← hDqH.out] at hN7
  clear hDqH
  have hAt := hatH.out w7

  have cr := r17Right_any rd none none 0 0 w7 hokH.out hAt hnnH.out
  rw [hDe.out] at cr
  obtain ⟨K', hK'⟩ : ∃ K, rightRec rd = K := ⟨_, rfl⟩
  rw [hK'] at cr
  have hdk := hend.out
  rw [hK'] at hdk
  have hdk := Lib.hid hdk
  have hAH := Lib.hid hAt
  rw [hDe.out] at hN7
  clear hend hK'
  go_wp2_with ((with_reducible refine wpList_load_blk rfl 33 (.tmp 5) rfl ?_ hN7 rowRc hDl ?_); rfl)
  refine cr.mono ?_
  rintro q wz ⟨rfl, bz⟩
  have hNx := hN7.keep bz hN7.lt
  have hGx := hG7.keep bz hG7.lt
  have hzx := hz7.keep bz hz7.lt
  have hBx := hB7.trans (bz.mono hB7.size)
  have hAx := Lib.hid (hAH.out.keep bz)
  clear cr hN7 hG7 hz7 hB7 bz hAH
  cases K' with
  | true =>
    go_wp2_with ((with_reducible refine wpList_load_blk rfl 33 (.tmp 5) rfl ?_ hNx rowRc hDl ?_); rfl; refine RowKit.Hid.out ?_)
    refine Lib.hid ?_
    try simp only [Act.put, List.setIfInBounds_toArray, List.set_cons_zero, List.set_cons_succ]
    refine store_row rfl 33 (.tmp 2) (.tmp 133) rfl rfl rfl hGx rowRc hDl hZl hD1 ?_
    intro wY hGY hgY
    have hrC : IsRow Try.prog 33 D.length := rowRc_of hDl
    have hBY := hBx.grown hgY hBx.size (fun q hq => by injection hq with hq; have := gH.out; omega)
    go_wp2_with fail
    refine bodyPost_ret (results_blk_tmp rfl rfl hGY hrC) rfl ?_
    rw [hdk.out]
    try rw [if_pos rfl]
    refine ⟨none, 0, none, 0, ?_, ⟨hAx.out.1.grown hgY (fun x hx _ => (hlo.out.1 x hx).2), ?_⟩, fun x hx => (hlo.out.1 x hx).1, fun x hx => (hlo.out.2 x hx).1, hBY⟩
    · rw [← hDe.out]; rfl
    refine ⟨hAx.out.2.1, hAx.out.2.2.1, ?_⟩
    rcases hAx.out.2.2.2 with h0 | ⟨b', off, ha, hc⟩
    · exact .inl h0
    · exact .inr ⟨b', off, ha, fun i hi => hgY.cell (hc i hi) (fun e => by injection e with e; exact (hlo.out.2 ⟨b', off, none⟩ ha).2 e)⟩
  | false =>
    go_wp2_with ((with_reducible refine wpList_load_blk rfl 33 (.tmp 4) rfl ?_ hzx rowRc hZl ?_); rfl; refine RowKit.Hid.out ?_)
    refine Lib.hid ?_
    try simp only [Act.put, List.setIfInBounds_toArray, List.set_cons_zero, List.set_cons_succ]
    refine store_row rfl 33 (.tmp 2) (.tmp 132) rfl rfl rfl hGx rowRc hZl hZl hZ1 ?_
    intro wY hGY hgY
    have hrZ : IsRow Try.prog 33 Z.length := rowRc_of hZl
    have hBY := hBx.grown hgY hBx.size (fun q hq => by injection hq with hq; have := gH.out; omega)
    go_wp2_with fail
    refine bodyPost_ret (results_blk_tmp rfl rfl hGY hrZ) rfl ?_
    rw [hdk.out]
    try rw [if_neg (by decide)]
    exact ⟨none, 0, none, 0, by rw [← hZH.out]; rfl, recAt_nil wY 0 0, (fun x hx => by cases hx), (fun x hx => by cases hx), hBY⟩

set_option maxRecDepth 100000 in
set_option maxHeartbeats 4000000 in
theorem r17Decode_disc (a : Option Addr) (n c : Nat) (r : List Int) (w : World) (hI : Ints .u8 w a n c (6 :: r)) (hr : okB (6 :: r)) (hn : n ≤ 1000000)  :
    Calls Try.prog 14 #[.slice a n c] w (DecEndR (6 :: r) w) := by
  have hln := hI.len
  have hlr : r.length + 1 = n := hln
  have hcapH := Lib.hid hI.2.1
  have hnm0 : (n : Int) ≤ 1000000 := by omega
  obtain ⟨bb, off, rfl, _⟩ := hI.at (show 0 < n by omega)
  have hcell := Lib.hid (fun w' (h : Below w.heap.size w w') i (hi : i < n) => show w'.cell? ⟨bb, off + i, none⟩ = some (.int .u8 ((6 :: r).getD i 0)) from by
    obtain ⟨b', off', hae, hc⟩ := (hI.keep h).at (show 0 < n by omega)
    injection hae with hae
    injection hae with e1 e2 _
    subst e1; subst e2
    exact hc i hi)
  have hIH := Lib.hid (fun w' (h : Below w.heap.size w w') => hI.keep h)
  have hrr : okB r := fun x hx => hr x (List.mem_cons_of_mem _ hx)
  have hrrH := Lib.hid hrr
  have hnH := Lib.hid hlr
  have hni : ¬ (n : Int) < 1 := by omega
  have hbt := built_rc1 6
  have hBl := rcC_len (K := 6) (S := 0) (Q := 0) (O := 0) (H := z16) (a := none) (n := 0) (c := 0) (h := z32) (p := z32) (b := none) (m := 0) (d := 0) rfl rfl rfl
  have hB1' := rcC_one (K := 6) (S := 0) (Q := 0) (O := 0) (H := z16) (a := none) (n := 0) (c := 0) (h := z32) (p := z32) (b := none) (m := 0) (d := 0)
  obtain ⟨B, hB⟩ : ∃ B, rcC 6 0 0 0 z16 none 0 0 z32 z32 none 0 0 = B := ⟨_, rfl⟩
  have hBH := Lib.hid hB
  rw [hB] at hbt hBl hB1'
  clear hB
  obtain ⟨Z, hZ⟩ : ∃ Z, rC noRec none 0 none 0 = Z := ⟨_, rfl⟩
  have hZ0 : Zero Try.prog 33 Z := by rw [← hZ]; exact zeroRc
  have hZl : Z.length = 86 := by rw [← hZ]; exact rC_len noRec_ok _ _ _ _
  have hZ1 : ∀ v ∈ Z, v.oneCell' = true := by rw [← hZ]; exact rC_one _ _ _ _ _
  have hbt0 : Try.prog.built 33 [] = some Z.toArray := by rw [← hZ]; exact built_rc0
  have hZH := Lib.hid hZ
  clear hZ
  have hb := below1 w (.cells Z.toArray 33)
  have hk : Blk (w.alloc (.cells Z.toArray 33)) w.heap.size 33 Z := Blk.new w _ _
  obtain ⟨V, hV⟩ : ∃ V, w.alloc (.cells Z.toArray 33) = V := ⟨_, rfl⟩
  rw [hV] at hb hk
  obtain ⟨G, g9⟩ : ∃ G, w.heap.size = G := ⟨_, rfl⟩
  rw [g9] at hk
  have gH := Lib.hid g9
  unfold DecEndR

  have hshort : r.length < 32 → decRec (6 :: r) = (noRec, 2) := fun h => by rw [decRec, if_neg (by decide), if_neg (by decide), if_neg (by decide), if_neg (by decide), if_pos rfl, if_pos h]
  have hlong : 32 < r.length → decRec (6 :: r) = (noRec, 3) := fun h => by rw [decRec, if_neg (by decide), if_neg (by decide), if_neg (by decide), if_neg (by decide), if_pos rfl, if_neg (by omega), if_pos h]
  have hgood : r.length = 32 → decRec (6 :: r) = if rightRec ⟨⟨6, 0, 0, 0, z16, []⟩, ⟨r.take 32, z32, 0, []⟩⟩ = true then (⟨⟨6, 0, 0, 0, z16, []⟩, ⟨r.take 32, z32, 0, []⟩⟩, 0) else (noRec, 4) := fun h => by
    rw [right_6, if_pos rfl, decRec, if_neg (by decide), if_neg (by decide), if_neg (by decide), if_neg (by decide), if_pos rfl, if_neg (by omega), if_neg (by omega), List.take_of_length_le (by omega)]

  by_cases hs : n < 33
  · have hsi : (n : Int) < 33 := by omega
    have hend := Lib.hid (hshort (by omega))
    clear hI hr hn hln hlr hrr hshort hlong hgood hs
    go_enter Try.func14, Try.ntmps14
    go_wp2_with ((with_reducible refine wpList_alloc_blk rfl 33 rfl hZ0 ?_); refine RowKit.Hid.out ?_)
    refine Lib.hid ?_
    clear hV g9
    go_wp2_with ((with_reducible refine build_row rfl 33 #[] rfl (cells := Z.toArray) ?_ ?_); (refine Eq.trans (congrArg _ ?_) hbt0; kernel_rfl); refine RowKit.Hid.out ?_)
    refine Lib.hid ?_
    refine wpList_alloc_blk rfl 33 rfl hZ0 ?_
    try simp only [Act.put, List.setIfInBounds_toArray, List.set_cons_zero, List.set_cons_succ]
    have hGA := hk.alloc (.cells Z.toArray 33)
    have hNA := Blk.new V 33 Z
    have hBA := hb.alloc hb.size (.cells Z.toArray 33)
    have hnG : G < V.heap.size := hk.lt
    obtain ⟨N0, hN⟩ : ∃ N, V.heap.size = N := ⟨_, rfl⟩
    rw [hN] at hNA hnG ⊢
    have nG0 := Lib.hid hnG
    obtain ⟨U, hU⟩ : ∃ W, V.alloc (.cells Z.toArray 33) = W := ⟨_, rfl⟩
    rw [hU] at hGA hNA hBA ⊢
    clear hk hb hN hU
    refine store_row rfl 33 (.tmp 4) (.tmp 12) rfl rfl rfl hNA rowRc hZl hZl hZ1 ?_
    intro w1 hz1 hg1
    have hG1 := hGA.grown hg1 (fun e => by injection e with e; omega)
    have hB1 := hBA.grown hg1 hBA.size (fun q hq => by injection hq with hq; have := gH.out; omega)
    clear hGA hNA hBA hg1 hnG

    have cb : w1.cell? ⟨bb, off, none⟩ = some (.int .u8 6) := by have := hcell.out w1 hB1 0 (by have := hnH.out; omega); rw [Nat.add_zero] at this; exact this
    go_wp2_with ((with_reducible refine build_row rfl 33 #[(0, .tmp 20)] rfl (cells := B.toArray) ?_ ?_); (refine Eq.trans (congrArg _ ?_) hbt; kernel_rfl); refine RowKit.Hid.out ?_)
    refine Lib.hid ?_
    refine wpList_alloc_blk rfl 33 rfl hZ0 ?_
    try simp only [Act.put, List.setIfInBounds_toArray, List.set_cons_zero, List.set_cons_succ]
    have hGA := hG1.alloc (.cells Z.toArray 33)
    have hzA := hz1.alloc (.cells Z.toArray 33)
    have hNA := Blk.new w1 33 Z
    have hBA := hB1.alloc hB1.size (.cells Z.toArray 33)
    have hn0 : N0 < w1.heap.size := hz1.lt
    obtain ⟨N, hN⟩ : ∃ N, w1.heap.size = N := ⟨_, rfl⟩
    rw [hN] at hNA hn0 ⊢
    have nGN := Lib.hid hn0
    obtain ⟨U1, hU⟩ : ∃ W, w1.alloc (.cells Z.toArray 33) = W := ⟨_, rfl⟩
    rw [hU] at hGA hzA hNA hBA ⊢
    clear hG1 hz1 hB1 hN hU cb
    refine store_row rfl 33 (.tmp 5) (.tmp 21) rfl rfl rfl hNA rowRc hBl hZl hB1' ?_
    intro w2 hN2 hg2
    have hG2 := hGA.grown hg2 (fun e => by injection e with e; have := nG0.out; omega)
    have hz2 := hzA.grown hg2 (fun e => by injection e with e; omega)
    have hB2 := hBA.grown hg2 hBA.size (fun q hq => by injection hq with hq; have := gH.out; have := nG0.out; omega)
    rw [← hBH.out] at hN2
    clear hGA hzA hNA hBA hg2 hn0

    have hG3 := hG2.alloc (.cells #[.int .i64 0, .int .i64 6, .int .i64 25, .int .i64 0, .int .i64 5, .int .i64 0, .int .i64 33] 3)
    have hz3 := hz2.alloc (.cells #[.int .i64 0, .int .i64 6, .int .i64 25, .int .i64 0, .int .i64 5, .int .i64 0, .int .i64 33] 3)
    have hN3 := hN2.alloc (.cells #[.int .i64 0, .int .i64 6, .int .i64 25, .int .i64 0, .int .i64 5, .int .i64 0, .int .i64 33] 3)
    have hM3 := Blk.new w2 3 [.int .i64 0, .int .i64 6, .int .i64 25, .int .i64 0, .int .i64 5, .int .i64 0, .int .i64 33]
    have hB3 := hB2.alloc hB2.size (.cells #[.int .i64 0, .int .i64 6, .int .i64 25, .int .i64 0, .int .i64 5, .int .i64 0, .int .i64 33] 3)
    have hnm : N < w2.heap.size := hN2.lt
    obtain ⟨M5, hM⟩ : ∃ N, w2.heap.size = N := ⟨_, rfl⟩
    obtain ⟨w3, hw3⟩ : ∃ W, w2.alloc (.cells #[.int .i64 0, .int .i64 6, .int .i64 25, .int .i64 0, .int .i64 5, .int .i64 0, .int .i64 33] 3) = W := ⟨_, rfl⟩
    rw [hw3] at hG3 hz3 hN3 hM3 hB3
    rw [hM] at hM3 hnm
    have nNM := Lib.hid hnm
    have c0 := rc0 hN2
    clear hG2 hz2 hB2 hnm
    have c0' := rc0 hN3
    have cs : w3.cell? ⟨M5, 6, none⟩ = some (.int .i64 33) := hM3.cell 6
    clear hM3 hN2

    go_wp2_with ((with_reducible refine wpList_load_blk rfl 33 (.tmp 4) rfl ?_ hz3 rowRc hZl ?_); rfl; refine RowKit.Hid.out ?_)
    refine Lib.hid ?_
    try simp only [Act.put, List.setIfInBounds_toArray, List.set_cons_zero, List.set_cons_succ]
    refine store_row rfl 33 (.tmp 2) (.tmp 62) rfl rfl rfl hG3 rowRc hZl hZl hZ1 ?_
    intro wY hGY hgY
    have hrZ : IsRow Try.prog 33 Z.length := rowRc_of hZl
    have hBY := hB3.grown hgY hB3.size (fun q hq => by injection hq with hq; have := gH.out; omega)
    go_wp2_with fail
    refine bodyPost_ret (results_blk_tmp rfl rfl hGY hrZ) rfl ?_
    rw [hend.out]
    exact ⟨none, 0, none, 0, by rw [← hZH.out]; rfl, recAt_nil wY 0 0, (fun x hx => by cases hx), (fun x hx => by cases hx), hBY⟩
  have hsi : ¬ (n : Int) < 33 := by omega
  have hnF := Lib.hid (show 33 ≤ n by omega)

  have hhl : (r.take 32).length = 32 := by rw [List.length_take]; omega
  have hhok : okB (r.take 32) := okB_take hrr 32
  have hget : ∀ j, j < 32 → (6 :: r).getD (1 + j) 0 = (r.take 32).getD j 0 := fun j hj => by
    have := getD_cut (xs := 6 :: r) (p := 1) hj
    exact this.symm
  obtain ⟨hs', hhs⟩ : ∃ h, r.take 32 = h := ⟨_, rfl⟩
  rw [hhs] at hgood hhl hhok hget
  have hgetH := Lib.hid hget
  clear hget hhs
  have hs'l := Lib.hid hhl
  have hs'g := hgetH

  obtain ⟨rd, hrd⟩ : ∃ rd : RecV, ⟨⟨6, 0, 0, 0, z16, []⟩, ⟨hs', z32, 0, []⟩⟩ = rd := ⟨_, rfl⟩
  have hokH := Lib.hid (show RecOk rd by rw [← hrd]; exact ⟨ok_msg zero_ok zero_ok zero_ok rfl z16_range okB_nil, ⟨hhl, rfl, rfl, hhok, z32_ok, okB_nil⟩⟩)
  have hnnH := Lib.hid (show rd.b.n ≤ 100000 by rw [← hrd]; exact Nat.zero_le _)
  have hatH := Lib.hid (fun w' => show RecAt w' rd none 0 none 0 by rw [← hrd]; exact ⟨⟨rfl, Nat.le_refl _, .inl rfl⟩, ⟨rfl, Nat.le_refl _, .inl rfl⟩⟩)
  have hDl := rcC_len (K := 6) (S := 0) (Q := 0) (O := 0) (H := z16) (a := none) (n := 0) (c := 0) (h := hs') (p := z32) (b := none) (m := 0) (d := 0) rfl hhl rfl
  have hD1 := rcC_one (K := 6) (S := 0) (Q := 0) (O := 0) (H := z16) (a := none) (n := 0) (c := 0) (h := hs') (p := z32) (b := none) (m := 0) (d := 0)

  by_cases hl : 33 < n
  · have hli : (33 : Int) < (n : Int) := by omega
    have hend := Lib.hid (hlong (by omega))
    clear hI hr hn hln hlr hrr hshort hlong hgood hs hl
    go_enter Try.func14, Try.ntmps14
    go_wp2_with ((with_reducible refine wpList_alloc_blk rfl 33 rfl hZ0 ?_); refine RowKit.Hid.out ?_)
    refine Lib.hid ?_
    clear hV g9
    go_wp2_with ((with_reducible refine build_row rfl 33 #[] rfl (cells := Z.toArray) ?_ ?_); (refine Eq.trans (congrArg _ ?_) hbt0; kernel_rfl); refine RowKit.Hid.out ?_)
    refine Lib.hid ?_
    refine wpList_alloc_blk rfl 33 rfl hZ0 ?_
    try simp only [Act.put, List.setIfInBounds_toArray, List.set_cons_zero, List.set_cons_succ]
    have hGA := hk.alloc (.cells Z.toArray 33)
    have hNA := Blk.new V 33 Z
    have hBA := hb.alloc hb.size (.cells Z.toArray 33)
    have hnG : G < V.heap.size := hk.lt
    obtain ⟨N0, hN⟩ : ∃ N, V.heap.size = N := ⟨_, rfl⟩
    rw [hN] at hNA hnG ⊢
    have nG0 := Lib.hid hnG
    obtain ⟨U, hU⟩ : ∃ W, V.alloc (.cells Z.toArray 33) = W := ⟨_, rfl⟩
    rw [hU] at hGA hNA hBA ⊢
    clear hk hb hN hU
    refine store_row rfl 33 (.tmp 4) (.tmp 12) rfl rfl rfl hNA rowRc hZl hZl hZ1 ?_
    intro w1 hz1 hg1
    have hG1 := hGA.grown hg1 (fun e => by injection e with e; omega)
    have hB1 := hBA.grown hg1 hBA.size (fun q hq => by injection hq with hq; have := gH.out; omega)
    clear hGA hNA hBA hg1 hnG

    have cb : w1.cell? ⟨bb, off, none⟩ = some (.int .u8 6) := by have := hcell.out w1 hB1 0 (by have := hnH.out; omega); rw [Nat.add_zero] at this; exact this
    go_wp2_with ((with_reducible refine build_row rfl 33 #[(0, .tmp 20)] rfl (cells := B.toArray) ?_ ?_); (refine Eq.trans (congrArg _ ?_) hbt; kernel_rfl); refine RowKit.Hid.out ?_)
    refine Lib.hid ?_
    refine wpList_alloc_blk rfl 33 rfl hZ0 ?_
    try simp only [Act.put, List.setIfInBounds_toArray, List.set_cons_zero, List.set_cons_succ]
    have hGA := hG1.alloc (.cells Z.toArray 33)
    have hzA := hz1.alloc (.cells Z.toArray 33)
    have hNA := Blk.new w1 33 Z
    have hBA := hB1.alloc hB1.size (.cells Z.toArray 33)
    have hn0 : N0 < w1.heap.size := hz1.lt
    obtain ⟨N, hN⟩ : ∃ N, w1.heap.size = N := ⟨_, rfl⟩
    rw [hN] at hNA hn0 ⊢
    have nGN := Lib.hid hn0
    obtain ⟨U1, hU⟩ : ∃ W, w1.alloc (.cells Z.toArray 33) = W := ⟨_, rfl⟩
    rw [hU] at hGA hzA hNA hBA ⊢
    clear hG1 hz1 hB1 hN hU cb
    refine store_row rfl 33 (.tmp 5) (.tmp 21) rfl rfl rfl hNA rowRc hBl hZl hB1' ?_
    intro w2 hN2 hg2
    have hG2 := hGA.grown hg2 (fun e => by injection e with e; have := nG0.out; omega)
    have hz2 := hzA.grown hg2 (fun e => by injection e with e; omega)
    have hB2 := hBA.grown hg2 hBA.size (fun q hq => by injection hq with hq; have := gH.out; have := nG0.out; omega)
    rw [← hBH.out] at hN2
    clear hGA hzA hNA hBA hg2 hn0

    have hG3 := hG2.alloc (.cells #[.int .i64 0, .int .i64 6, .int .i64 25, .int .i64 0, .int .i64 5, .int .i64 0, .int .i64 33] 3)
    have hz3 := hz2.alloc (.cells #[.int .i64 0, .int .i64 6, .int .i64 25, .int .i64 0, .int .i64 5, .int .i64 0, .int .i64 33] 3)
    have hN3 := hN2.alloc (.cells #[.int .i64 0, .int .i64 6, .int .i64 25, .int .i64 0, .int .i64 5, .int .i64 0, .int .i64 33] 3)
    have hM3 := Blk.new w2 3 [.int .i64 0, .int .i64 6, .int .i64 25, .int .i64 0, .int .i64 5, .int .i64 0, .int .i64 33]
    have hB3 := hB2.alloc hB2.size (.cells #[.int .i64 0, .int .i64 6, .int .i64 25, .int .i64 0, .int .i64 5, .int .i64 0, .int .i64 33] 3)
    have hnm : N < w2.heap.size := hN2.lt
    obtain ⟨M5, hM⟩ : ∃ N, w2.heap.size = N := ⟨_, rfl⟩
    obtain ⟨w3, hw3⟩ : ∃ W, w2.alloc (.cells #[.int .i64 0, .int .i64 6, .int .i64 25, .int .i64 0, .int .i64 5, .int .i64 0, .int .i64 33] 3) = W := ⟨_, rfl⟩
    rw [hw3] at hG3 hz3 hN3 hM3 hB3
    rw [hM] at hM3 hnm
    have nNM := Lib.hid hnm
    have c0 := rc0 hN2
    clear hG2 hz2 hB2 hnm
    have c0' := rc0 hN3
    have cs : w3.cell? ⟨M5, 6, none⟩ = some (.int .i64 33) := hM3.cell 6
    clear hM3 hN2

    go_wp2_with fail
    go_loopw [10] (fun i wr => ∃ j : Nat, j ≤ 32 ∧ i = .int .i64 j ∧ Blk wr N 33 (rcC 6 0 0 0 z16 none 0 0 (fil hs' j) z32 none 0 0) ∧ Blk wr G 33 Z ∧ Blk wr N0 33 Z ∧ Below w.heap.size w wr) (fun i _ => 32 - (intOf i).toNat)
    case atStart => exact ⟨0, Nat.zero_le _, rfl, by rw [fil_zero, hs'l.out]; exact hN3, hG3, hz3, hB3⟩
    case round =>
      clear hN3 hG3 hz3 hB3
      obtain ⟨j, hjl, rfl, hNr, hGr, hzr, hBr⟩ := hrel
      by_cases hlt : j < 32
      · have hji : (j : Int) < 32 := by omega
        have hj9 : (1 : Int) + (j : Int) < (n : Int) := by have := hnF.out; omega
        have cb := hcell.out wr hBr (1 + j) (by have := hnF.out; omega)
        rw [hs'g.out j hlt] at cb
        obtain ⟨x, hx⟩ : ∃ x, hs'.getD j 0 = x := ⟨_, rfl⟩
        rw [hx] at cb
        have hjb : j < hs'.length := by rw [hs'l.out]; exact hlt
        have hst := fil_step hjb
        rw [hx] at hst
        have hfl := fil_len (l := hs') (j := j) (by omega)
        rw [hs'l.out] at hfl
        have d0 := (rc7 hNr rfl) j (.int .u8 0) (by rw [List.getElem?_map, fil_at hjb]; rfl)
        have f0 := hNr.frozen (21 + j)
        have hNs : Blk (wr.setCell ⟨N, 21 + j, none⟩ (.int .u8 x)) N 33 (rcC 6 0 0 0 z16 none 0 0 (fil hs' (j + 1)) z32 none 0 0) := by
          have h := hNr.set (21 + j) (.int .u8 x)
          rw [rcC_sethash rfl hfl hlt, ← hst] at h
          exact h
        have hGs : Blk (wr.setCell ⟨N, 21 + j, none⟩ (.int .u8 x)) G 33 Z := hGr.far (by show G ≠ N; have := nGN.out; have := nG0.out; omega) _
        have hzs : Blk (wr.setCell ⟨N, 21 + j, none⟩ (.int .u8 x)) N0 33 Z := hzr.far (by show N0 ≠ N; have := nGN.out; omega) _
        have hBs : Below w.heap.size w (wr.setCell ⟨N, 21 + j, none⟩ (.int .u8 x)) := hBr.setCell (p := ⟨N, 21 + j, none⟩) (by show w.heap.size ≤ N; have := nGN.out; have := nG0.out; have := gH.out; omega) _
        have hltH := Lib.hid hlt
        clear hlt hjl hNr hGr hzr hBr hx hst hfl hjb
        go_wp2
        exact ⟨⟨j + 1, by have := hltH.out; omega, by congr 1, hNs, hGs, hzs, hBs⟩, by simp only [intOf]; have := hltH.out; omega⟩
      · obtain rfl : j = 32 := by omega
        have hji : ¬ ((32 : Nat) : Int) < 32 := by omega
        rw [fil_all hs'l.out.symm] at hNr
        have c0r := rc0 hNr
        clear hlt hjl
        go_wp2_with ((with_reducible refine wpList_load_blk rfl 33 (.tmp 4) rfl ?_ hzr rowRc hZl ?_); rfl; refine RowKit.Hid.out ?_)
        refine Lib.hid ?_
        try simp only [Act.put, List.setIfInBounds_toArray, List.set_cons_zero, List.set_cons_succ]
        refine store_row rfl 33 (.tmp 2) (.tmp 128) rfl rfl rfl hGr rowRc hZl hZl hZ1 ?_
        intro wY hGY hgY
        have hrZ : IsRow Try.prog 33 Z.length := rowRc_of hZl
        have hBY := hBr.grown hgY hBr.size (fun q hq => by injection hq with hq; have := gH.out; omega)
        go_wp2_with fail
        refine bodyPost_ret (results_blk_tmp rfl rfl hGY hrZ) rfl ?_
        rw [hend.out]
        exact ⟨none, 0, none, 0, by rw [← hZH.out]; rfl, recAt_nil wY 0 0, (fun x hx => by cases hx), (fun x hx => by cases hx), hBY⟩
  have hli : ¬ (33 : Int) < (n : Int) := by omega
  have hend := Lib.hid (hgood (by omega))
  rw [hrd] at hend
  have hDq : rC rd none 0 none 0 = rcC 6 0 0 0 z16 none 0 0 hs' z32 none 0 0 := by rw [← hrd]; rfl
  have hDqH := Lib.hid hDq
  rw [← hDq] at hDl hD1
  obtain ⟨D, hD⟩ : ∃ D, rC rd none 0 none 0 = D := ⟨_, rfl⟩
  rw [hD] at hDl hD1
  have hDe := Lib.hid hD
  have hlo : Hid ((∀ x : Addr, none = some x → w.heap.size ≤ x.block ∧ x.block ≠ G) ∧ (∀ x : Addr, none = some x → w.heap.size ≤ x.block ∧ x.block ≠ G)) := Lib.hid (And.intro (fun x hx => by cases hx) (fun x hx => by cases hx))
  clear hI hr hn hln hlr hrr hshort hlong hgood hs hl hrd hDq hD

  go_enter Try.func14, Try.ntmps14
  go_wp2_with ((with_reducible refine wpList_alloc_blk rfl 33 rfl hZ0 ?_); refine RowKit.Hid.out ?_)
  refine Lib.hid ?_
  clear hV g9
  go_wp2_with ((with_reducible refine build_row rfl 33 #[] rfl (cells := Z.toArray) ?_ ?_); (refine Eq.trans (congrArg _ ?_) hbt0; kernel_rfl); refine RowKit.Hid.out ?_)
  refine Lib.hid ?_
  refine wpList_alloc_blk rfl 33 rfl hZ0 ?_
  try simp only [Act.put, List.setIfInBounds_toArray, List.set_cons_zero, List.set_cons_succ]
  have hGA := hk.alloc (.cells Z.toArray 33)
  have hNA := Blk.new V 33 Z
  have hBA := hb.alloc hb.size (.cells Z.toArray 33)
  have hnG : G < V.heap.size := hk.lt
  obtain ⟨N0, hN⟩ : ∃ N, V.heap.size = N := ⟨_, rfl⟩
  rw [hN] at hNA hnG ⊢
  have nG0 := Lib.hid hnG
  obtain ⟨U, hU⟩ : ∃ W, V.alloc (.cells Z.toArray 33) = W := ⟨_, rfl⟩
  rw [hU] at hGA hNA hBA ⊢
  clear hk hb hN hU
  refine store_row rfl 33 (.tmp 4) (.tmp 12) rfl rfl rfl hNA rowRc hZl hZl hZ1 ?_
  intro w1 hz1 hg1
  have hG1 := hGA.grown hg1 (fun e => by injection e with e; omega)
  have hB1 := hBA.grown hg1 hBA.size (fun q hq => by injection hq with hq; have := gH.out; omega)
  clear hGA hNA hBA hg1 hnG

  have cb : w1.cell? ⟨bb, off, none⟩ = some (.int .u8 6) := by have := hcell.out w1 hB1 0 (by have := hnH.out; omega); rw [Nat.add_zero] at this; exact this
  go_wp2_with ((with_reducible refine build_row rfl 33 #[(0, .tmp 20)] rfl (cells := B.toArray) ?_ ?_); (refine Eq.trans (congrArg _ ?_) hbt; kernel_rfl); refine RowKit.Hid.out ?_)
  refine Lib.hid ?_
  refine wpList_alloc_blk rfl 33 rfl hZ0 ?_
  try simp only [Act.put, List.setIfInBounds_toArray, List.set_cons_zero, List.set_cons_succ]
  have hGA := hG1.alloc (.cells Z.toArray 33)
  have hzA := hz1.alloc (.cells Z.toArray 33)
  have hNA := Blk.new w1 33 Z
  have hBA := hB1.alloc hB1.size (.cells Z.toArray 33)
  have hn0 : N0 < w1.heap.size := hz1.lt
  obtain ⟨N, hN⟩ : ∃ N, w1.heap.size = N := ⟨_, rfl⟩
  rw [hN] at hNA hn0 ⊢
  have nGN := Lib.hid hn0
  obtain ⟨U1, hU⟩ : ∃ W, w1.alloc (.cells Z.toArray 33) = W := ⟨_, rfl⟩
  rw [hU] at hGA hzA hNA hBA ⊢
  clear hG1 hz1 hB1 hN hU cb
  refine store_row rfl 33 (.tmp 5) (.tmp 21) rfl rfl rfl hNA rowRc hBl hZl hB1' ?_
  intro w2 hN2 hg2
  have hG2 := hGA.grown hg2 (fun e => by injection e with e; have := nG0.out; omega)
  have hz2 := hzA.grown hg2 (fun e => by injection e with e; omega)
  have hB2 := hBA.grown hg2 hBA.size (fun q hq => by injection hq with hq; have := gH.out; have := nG0.out; omega)
  rw [← hBH.out] at hN2
  clear hGA hzA hNA hBA hg2 hn0

  have hG3 := hG2.alloc (.cells #[.int .i64 0, .int .i64 6, .int .i64 25, .int .i64 0, .int .i64 5, .int .i64 0, .int .i64 33] 3)
  have hz3 := hz2.alloc (.cells #[.int .i64 0, .int .i64 6, .int .i64 25, .int .i64 0, .int .i64 5, .int .i64 0, .int .i64 33] 3)
  have hN3 := hN2.alloc (.cells #[.int .i64 0, .int .i64 6, .int .i64 25, .int .i64 0, .int .i64 5, .int .i64 0, .int .i64 33] 3)
  have hM3 := Blk.new w2 3 [.int .i64 0, .int .i64 6, .int .i64 25, .int .i64 0, .int .i64 5, .int .i64 0, .int .i64 33]
  have hB3 := hB2.alloc hB2.size (.cells #[.int .i64 0, .int .i64 6, .int .i64 25, .int .i64 0, .int .i64 5, .int .i64 0, .int .i64 33] 3)
  have hnm : N < w2.heap.size := hN2.lt
  obtain ⟨M5, hM⟩ : ∃ N, w2.heap.size = N := ⟨_, rfl⟩
  obtain ⟨w3, hw3⟩ : ∃ W, w2.alloc (.cells #[.int .i64 0, .int .i64 6, .int .i64 25, .int .i64 0, .int .i64 5, .int .i64 0, .int .i64 33] 3) = W := ⟨_, rfl⟩
  rw [hw3] at hG3 hz3 hN3 hM3 hB3
  rw [hM] at hM3 hnm
  have nNM := Lib.hid hnm
  have c0 := rc0 hN2
  clear hG2 hz2 hB2 hnm
  have c0' := rc0 hN3
  have cs : w3.cell? ⟨M5, 6, none⟩ = some (.int .i64 33) := hM3.cell 6
  clear hM3 hN2

  go_wp2_with fail
  go_loopw [10] (fun i wr => ∃ j : Nat, j ≤ 32 ∧ i = .int .i64 j ∧ Blk wr N 33 (rcC 6 0 0 0 z16 none 0 0 (fil hs' j) z32 none 0 0) ∧ Blk wr G 33 Z ∧ Blk wr N0 33 Z ∧ Below w.heap.size w wr) (fun i _ => 32 - (intOf i).toNat)
  case atStart => exact ⟨0, Nat.zero_le _, rfl, by rw [fil_zero, hs'l.out]; exact hN3, hG3, hz3, hB3⟩
  case round =>
    clear hN3 hG3 hz3 hB3
    obtain ⟨j, hjl, rfl, hNr, hGr, hzr, hBr⟩ := hrel
    by_cases hlt : j < 32
    · have hji : (j : Int) < 32 := by omega
      have hj9 : (1 : Int) + (j : Int) < (n : Int) := by have := hnF.out; omega
      have cb := hcell.out wr hBr (1 + j) (by have := hnF.out; omega)
      rw [hs'g.out j hlt] at cb
      obtain ⟨x, hx⟩ : ∃ x, hs'.getD j 0 = x := ⟨_, rfl⟩
      rw [hx] at cb
      have hjb : j < hs'.length := by rw [hs'l.out]; exact hlt
      have hst := fil_step hjb
      rw [hx] at hst
      have hfl := fil_len (l := hs') (j := j) (by omega)
      rw [hs'l.out] at hfl
      have d0 := (rc7 hNr rfl) j (.int .u8 0) (by rw [List.getElem?_map, fil_at hjb]; rfl)
      have f0 := hNr.frozen (21 + j)
      have hNs : Blk (wr.setCell ⟨N, 21 + j, none⟩ (.int .u8 x)) N 33 (rcC 6 0 0 0 z16 none 0 0 (fil hs' (j + 1)) z32 none 0 0) := by
        have h := hNr.set (21 + j) (.int .u8 x)
        rw [rcC_sethash rfl hfl hlt, ← hst] at h
        exact h
      have hGs : Blk (wr.setCell ⟨N, 21 + j, none⟩ (.int .u8 x)) G 33 Z := hGr.far (by show G ≠ N; have := nGN.out; have := nG0.out; omega) _
      have hzs : Blk (wr.setCell ⟨N, 21 + j, none⟩ (.int .u8 x)) N0 33 Z := hzr.far (by show N0 ≠ N; have := nGN.out; omega) _
      have hBs : Below w.heap.size w (wr.setCell ⟨N, 21 + j, none⟩ (.int .u8 x)) := hBr.setCell (p := ⟨N, 21 + j, none⟩) (by show w.heap.size ≤ N; have := nGN.out; have := nG0.out; have := gH.out; omega) _
      have hltH := Lib.hid hlt
      clear hlt hjl hNr hGr hzr hBr hx hst hfl hjb
      go_wp2
      exact ⟨⟨j + 1, by have := hltH.out; omega, by congr 1, hNs, hGs, hzs, hBs⟩, by simp only [intOf]; have := hltH.out; omega⟩
    · obtain rfl : j = 32 := by omega
      have hji : ¬ ((32 : Nat) : Int) < 32 := by omega
      rw [fil_all hs'l.out.symm] at hNr
      have c0r := rc0 hNr
      clear hlt hjl
      rw [← hDqH.out] at hNr
      clear hDqH
      have hAt := hatH.out wr

      have cr := r17Right_any rd none none 0 0 wr hokH.out hAt hnnH.out
      rw [hDe.out] at cr
      obtain ⟨K', hK'⟩ : ∃ K, rightRec rd = K := ⟨_, rfl⟩
      rw [hK'] at cr
      have hdk := hend.out
      rw [hK'] at hdk
      have hdk := Lib.hid hdk
      have hAH := Lib.hid hAt
      rw [hDe.out] at hNr
      clear hend hK'
      go_wp2_with ((with_reducible refine wpList_load_blk rfl 33 (.tmp 5) rfl ?_ hNr rowRc hDl ?_); rfl)
      refine cr.mono ?_
      rintro q wz ⟨rfl, bz⟩
      have hNx := hNr.keep bz hNr.lt
      have hGx := hGr.keep bz hGr.lt
      have hzx := hzr.keep bz hzr.lt
      have hBx := hBr.trans (bz.mono hBr.size)
      have hAx := Lib.hid (hAH.out.keep bz)
      clear cr hNr hGr hzr hBr bz hAH
      cases K' with
      | true =>
        go_wp2_with ((with_reducible refine wpList_load_blk rfl 33 (.tmp 5) rfl ?_ hNx rowRc hDl ?_); rfl; refine RowKit.Hid.out ?_)
        refine Lib.hid ?_
        try simp only [Act.put, List.setIfInBounds_toArray, List.set_cons_zero, List.set_cons_succ]
        refine store_row rfl 33 (.tmp 2) (.tmp 133) rfl rfl rfl hGx rowRc hDl hZl hD1 ?_
        intro wY hGY hgY
        have hrC : IsRow Try.prog 33 D.length := rowRc_of hDl
        have hBY := hBx.grown hgY hBx.size (fun q hq => by injection hq with hq; have := gH.out; omega)
        go_wp2_with fail
        refine bodyPost_ret (results_blk_tmp rfl rfl hGY hrC) rfl ?_
        rw [hdk.out]
        try rw [if_pos rfl]
        refine ⟨none, 0, none, 0, ?_, ⟨hAx.out.1.grown hgY (fun x hx _ => (hlo.out.1 x hx).2), ?_⟩, fun x hx => (hlo.out.1 x hx).1, fun x hx => (hlo.out.2 x hx).1, hBY⟩
        · rw [← hDe.out]; rfl
        refine ⟨hAx.out.2.1, hAx.out.2.2.1, ?_⟩
        rcases hAx.out.2.2.2 with h0 | ⟨b', off, ha, hc⟩
        · exact .inl h0
        · exact .inr ⟨b', off, ha, fun i hi => hgY.cell (hc i hi) (fun e => by injection e with e; exact (hlo.out.2 ⟨b', off, none⟩ ha).2 e)⟩
      | false =>
        go_wp2_with ((with_reducible refine wpList_load_blk rfl 33 (.tmp 4) rfl ?_ hzx rowRc hZl ?_); rfl; refine RowKit.Hid.out ?_)
        refine Lib.hid ?_
        try simp only [Act.put, List.setIfInBounds_toArray, List.set_cons_zero, List.set_cons_succ]
        refine store_row rfl 33 (.tmp 2) (.tmp 132) rfl rfl rfl hGx rowRc hZl hZl hZ1 ?_
        intro wY hGY hgY
        have hrZ : IsRow Try.prog 33 Z.length := rowRc_of hZl
        have hBY := hBx.grown hgY hBx.size (fun q hq => by injection hq with hq; have := gH.out; omega)
        go_wp2_with fail
        refine bodyPost_ret (results_blk_tmp rfl rfl hGY hrZ) rfl ?_
        rw [hdk.out]
        try rw [if_neg (by decide)]
        exact ⟨none, 0, none, 0, by rw [← hZH.out]; rfl, recAt_nil wY 0 0, (fun x hx => by cases hx), (fun x hx => by cases hx), hBY⟩

end Go.Proofs.Ytaaflnmdaplfkaa

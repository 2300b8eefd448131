/-
  The document's own ids (layer 9). New memory alone is written. Conditions: bytes below 256, at most a million; the place is within them.
-/
import Derived.Test.YtpobplkijfienaaRdModel
import Derived.Great.BuildSlice
namespace Go.Proofs.Ytpobplkijfienaa
open Go.RowKit

set_option maxRecDepth 100000 in
set_option maxHeartbeats 1000000 in
theorem rIds_bad (a : Option Addr) (n c : Nat) (p e A : Int) (w : World) (h : e ≠ 0) :
    Calls Try.prog 27 #[.agg #[.slice a n c, .int .i64 p, .int .i64 e], .int .i64 A] w fun r w' => r = .returned (.tuple #[.agg #[.slice a n c, .int .i64 p, .int .i64 e], .slice none 0 0]) ∧ Below w.heap.size w w' := by
  go_enter Try.func27, Try.ntmps27
  go_wp2
  refine bodyPost_ret (results_blk_tmp rfl rfl (rd_new1 _ _ _ _ _ _ _) rowRd) rfl ?_
  exact ⟨rfl, below2 w _ _⟩

set_option maxRecDepth 100000 in
set_option maxHeartbeats 1000000 in
theorem rIds_neg (a : Option Addr) (n c p : Nat) (A : Int) (w : World) (h : A < 0) :
    Calls Try.prog 27 #[.agg #[.slice a n c, .int .i64 (p : Int), .int .i64 0], .int .i64 A] w fun r w' => r = .returned (.tuple #[.agg #[.slice a n c, .int .i64 (p : Int), .int .i64 1], .slice none 0 0]) ∧ Below w.heap.size w w' := by
  obtain ⟨X, hX⟩ : ∃ X : Int, X = 1 := ⟨1, rfl⟩
  go_enter Try.func27, Try.ntmps27
  go_wp2_with fail
  rw [← hX]
  obtain ⟨V, hV⟩ : ∃ V, (w.alloc (.cells #[.slice a n c, .int .i64 (p : Int), .int .i64 0] 31)).alloc (.cells #[.slice none 0 0, .int .i64 0, .int .i64 0] 31) = V := ⟨_, rfl⟩
  have hx : Blk V w.heap.size 31 (rdC a n c p 0) := by rw [← hV]; exact (Blk.new w _ (rdC a n c p 0)).alloc _
  have hr : Blk V (w.heap.size + 1) 31 (rdC none 0 0 0 0) := by rw [← hV]; exact Blk.new1 w _ _ (rdC none 0 0 0 0)
  have hB : Below w.heap.size w V := by rw [← hV]; exact below2 w _ _
  rw [hV]
  clear hV
  refine (rfail_any a n c p 0 X V).mono ?_
  rintro r w2 ⟨rfl, b2⟩
  have hr2 := hr.keep b2 hr.lt
  have hB2 := hB.trans (b2.mono (Nat.le_of_lt hx.lt))
  rw [show badOf 0 X = X from rfl]
  subst hX
  go_wp2_with (refine wpList_store_part (cur := rdC none 0 0 0 0) (cs := rdC a n c p 1) rfl 31 (.tmp 4) (.tmp 17) rfl rfl rfl hr2 rowRd (by simp [rdC]) (by simp [rdC, Value.oneCell']) ?_; intro w9 hR9 hg9)
  have hR9 := hR9.cast (overV_all _ _ (by rfl))
  (try simp only [Exit.inBlock, Exit.then])
  refine bodyPost_ret (results_blk_tmp rfl rfl hR9 rowRd) rfl ?_
  exact ⟨rfl, hB2.trans (below_of_grown hg9 (Nat.le_succ _) hr2.lt)⟩

set_option maxRecDepth 100000 in
set_option maxHeartbeats 1000000 in
theorem rIds_short (a : Option Addr) (n c p : Nat) (A : Int) (w : World) (hp : p ≤ n) (hm : n ≤ 1000000) (h : ¬ A < 0) (h1 : (((n - p) / 32 : Nat) : Int) < A) :
    Calls Try.prog 27 #[.agg #[.slice a n c, .int .i64 (p : Int), .int .i64 0], .int .i64 A] w fun r w' => r = .returned (.tuple #[.agg #[.slice a n c, .int .i64 (p : Int), .int .i64 2], .slice none 0 0]) ∧ Below w.heap.size w w' := by
  obtain ⟨X, hX⟩ : ∃ X : Int, X = 2 := ⟨2, rfl⟩
  have hq : ((n : Int) - p).tdiv 32 = (((n - p) / 32 : Nat) : Int) := by rw [Int.tdiv_eq_ediv_of_nonneg (by omega)]; omega
  go_enter Try.func27, Try.ntmps27
  go_wp2_with fail
  rw [← hX]
  obtain ⟨V, hV⟩ : ∃ V, (w.alloc (.cells #[.slice a n c, .int .i64 (p : Int), .int .i64 0] 31)).alloc (.cells #[.slice none 0 0, .int .i64 0, .int .i64 0] 31) = V := ⟨_, rfl⟩
  have hx : Blk V w.heap.size 31 (rdC a n c p 0) := by rw [← hV]; exact (Blk.new w _ (rdC a n c p 0)).alloc _
  have hr : Blk V (w.heap.size + 1) 31 (rdC none 0 0 0 0) := by rw [← hV]; exact Blk.new1 w _ _ (rdC none 0 0 0 0)
  have hB : Below w.heap.size w V := by rw [← hV]; exact below2 w _ _
  rw [hV]
  clear hV
  refine (rfail_any a n c p 0 X V).mono ?_
  rintro r w2 ⟨rfl, b2⟩
  have hr2 := hr.keep b2 hr.lt
  have hB2 := hB.trans (b2.mono (Nat.le_of_lt hx.lt))
  rw [show badOf 0 X = X from rfl]
  subst hX
  go_wp2_with (refine wpList_store_part (cur := rdC none 0 0 0 0) (cs := rdC a n c p 2) rfl 31 (.tmp 4) (.tmp 28) rfl rfl rfl hr2 rowRd (by simp [rdC]) (by simp [rdC, Value.oneCell']) ?_; intro w9 hR9 hg9)
  have hR9 := hR9.cast (overV_all _ _ (by rfl))
  (try simp only [Exit.inBlock, Exit.then])
  refine bodyPost_ret (results_blk_tmp rfl rfl hR9 rowRd) rfl ?_
  exact ⟨rfl, hB2.trans (below_of_grown hg9 (Nat.le_succ _) hr2.lt)⟩

theorem fold_set9 (off : Nat) : ∀ (X : List Value) (s : Nat) (L : List Value), off + s + X.length ≤ L.length →
    (X.zipIdx s).foldl (fun (cs : Array Value) (p : Value × Nat) => cs.setIfInBounds (off + p.2) p.1) L.toArray = (L.take (off + s) ++ (X ++ L.drop (off + s + X.length))).toArray
  | [], s, L, _ => by simp
  | x :: X, s, L, h => by
    rw [List.zipIdx_cons, List.foldl_cons, List.setIfInBounds_toArray]
    rw [fold_set9 off X (s + 1) (L.set (off + s) x) (by rw [List.length_set]; simp only [List.length_cons] at h; omega)]
    congr 1
    simp only [List.length_cons] at h ⊢
    have h1 : (L.set (off + s) x).take (off + (s + 1)) = L.take (off + s) ++ [x] := by
      rw [show off + (s + 1) = off + s + 1 by omega, List.take_add_one, List.take_set_of_le (Nat.le_refl _), List.getElem?_set_self (by omega)]
      rfl
    have h2 : (L.set (off + s) x).drop (off + (s + 1) + X.length) = L.drop (off + s + (X.length + 1)) := by
      rw [List.drop_set_of_lt (by omega), show off + (s + 1) + X.length = off + s + (X.length + 1) by omega]
    rw [h1, h2]
    simp
theorem fill_one9 (place : Nat → Option (Nat × Nat)) (L : List Value) (i off size : Nat) (v : Value) (X : List Value) (rest : List (Nat × Value)) (hp : place i = some (off, size)) (hv : v.cells = X.toArray) (hs : X.length = size) (hf : off + X.length ≤ L.length) :
    Instr.fill place L.toArray ((i, v) :: rest) = Instr.fill place (L.take off ++ (X ++ L.drop (off + X.length))).toArray rest := by
  subst hs
  have h := fold_set9 off X 0 L (by omega)
  rw [Nat.add_zero] at h
  rw [Instr.fill, hp, hv, ← h]
  simp only [List.size_toArray, ne_eq, not_true_eq_false, decide_false, Bool.false_or, Array.zipIdx_toArray]
  rw [if_neg (by simp; omega)]
  simp
/-- A slice of one row: what it is built of. -/
theorem fill_row (place : Nat → Option (Nat × Nat)) (L XS : List Value) (n : Nat) (hp : place 0 = some (0, n)) (hX : XS.length = n) (hL : L.length = n) : Instr.fill place L.toArray [(0, .agg XS.toArray)] = some XS.toArray := by
  rw [fill_one9 place L 0 0 n (.agg XS.toArray) XS [] hp rfl hX (by omega), Instr.fill]
  rw [List.take_zero, List.nil_append, Nat.zero_add, hX, List.drop_of_length_le (by omega), List.append_nil]
theorem fill_id (i0 : TypeInfo) (z : Value) (hs : i0.size = 32) (XS : List Value) (hX : XS.length = 32) (ps : List (Nat × Value)) (hps : ps = [(0, .agg XS.toArray)]) : Instr.fill (fun i => some (i * i0.size, i0.size)) ((Array.range (1 * i0.size)).map (z.cells[· % z.cells.size]!)) ps = some XS.toArray := by
  rw [hs, hps]
  have h := fill_row (fun i => some (i * 32, 32)) ((Array.range (1 * 32)).map (z.cells[· % z.cells.size]!)).toList XS 32 rfl hX (by simp)
  rw [Array.toArray_toList] at h
  exact h
theorem ids_step (xs : List Int) (p j Q : Nat) (h : p + 32 * j = Q) : ((xs.drop p).take (32 * (j + 1))).map (Value.int .u8) = ((xs.drop p).take (32 * j)).map (Value.int .u8) ++ ((xs.drop Q).take 32).map (Value.int .u8) := by
  subst h
  rw [show 32 * (j + 1) = 32 * j + 32 by omega, List.take_add, List.map_append, List.drop_drop]
theorem own_stay9 {w w' : World} {b : Nat} {e : TypeId} {size : Nat} {v : Value} {n : Nat} {xs : List Value} (h : w.ownsRow b e size v n xs) (hb : Below w.heap.size w w') : w'.ownsRow b e size v n xs :=
  h.kept (grown_of_below hb none) (by cases hv : v.ownBlock <;> simp)
theorem own_far9 {w w' : World} {B g : Nat} {e : TypeId} {size : Nat} {v : Value} {n : Nat} {xs : List Value} (h : w.ownsRow B e size v n xs) (hg : w.grownBy w' (some g)) (hB : g < B) : w'.ownsRow B e size v n xs :=
  h.kept hg (by
    cases hv : v.ownBlock with
    | none => simp
    | some o =>
      have := (h.lt o hv).1
      simp only [ne_eq, Option.some.injEq]
      omega)
theorem add_at9 (b j : Nat) : (⟨b, 0, none⟩ : Addr).add j = ⟨b, j, none⟩ := by unfold Addr.add; split <;> simp_all
theorem own_slice32 {w : World} {base : Nat} {e : TypeId} {size : Nat} {v : Value} {n : Nat} {xs : List Value} (h : w.ownsRow base e size v n xs) : ∃ b c, v = .slice b n c := by
  rcases h.2 with ⟨rfl, rfl⟩ | ⟨g, cap, cur, rfl, _⟩
  · exact ⟨_, _, rfl⟩
  · exact ⟨_, _, rfl⟩
theorem own_low9 {w : World} {B B' : Nat} {e : TypeId} {size : Nat} {v : Value} {n : Nat} {xs : List Value} (h : w.ownsRow B e size v n xs) (hB : B' ≤ B) : w.ownsRow B' e size v n xs := by
  refine ⟨h.1, ?_⟩
  rcases h.2 with h0 | ⟨g, cap, cur, hv, hb, hr⟩
  · exact .inl h0
  · exact .inr ⟨g, cap, cur, hv, Nat.le_trans hB hb, hr⟩
theorem wrap_two (a b : Nat) (h : a + b ≤ 100000000) : wrap64 ((a : Int) + (b : Int)) = ((a + b : Nat) : Int) := by unfold wrap64; omega
theorem sizeId9 : (Try.prog.info? 55).map (·.size) = some 32 := by kernel_rfl
theorem rowId9 : IsRow Try.prog 55 32 := IsRow.array Try.underlying55 sizeId9
theorem info_id9 : ∃ i, Try.prog.info? 55 = some i ∧ i.zero = some (.agg (List.replicate 32 (Value.int .u8 0)).toArray) ∧ i.size = 32 ∧ i.bytes = 32 := by
  have h : (Try.prog.info? 55).map (fun i => (i.zero, i.size, i.bytes)) = some (some (.agg (List.replicate 32 (Value.int .u8 0)).toArray), 32, 32) := by kernel_rfl
  cases hq : Try.prog.info? 55 with
  | none => simp [hq] at h
  | some i => rw [hq] at h; simp at h; exact ⟨i, rfl, by simpa using h.1, h.2.1, h.2.2⟩
theorem zeroId9 : Zero Try.prog 55 (List.replicate 32 (Value.int .u8 0)) := by unfold Zero; kernel_rfl

set_option maxRecDepth 100000 in
set_option maxHeartbeats 1000000 in
theorem rIds_ok (a : Option Addr) (n c p A : Nat) (xs : List Int) (w : World) (hI : Ints .u8 w a n c xs) (hm : n ≤ 1000000) (hA : p + 32 * A ≤ n) :
    Calls Try.prog 27 #[.agg #[.slice a n c, .int .i64 (p : Int), .int .i64 0], .int .i64 (A : Int)] w fun r w' => ∃ b c', r = .returned (.tuple #[.agg #[.slice a n c, .int .i64 ((p + 32 * A : Nat) : Int), .int .i64 0], .slice b A c']) ∧ w'.ownsRow w.heap.size 55 32 (.slice b A c') A (((xs.drop p).take (32 * A)).map (Value.int .u8)) ∧ Below w.heap.size w w' := by
  obtain ⟨i0, hi, hz0, hz1, hz2⟩ := info_id9
  have hq : ((n : Int) - p).tdiv 32 = (((n - p) / 32 : Nat) : Int) := by rw [Int.tdiv_eq_ediv_of_nonneg (by omega)]; omega
  have hle : ¬ (((n - p) / 32 : Nat) : Int) < (A : Int) := by omega
  have hA0 : ¬ (A : Int) < 0 := by omega
  go_enter Try.func27, Try.ntmps27
  go_wp2_with fail
  obtain ⟨V, hV⟩ : ∃ V, (w.alloc (.cells #[.slice a n c, .int .i64 (p : Int), .int .i64 0] 31)).alloc (.cells #[.slice none 0 0, .int .i64 0, .int .i64 0] 31) = V := ⟨_, rfl⟩
  have hx : Blk V w.heap.size 31 (rdC a n c ((p + 32 * 0 : Nat) : Int) 0) := by rw [← hV]; exact (Blk.new w _ (rdC a n c p 0)).alloc _
  have hr : Blk V (w.heap.size + 1) 31 (rdC none 0 0 0 0) := by rw [← hV]; exact Blk.new1 w _ _ (rdC none 0 0 0 0)
  have hB : Below w.heap.size w V := by rw [← hV]; exact below2 w _ _
  have hVs : w.heap.size + 2 ≤ V.heap.size := by rw [← hV, size2]; exact Nat.le_refl _
  rw [hV]
  clear hV hq
  obtain ⟨G, hG⟩ : ∃ G, w.heap.size = G := ⟨_, rfl⟩
  rw [hG] at hx hr hB hVs ⊢
  have hGH := Lib.hid hG
  have IK := Lib.hid (fun w' (h : Below G w w') => (hI.keep (by rw [hG]; exact h) : Ints .u8 w' a n c xs))
  have hIH := Lib.hid hI
  have hAH := Lib.hid hA
  have hmH := Lib.hid hm
  clear hG hI hA hm
  go_loopw [6, 7] (fun v i wr => ∃ j : Nat, j ≤ A ∧ i = .int .i64 j ∧ wr.ownsRow (G + 2) 55 32 v j (((xs.drop p).take (32 * j)).map (Value.int .u8)) ∧ Blk wr G 31 (rdC a n c ((p + 32 * j : Nat) : Int) 0) ∧ Blk wr (G + 1) 31 (rdC none 0 0 0 0) ∧ Below G w wr ∧ G + 2 ≤ wr.heap.size) (fun _ i _ => A - (intOf i).toNat)
  case atStart => exact ⟨0, Nat.zero_le _, rfl, World.ownsRow_nil _ _ _ _, hx, hr, hB, hVs⟩
  case round =>
    clear hx hr hB hVs
    obtain ⟨j, hj, rfl, hown, hx, hr, hB, hS⟩ := hrel
    by_cases hlt : j < A
    · have hji : (j : Int) < (A : Int) := by omega
      obtain ⟨Q, hQ⟩ : ∃ Q, p + 32 * j = Q := ⟨_, rfl⟩
      rw [hQ] at hx
      have hQn : Q + 32 ≤ n := by have := hAH.out; omega
      have hQH := Lib.hid hQ
      obtain ⟨XS, hXS⟩ : ∃ XS, ((xs.drop Q).take 32).map (Value.int .u8) = XS := ⟨_, rfl⟩
      have hXl : XS.length = 32 := by rw [← hXS, List.length_map, List.length_take, List.length_drop, hIH.out.len]; omega
      have hltH := Lib.hid hlt
      have hltH2 := Lib.hid hlt
      have hXH := Lib.hid hXS
      have hXlH := Lib.hid hXl
      have hQnH := Lib.hid hQn
      obtain ⟨ZL, hZ0, hZl⟩ : ∃ ZL : List Value, Zero Try.prog 55 ZL ∧ ZL.length = 32 := ⟨_, zeroId9, by simp⟩
      obtain ⟨K, hK⟩ : ∃ K, wr.heap.size = K := ⟨_, rfl⟩
      have hN : Blk (wr.alloc (.cells ZL.toArray 55)) K 55 (mixed XS ZL 0) := by rw [mixed_zero, ← hK]; exact Blk.new wr _ _
      have hB1 := hB.alloc (by omega) (.cells ZL.toArray 55)
      have hx1 := hx.alloc (.cells ZL.toArray 55)
      have hr1 := hr.alloc (.cells ZL.toArray 55)
      have hown1 := hown.alloc (.cells ZL.toArray 55)
      obtain ⟨W1, hW1⟩ : ∃ W1, wr.alloc (.cells ZL.toArray 55) = W1 := ⟨_, rfl⟩
      rw [hW1] at hN hB1 hx1 hr1 hown1
      clear hQ hXS hXl hlt hj
      have OWN := Lib.hid (fun w' (h : Below K W1 w') => (own_stay9 hown (Below.trans (show Below wr.heap.size wr W1 by rw [← hW1]; exact below1 wr _) (by rw [hK]; exact h)) : w'.ownsRow (G + 2) 55 32 _ j _))
      have hKs : K < W1.heap.size := hN.lt
      have hGK : G + 2 ≤ K := by omega
      have hGKH := Lib.hid hGK
      have hKsH := Lib.hid hKs
      clear hGK hKs
      go_wp2_with (with_reducible refine wpList_alloc_blk rfl 55 rfl hZ0 ?_)
      (try rw [hW1])
      clear hW1 hK hZ0
      go_loopw [9] (fun t w2 => ∃ k : Nat, k ≤ 32 ∧ t = .int .i64 k ∧ Blk w2 K 55 (mixed XS ZL k) ∧ W1.grownBy w2 (some K)) (fun t _ => 32 - (intOf t).toNat)
      case atStart => exact ⟨0, by omega, rfl, hN, grown_refl _ _⟩
      case round =>
        clear hN
        obtain ⟨k, hk, rfl, hM, hgr⟩ := hrel
        by_cases hlt : k < 32
        · have hx2 := hx1.grown hgr (by have := hGKH.out; simp; omega)
          have c0 : wr.cell? ⟨G, 0, none⟩ = some (.slice a n c) := hx2.cell 0
          have c1 : wr.cell? ⟨G, 1, none⟩ = some (.int .i64 (Q : Int)) := hx2.cell 1
          have hI2 := IK.out _ (hB1.trans (below_of_grown hgr (by have := hGKH.out; omega) hKsH.out))
          obtain ⟨b, off, rfl, hat⟩ := hI2.at (by have := hQnH.out; omega)
          have ce := hat (Q + k) (by have := hQnH.out; omega)
          have cm := hM.cell k
          rw [mixed_at XS ZL k 32 hXlH.out hZl hlt] at cm
          obtain ⟨zv, hzv⟩ : ∃ zv, ZL[k]? = some zv := ⟨ZL[k]'(by omega), List.getElem?_eq_getElem (by omega)⟩
          rw [hzv] at cm
          have hsum := Lib.hid (show Q + k ≤ 100000000 by have := hQnH.out; have := hmH.out; omega)
          have cf : wr.frozen? ⟨K, k, none⟩ = false := Blk.frozen hM k
          have hxv : XS[k]? = some (.int .u8 (xs.getD (Q + k) 0)) := by
            rw [← hXH.out, List.getElem?_map, List.getElem?_take_of_lt hlt, List.getElem?_drop, List.getD_eq_getElem?_getD, List.getElem?_eq_getElem (by rw [hIH.out.len]; have := hQnH.out; omega)]
            rfl
          have hset := hM.set k (.int .u8 (xs.getD (Q + k) 0))
          rw [mixed_set XS ZL k 32 hXlH.out hZl hlt _ hxv] at hset
          have hg2 : W1.grownBy (wr.setCell ⟨K, k, none⟩ (.int .u8 (xs.getD (Q + k) 0))) (some K) := grown_trans hgr (grown_setCell _ _ _ _)
          have hsetH := Lib.hid hset
          have hg2H := Lib.hid hg2
          have hki : (k : Int) < 32 := by omega
          have hqn : (Q : Int) + 32 ≤ (n : Int) := by have := hQnH.out; omega
          have hnm : (n : Int) ≤ 1000000 := by have := hmH.out; omega
          have hltkH := Lib.hid hlt
          obtain ⟨xv, hxe⟩ : ∃ xv, xs.getD (Q + k) 0 = xv := ⟨_, rfl⟩
          rw [hxe] at ce hsetH hg2H
          clear hset hg2 hlt hk hM hgr hx2 hat hxv hI2 hxe hQn hltH hsum hzv
          go_wp2
          exact ⟨⟨k + 1, by have := hltkH.out; omega, by congr 1, hsetH.out, hg2H.out⟩, by simp only [intOf]; have := hltkH.out; omega⟩
        · have hk2 : k = 32 := by omega
          have hM := hM.cast (show mixed XS ZL k = XS by rw [hk2]; exact mixed_all XS ZL 32 hXlH.out hZl)
          have hki : ¬ (k : Int) < 32 := by omega
          have hx2 := hx1.grown hgr (by have := hGKH.out; simp; omega)
          have hr2 := hr1.grown hgr (by have := hGKH.out; simp; omega)
          have c1 : wr.cell? ⟨G, 1, none⟩ = some (.int .i64 (Q : Int)) := hx2.cell 1
          have f1 : wr.frozen? ⟨G, 1, none⟩ = false := Blk.frozen hx2 1
          have hp1 : (Q : Int) + 32 ≤ 2000000 := by have := hQnH.out; have := hmH.out; omega
          have hpp := Blk.set hx2 1 (.int .i64 ((Q : Int) + 32))
          have hrr := hr2.far (p := ⟨G, 1, none⟩) (by simp) (.int .i64 ((Q : Int) + 32))
          have hMM := hM.far (p := ⟨G, 1, none⟩) (by have := hGKH.out; simp; omega) (.int .i64 ((Q : Int) + 32))
          have hppH := Lib.hid hpp
          have hrrH := Lib.hid hrr
          have hMMH := Lib.hid hMM
          have hgrH := Lib.hid hgr
          clear hk2 hk hlt hpp hrr hMM hM hgr hx2 hr2 hQn hltH hZl
          go_wp2_with (first
            | (refine wpList_load_blk rfl 55 (.tmp 8) rfl ?_ hMMH.out rowId9 hXlH.out ?_; rfl; refine RowKit.Hid.out ?_)
            | (at_builtin; refine RowKit.Hid.out ?_))
          refine Lib.hid ?_
          obtain ⟨W3, hW3⟩ : ∃ W3, wr.setCell ⟨G, 1, none⟩ (.int .i64 ((Q : Int) + 32)) = W3 := ⟨_, rfl⟩
          have gr3 : wr.grownBy W3 (some G) := by rw [← hW3]; exact grown_setCell _ _ _ _
          have own3 := own_far9 (OWN.out wr (below_of_grown hgrH.out (Nat.le_refl K) hKsH.out)) gr3 (by omega)
          have hB3 : Below G w W3 := by
            have h1 : Below G w wr := hB1.trans (below_of_grown hgrH.out (by have := hGKH.out; omega) hKsH.out)
            rw [← hW3]
            exact h1.setCell (p := ⟨G, 1, none⟩) (Nat.le_refl _) _
          have hx3 : Blk W3 G 31 (rdC a n c ((Q + 32 : Nat) : Int) 0) := by
            rw [← hW3]
            exact hppH.out.cast (by simp [rdC])
          have hr3 : Blk W3 (G + 1) 31 (rdC none 0 0 0 0) := by rw [← hW3]; exact hrrH.out
          rw [hW3]
          clear hppH hrrH hMMH hgrH gr3 hW3 OWN hx1 hr1 hB1 hown1
          refine wpList_buildSlice rfl 51 55 1 #[(0, .tmp 53)] rfl XS.toArray i0 _ Try.underlying51 hi hz0 (by rw [hz1]; decide) (by rw [hz1]; decide) (fill_id i0 _ hz1 XS hXlH.out _ (by rw [Array.toList_map]; rfl)) ?_
          have own4 := own3.alloc (.cells XS.toArray 55)
          have hx4 := hx3.alloc (.cells XS.toArray 55)
          have hr4 := hr3.alloc (.cells XS.toArray 55)
          have hG3 : G + 2 ≤ W3.heap.size := by have := hr3.lt; omega
          have hB4 := hB3.alloc (show G ≤ W3.heap.size by omega) (.cells XS.toArray 55)
          have hnew := Blk.new W3 55 XS
          have hone : ∀ u ∈ XS, u.oneCell' = true := by rw [← hXH.out]; exact ints_oneCell' _ _
          have hj1 : j ≤ 40000 := by have := hltH2.out; have := hAH.out; have := hmH.out; omega
          go_wp2_with (at_builtin; refine wpList_append_own _ rfl _ _ 51 rfl (G + 2) 55 i0 _ 32 32 Try.underlying51 hi hz0 hz1 hz2 (by simp [Value.cells]) (by decide) _ _ _ rfl own4 ⟨W3.heap.size, 0, none⟩ 1 1 XS rfl hXlH.out ?c1 hone ?c3 ?c4 ?c5 ?_)
          case c1 =>
            intro t u ht
            rw [add_at9, hnew.cell]
            exact ht
          case c3 => unfold maxLen; omega
          case c4 => omega
          case c5 => rw [size1]; omega
          intro v5 W5 hown5 hg5 _
          have own5 : W5.ownsRow (G + 2) 55 32 v5 (j + 1) (((xs.drop p).take (32 * (j + 1))).map (Value.int .u8)) := by
            rw [ids_step xs p j Q hQH.out, hXH.out]
            simpa using hown5
          have hx5 := hx4.grown hg5 (fun e => by have := (own4.lt G e.symm).1; omega)
          have hr5 := hr4.grown hg5 (fun e => by have := (own4.lt (G + 1) e.symm).1; omega)
          have hB5 := hB4.grown hg5 (by rw [size1]; omega) (fun q hq => by have := (own4.lt q hq).1; omega)
          have hs5 : G + 2 ≤ W5.heap.size := Nat.le_trans (by rw [size1]; omega) hg5.size
          have hx6 : Blk W5 G 31 (rdC a n c ((p + 32 * (j + 1) : Nat) : Int) 0) := by
            rw [show p + 32 * (j + 1) = Q + 32 by have := hQH.out; omega]; exact hx5
          clear hown5 hg5 own4 own3 hx3 hr3 hx4 hr4 hB3 hB4 hnew hone hx5
          go_wp2
          exact ⟨⟨j + 1, by have := hltH2.out; omega, by congr 1, own5, hx6, hr5, hB5, hs5⟩, by simp only [intOf]; have := hltH2.out; omega⟩
    · have hjA : j = A := by omega
      have hji : ¬ (j : Int) < (A : Int) := by omega
      rw [hjA] at hown hx
      clear hlt hj hjA
      go_wp2_with (first
        | ((refine wpList_load_blk rfl 31 (.tmp 2) rfl ?_ hx rowRd rfl ?_); rfl)
        | (refine wpList_store_part (cur := rdC none 0 0 0 0) (cs := rdC a n c ((p + 32 * A : Nat) : Int) 0) rfl 31 (.tmp 4) (.tmp 56) rfl rfl rfl hr rowRd (by simp [rdC]) (by simp [rdC, Value.oneCell']) ?_; intro w9 hR9 hg9))
      have hR9 := hR9.cast (overV_all _ _ (by rfl))
      have own9 := own_far9 hown hg9 (by omega)
      obtain ⟨rb, rc, hv⟩ := own_slice32 own9
      subst hv
      (try simp only [Exit.inBlock, Exit.then])
      refine bodyPost_ret (results_blk_tmp rfl rfl hR9 rowRd) rfl ?_
      refine ⟨rb, rc, rfl, ?_, ?_⟩
      · rw [hGH.out]
        have h := own_low9 own9 (show G ≤ G + 2 by omega)
        rw [List.map_take, List.map_drop] at h
        exact h
      · rw [hGH.out]
        exact hB.trans (below_of_grown hg9 (Nat.le_succ _) hr.lt)

/-- Place, fault and how many ids, behind Ids(A). -/
def rdIds (n p : Nat) (e A : Int) : Nat × Int × Nat :=
  if e ≠ 0 then (p, e, 0) else if A < 0 then (p, 1, 0) else if (((n - p) / 32 : Nat) : Int) < A then (p, 2, 0) else (p + 32 * A.toNat, 0, A.toNat)
theorem rdIds_le {n p : Nat} (e A : Int) (h : p ≤ n) : (rdIds n p e A).1 ≤ n ∧ 32 * (rdIds n p e A).2.2 ≤ n - p := by
  unfold rdIds
  split
  · exact ⟨h, Nat.zero_le _⟩
  split
  · exact ⟨h, Nat.zero_le _⟩
  split
  · exact ⟨h, Nat.zero_le _⟩
  · exact ⟨by simp only; omega, by simp only; omega⟩
theorem rIds_any (a : Option Addr) (c p : Nat) (e A : Int) (xs : List Int) (n : Nat) (w : World) (hI : Ints .u8 w a n c xs) (hp : p ≤ n) (hm : n ≤ 1000000) :
    Calls Try.prog 27 #[.agg #[.slice a n c, .int .i64 (p : Int), .int .i64 e], .int .i64 A] w fun r w' => ∃ b c', r = .returned (.tuple #[.agg #[.slice a n c, .int .i64 (((rdIds n p e A).1 : Nat) : Int), .int .i64 (rdIds n p e A).2.1], .slice b (rdIds n p e A).2.2 c']) ∧ w'.ownsRow w.heap.size 55 32 (.slice b (rdIds n p e A).2.2 c') (rdIds n p e A).2.2 (((xs.drop p).take (32 * (rdIds n p e A).2.2)).map (Value.int .u8)) ∧ Below w.heap.size w w' := by
  unfold rdIds
  by_cases h : e ≠ 0
  · rw [if_pos h]
    refine (rIds_bad a n c p e A w h).mono ?_
    rintro r w' ⟨rfl, hb⟩
    exact ⟨none, 0, rfl, World.ownsRow_nil _ _ _ _, hb⟩
  · obtain rfl : e = 0 := by omega
    rw [if_neg h]
    by_cases h1 : A < 0
    · rw [if_pos h1]
      refine (rIds_neg a n c p A w h1).mono ?_
      rintro r w' ⟨rfl, hb⟩
      exact ⟨none, 0, rfl, World.ownsRow_nil _ _ _ _, hb⟩
    · rw [if_neg h1]
      by_cases h2 : (((n - p) / 32 : Nat) : Int) < A
      · rw [if_pos h2]
        refine (rIds_short a n c p A w hp hm h1 h2).mono ?_
        rintro r w' ⟨rfl, hb⟩
        exact ⟨none, 0, rfl, World.ownsRow_nil _ _ _ _, hb⟩
      · rw [if_neg h2]
        obtain ⟨B, rfl⟩ : ∃ B : Nat, A = B := ⟨A.toNat, by omega⟩
        exact rIds_ok a n c p B xs w hI hm (by omega)

/-- A slice of ids in memory: its bytes, one id behind the other. -/
def IdsAt (w : World) (a : Option Addr) (n cap : Nat) (zs : List Int) : Prop :=
  zs.length = 32 * n ∧ n ≤ cap ∧ (n = 0 ∨ ∃ b off, a = some ⟨b, off, none⟩ ∧ ∀ i, i < 32 * n → w.cell? ⟨b, off + i, none⟩ = some (.int .u8 (zs.getD i 0)))
theorem IdsAt.keep {w w' : World} {a : Option Addr} {n cap : Nat} {zs : List Int} (h : IdsAt w a n cap zs) (hb : Below w.heap.size w w') : IdsAt w' a n cap zs := by
  refine ⟨h.1, h.2.1, ?_⟩
  rcases h.2.2 with h0 | ⟨b, off, ha, hc⟩
  · exact .inl h0
  · exact .inr ⟨b, off, ha, fun i hi => by rw [hb.cell (World.block_lt_of_cell? w _ (hc i hi))]; exact hc i hi⟩
theorem IdsAt.of_owns {w : World} {B : Nat} {e : TypeId} {a : Option Addr} {n cap : Nat} {zs : List Int} (h : w.ownsRow B e 32 (.slice a n cap) n (zs.map (Value.int .u8))) : IdsAt w a n cap zs := by
  have hl : zs.length = 32 * n := by have := h.1; rw [List.length_map] at this; omega
  rcases h.2 with ⟨hv, hn⟩ | ⟨g, cap', cur, hv, _, hg, hnc, _, hsz, htk⟩
  · injection hv with _ _ h3
    exact ⟨hl, by omega, .inl hn⟩
  · injection hv with h1 _ h3
    subst h1; subst h3
    refine ⟨hl, hnc, .inr ⟨g, 0, rfl, fun i hi => ?_⟩⟩
    rw [Nat.zero_add]
    have h1 : (zs.map (Value.int .u8))[i]? = some (.int .u8 (zs.getD i 0)) := getElem?_mapInt .u8 zs i (by omega)
    rw [← htk, List.getElem?_take_of_lt (by omega)] at h1
    have h2 : cur[i]? = some (.int .u8 (zs.getD i 0)) := by simpa using h1
    rw [cell_of_row w g i cur e (0, 0) hg]
    exact h2
end Go.Proofs.Ytpobplkijfienaa

/-
  A copy of bytes; the stream's byte at a place; bytes masked from where the stream stands. What the calls come to; the stream's own block and new memory are written. Conditions: bytes below 256, at most 2^32 of them, numbers below 2^64.
-/
import Derived.Test.YtclcnngpgbdjgaaStreamNum
import Derived.Test.YtclcnngpgbdjgaaAppends
import Derived.Test.YtclcnngpgbdjgaaSeqBranch
import Derived.Test.YtclcnngpgbdjgaaCipherRefMix
namespace Go.Proofs.Ytclcnngpgbdjgaa
open Go.RowKit

/-- A row of numbers of the call's own, not empty: its block, and what stands in it. -/
theorem own_bytes {w : World} {B : Nat} {e : TypeId} {a : Option Addr} {n c : Nat} {f : Nat → Nat} (h : w.ownsRow B e 1 (.slice a n c) n (rowN n f)) (hn : 0 < n) :
    ∃ g, a = some ⟨g, 0, none⟩ ∧ B ≤ g ∧ g < w.heap.size ∧ ∀ j, j < n → w.cell? ⟨g, j, none⟩ = some (.int .u8 (f j : Nat)) ∧ w.frozen? ⟨g, j, none⟩ = false := by
  have hlt := h.lt
  rcases h.2 with ⟨_, h0⟩ | ⟨g, cap, cur, hv, hB, hg, hnc, hcm, hcs, htake⟩
  · omega
  · injection hv with hv _ hc
    subst hv
    refine ⟨g, rfl, hB, (hlt g rfl).2, fun j hj => ?_⟩
    have hj1 : cur[j]? = some (.int .u8 (f j : Nat)) := by
      have h1 : (cur.toList.take (n * 1))[j]? = (rowN n f)[j]? := by rw [htake]
      rw [List.getElem?_take_of_lt (by omega), rowN_at n f j hj] at h1
      simpa using h1
    refine ⟨?_, by simp [World.frozen?, hg]⟩
    rw [cell_of_row w g j cur e (0, 0) hg]
    exact hj1
theorem own_intsL {w : World} {B : Nat} {e : TypeId} {a : Option Addr} {n c : Nat} {f : Nat → Nat} (h : w.ownsRow B e 1 (.slice a n c) n (rowN n f)) : Ints .u8 w a n c (bytesL n f) := by
  obtain ⟨a', c', hv, hi⟩ := Ints.of_owns (xs := bytesL n f) (by rw [bytesL_row]; exact h)
  injection hv with h1 _ h2
  subst h1; subst h2
  exact hi
theorem grown_new {w v v' : World} {g o : Nat} (h : w.grownBy v (some g)) (k : v.grownBy v' (some o)) (ho : w.heap.size ≤ o) : w.grownBy v' (some g) :=
  ⟨k.os.trans h.os, k.tape.trans h.tape, k.output.trans h.output, Nat.le_trans h.size k.size, fun i hi hne => (k.block i (Nat.lt_of_lt_of_le hi h.size) (by intro e; injection e with e; omega)).trans (h.block i hi hne)⟩
theorem own_grown {w w' : World} {B g : Nat} {e : TypeId} {v : Value} {n : Nat} {xs : List Value} (h : w.ownsRow B e 1 v n xs) (hg : w.grownBy w' (some g)) (hB : g < B) : w'.ownsRow B e 1 v n xs :=
  h.kept hg (.inr (fun e => by have := (h.lt g e).1; omega))
theorem bits_xor8' (a b : Nat) (ha : a < 256) (hb : b < 256) : bits .xor .u8 (a : Int) (b : Int) = ((a ^^^ b : Nat) : Int) := bits_xor8 a b ha hb
theorem info_u8 : ∃ i, Try.prog.info? 5 = some i ∧ i.zero = some (.int .u8 0) ∧ i.size = 1 ∧ i.bytes = 1 := by
  obtain ⟨i, h1, h2, h3, h4⟩ := info_parts infoU8
  exact ⟨i, h1, h2, h3, h4⟩

theorem eqNone (cap : Nat) (w : World) : Sem.run Try.prog (binOp BinOp.eql 31 (.slice none 0 cap) (.slice none 0 0)) w = .ok (.bool true) w := by kernel_rfl
theorem eqSome (x : Addr) (n cap : Nat) (w : World) : Sem.run Try.prog (binOp BinOp.eql 31 (.slice (some x) n cap) (.slice none 0 0)) w = .ok (.bool false) w := by kernel_rfl

set_option maxRecDepth 100000 in
set_option maxHeartbeats 800000 in
theorem clone_any (a : Option Addr) (n cap : Nat) (xs : List Int) (w : World) (hI : Ints .u8 w a n cap xs) (hn : n ≤ 4294967296) :
    Calls Try.prog 20 #[.slice a n cap] w fun e w' => ∃ b c, e = .returned (.slice b n c) ∧ w'.ownsRow w.heap.size 5 1 (.slice b n c) n (xs.map (Value.int .u8)) ∧ Below w.heap.size w w' := by
  obtain ⟨i0, hi, hz0, hz1, hz2⟩ := info_u8
  have hnH := Lib.hid hn
  clear hn
  go_enter Try.func20, Try.ntmps20
  cases a with
  | none =>
    have h0 : n = 0 := by
      rcases hI.2.2 with h | ⟨b, off, h, _⟩
      · exact h
      · cases h
    subst h0
    obtain rfl : xs = [] := List.length_eq_zero_iff.1 hI.1
    have heq := eqNone cap
    go_wp2
    go_ret
    exact ⟨none, 0, rfl, World.ownsRow_nil _ _ _ _, Below.refl _ _⟩
  | some ad =>
    have q3 : Below w.heap.size w (w.alloc (.cells #[] 5)) := below1 _ _
    have I3 := Lib.hid (hI.keep q3)
    have heq := eqSome ad n cap
    clear hI
    go_wp2_with (at_builtin
                 refine wpList_append_ints rfl (.tmp 5) (.tmp 6) 31 rfl w.heap.size 5 i0 (.int .u8 0) 1 Try.underlying31 hi hz0 hz1 hz2 rfl rfl (World.ownsRow_made w #[] 0 (Nat.le_refl _) (Nat.zero_le _) rfl) rfl I3.out ?_ ?_ q3.size ?_
                 (have := hnH.out; unfold maxLen; omega)
                 (have := hnH.out; omega)
                 intro v4 w4 hown4 hg4
                 refine RowKit.Hid.out ?_)
    refine Lib.hid ?_
    have q4 : Below w.heap.size w w4 := q3.grown hg4 q3.size (fun k hk => by injection hk with hk; rw [← hk]; exact Nat.le_refl _)
    rw [List.nil_append, Nat.zero_add] at hown4
    obtain ⟨b, c, hv⟩ : ∃ b c, v4 = .slice b n c := by
      obtain ⟨b, c, h, _⟩ := Ints.of_owns hown4
      exact ⟨b, c, h⟩
    subst hv
    go_wp2
    go_ret
    exact ⟨b, c, rfl, hown4, q4⟩

set_option maxHeartbeats 400000 in
theorem at_nil (n : Int) (w : World) : Calls Try.prog 14 #[.pointer none, .int .u64 n] w fun e w' => e = .returned (.int .u8 0) ∧ w = w' := by
  go_enter Try.func14, Try.ntmps14
  go_wp2_with fail
  refine (unm_nil _).mono ?_
  rintro e w' ⟨rfl, rfl⟩
  go_wp2
  go_ret
  exact ⟨rfl, rfl⟩

set_option maxHeartbeats 400000 in
theorem at_un (g : Nat) (n : Int) (w : World) (hm : w.cell? ⟨g, 772, none⟩ = some (.bool false)) : Calls Try.prog 14 #[.pointer (some ⟨g, 0, none⟩), .int .u64 n] w fun e w' => e = .returned (.int .u8 0) ∧ w = w' := by
  go_enter Try.func14, Try.ntmps14
  go_wp2_with fail
  refine (unm_at g false _ hm).mono ?_
  rintro e w' ⟨rfl, rfl⟩
  go_wp2
  go_ret
  exact ⟨rfl, rfl⟩

set_option maxHeartbeats 800000 in
theorem at_any (g : Nat) (F : Nat → Nat) (p n : Nat) (w : World) (hF : By F) (h : StAt w g F p) (hn : n < 18446744073709551616) :
    Calls Try.prog 14 #[.pointer (some ⟨g, 0, none⟩), .int .u64 (n : Int)] w fun e w' => e = .returned (.int .u8 (sby (keyAt F) n : Nat)) ∧ StAt w' g F p ∧ w.grownBy w' (some g) := by
  have hm := h.made
  obtain ⟨q, hq⟩ : ∃ q, n / 16 = q := ⟨_, rfl⟩
  obtain ⟨r, hr⟩ : ∃ r, n % 16 = r := ⟨_, rfl⟩
  have hrl : r < 16 := by omega
  have q1 : (n : Int) / 16 = (q : Int) := by omega
  have q2 : (n : Int).tdiv 16 = (q : Int) := by rw [← hq]; exact Int.ofNat_tdiv n 16
  have r1 : (n : Int) % 16 = (r : Int) := by omega
  have r2 : (n : Int).tmod 16 = (r : Int) := by rw [Int.tmod_eq_emod_of_nonneg (by omega)]; exact r1
  have rl : (r : Int) < 16 := by omega
  have hs : sby (keyAt F) n = enc (keyAt F) (ctr q) r := by unfold sby; rw [hq, hr]
  have hql : q < 18446744073709551616 := by omega
  rw [hs]
  have hgl := Lib.hid h.lt
  have hql := Lib.hid hql
  have hrl := Lib.hid hrl
  clear hs hq hr hn
  go_enter Try.func14, Try.ntmps14
  go_wp2_with fail
  refine (unm_at g true _ hm).mono ?_
  rintro e w' ⟨rfl, rfl⟩
  clear hm
  go_wp2_with fail
  refine (num_any g F p q w hF h hql.out).mono ?_
  rintro e w2 ⟨rfl, h2, g2⟩
  clear h
  have hN := Blk.new w2 42 (rowN 16 zf)
  go_wp2_with (first
    | (with_reducible refine wpList_alloc_blk rfl 42 rfl zero16 ?_)
    | ((refine wpList_store16 (new := enc (keyAt F) (ctr q)) rfl (.tmp 5) (.tmp 13) rfl ?_ ?_ hN ?_); rfl; rfl; intro w3 hN3 hg3; refine RowKit.Hid.out ?_))
  refine Lib.hid ?_
  have b3 : Below w2.heap.size w2 w3 := (below1 w2 _).trans (below_of_grown hg3 (Nat.le_refl _) (by rw [size1]; omega))
  have h3 : StAt w3 g F p := h2.keep b3 h2.lt
  have g3 : w.grownBy w3 (some g) := grown_trans g2 (grown_of_below b3 _)
  obtain ⟨z, hz⟩ : ∃ z, w2.heap.size = z := ⟨_, rfl⟩
  rw [hz] at hN3 ⊢
  have cz := hN3.cell r
  rw [rowN_at 16 _ r hrl.out] at cz
  clear hN hg3 b3 hz g2 h2
  go_wp2
  go_ret
  exact ⟨rfl, h3, g3⟩

/-- Bytes f, masked from the place p on. -/
def mk (K : Nat → Nat → Nat) (p : Nat) (f : Nat → Nat) : Nat → Nat := fun i => f i ^^^ sby K ((p + i) % 18446744073709551616)
theorem mk_by {K : Nat → Nat → Nat} (hK : ∀ r, By (K r)) (p : Nat) {f : Nat → Nat} (hf : By f) : By (mk K p f) := fun i => Nat.xor_lt_two_pow (n := 8) (hf i) (sby_256 K hK _)

set_option maxHeartbeats 400000 in
theorem mask_nil (a : Option Addr) (n cap : Nat) (xs : List Int) (w : World) (hI : Ints .u8 w a n cap xs) (hn : n ≤ 4294967296) :
    Calls Try.prog 12 #[.pointer none, .slice a n cap] w fun e w' => ∃ b c, e = .returned (.slice b n c) ∧ w'.ownsRow w.heap.size 5 1 (.slice b n c) n (xs.map (Value.int .u8)) ∧ Below w.heap.size w w' := by
  go_enter Try.func12, Try.ntmps12
  go_wp2_with fail
  refine (clone_any a n cap xs w hI hn).mono ?_
  rintro e w2 ⟨b, c, rfl, ho, hB⟩
  go_wp2_with fail
  refine (unm_nil _).mono ?_
  rintro e w' ⟨rfl, rfl⟩
  go_wp2
  go_ret
  exact ⟨b, c, rfl, ho, hB⟩

set_option maxHeartbeats 400000 in
theorem mask_un (g : Nat) (a : Option Addr) (n cap : Nat) (xs : List Int) (w : World) (hm : w.cell? ⟨g, 772, none⟩ = some (.bool false)) (hgl : g < w.heap.size) (hI : Ints .u8 w a n cap xs) (hn : n ≤ 4294967296) :
    Calls Try.prog 12 #[.pointer (some ⟨g, 0, none⟩), .slice a n cap] w fun e w' => ∃ b c, e = .returned (.slice b n c) ∧ w'.ownsRow w.heap.size 5 1 (.slice b n c) n (xs.map (Value.int .u8)) ∧ Below w.heap.size w w' := by
  go_enter Try.func12, Try.ntmps12
  go_wp2_with fail
  refine (clone_any a n cap xs w hI hn).mono ?_
  rintro e w2 ⟨b, c, rfl, ho, hB⟩
  have hm2 := (hB.cell (p := ⟨g, 772, none⟩) hgl).trans hm
  clear hm
  go_wp2_with fail
  refine (unm_at g false _ hm2).mono ?_
  rintro e w' ⟨rfl, rfl⟩
  go_wp2
  go_ret
  exact ⟨b, c, rfl, ho, hB⟩

set_option maxRecDepth 100000 in
set_option maxHeartbeats 1000000 in
theorem mask_any (g : Nat) (F : Nat → Nat) (p : Nat) (a : Option Addr) (n cap : Nat) (f : Nat → Nat) (w : World) (hF : By F) (hf : By f) (h : StAt w g F p) (hp : p < 18446744073709551616) (hI : Ints .u8 w a n cap (bytesL n f)) (hn : n ≤ 4294967296) :
    Calls Try.prog 12 #[.pointer (some ⟨g, 0, none⟩), .slice a n cap] w fun e w' => ∃ b c, e = .returned (.slice b n c) ∧ w'.ownsRow w.heap.size 5 1 (.slice b n c) n (rowN n (mk (keyAt F) p f)) ∧ StAt w' g F ((p + n) % 18446744073709551616) ∧ w.grownBy w' (some g) := by
  go_enter Try.func12, Try.ntmps12
  go_wp2_with fail
  refine (clone_any a n cap (bytesL n f) w hI hn).mono ?_
  rintro e w2 ⟨b, c, rfl, ho, hB⟩
  rw [bytesL_row] at ho
  have hgl := h.lt
  have h2 := h.keep hB hgl
  have hm2 := h2.made
  clear h hI
  go_wp2_with fail
  refine (unm_at g true _ hm2).mono ?_
  rintro e w' ⟨rfl, rfl⟩
  obtain ⟨B, hBs⟩ : ∃ B, w.heap.size = B := ⟨_, rfl⟩
  have hg2 : w.grownBy w2 (some g) := grown_of_below hB _
  rw [hBs] at ho hgl
  have ho0 : w2.ownsRow B 5 1 (.slice b n c) n (rowN n (upto 0 (mk (keyAt F) p f) f)) := by rw [upto_zero]; exact ho
  have h20 : StAt w2 g F ((p + 0) % 18446744073709551616) := by rw [Nat.add_zero, Nat.mod_eq_of_lt hp]; exact h2
  have hBs := Lib.hid hBs
  have hgl := Lib.hid hgl
  have hn := Lib.hid hn
  have hp := Lib.hid hp
  have hF := Lib.hid hF
  have hf := Lib.hid hf
  clear hm2 h2 ho hB
  go_wp2
  go_loopw [14] (fun i wr => ∃ k : Nat, k ≤ n ∧ i = .int .i64 k ∧ wr.ownsRow B 5 1 (.slice b n c) n (rowN n (upto k (mk (keyAt F) p f) f)) ∧ StAt wr g F ((p + k) % 18446744073709551616) ∧ w.grownBy wr (some g)) (fun i _ => n - (intOf i).toNat)
  case atStart => exact ⟨0, Nat.zero_le _, rfl, ho0, h20, hg2⟩
  case round =>
    clear ho0 h20 hg2
    obtain ⟨k, hk, rfl, ho, hst, hgr⟩ := hrel
    by_cases hlt : k < n
    · obtain ⟨o, rfl, hBo, hol, hcell⟩ := own_bytes ho (by omega)
      obtain ⟨c0, f0⟩ := hcell k hlt
      rw [upto_at] at c0
      obtain ⟨P, hP⟩ : ∃ P, (p + k) % 18446744073709551616 = P := ⟨_, rfl⟩
      obtain ⟨P', hP'⟩ : ∃ P', (p + (k + 1)) % 18446744073709551616 = P' := ⟨_, rfl⟩
      have hPl : P < 18446744073709551616 := by rw [← hP]; exact Nat.mod_lt _ (by decide)
      have hPP : (P + 1) % 18446744073709551616 = P' := by omega
      have w1 : IntKind.u64.wrap ((P : Int) + 1) = (P' : Int) := by rw [IntKind.wrap_u64]; omega
      have hx : f k ^^^ sby (keyAt F) P = mk (keyAt F) p f k := by unfold mk; rw [hP]
      rw [hP] at hst
      obtain ⟨y, hy⟩ : ∃ y, f k = y := ⟨_, rfl⟩
      obtain ⟨s, hs⟩ : ∃ s, sby (keyAt F) P = s := ⟨_, rfl⟩
      have hyl : y < 256 := by rw [← hy]; exact hf.out k
      have hsl : s < 256 := by rw [← hs]; exact sby_256 _ (fun r => keyAt_by hF.out r) _
      rw [hy] at c0
      rw [hy, hs] at hx
      have hxor := Lib.hid (bits_xor8' y s hyl hsl)
      have hog : o ≠ g := by have := hgl.out; omega
      have ho0 : wr.drew.ownsRow B 5 1 (.slice (some ⟨o, 0, none⟩) n c) n (rowN n (upto k (mk (keyAt F) p f) f)) := ho
      have hr0 : w.grownBy wr.drew (some g) := grown_drew hgr
      have c0d : wr.drew.cell? ⟨o, k, none⟩ = some (.int .u8 (y : Nat)) := c0
      have S0 : StAt wr.drew g F P := hst
      have PP := Lib.hid (fun w' (h : StAt w' g F P) => h.place)
      have hki : (k : Int) < (n : Int) := by omega
      have hlt := Lib.hid hlt
      have hPl := Lib.hid hPl
      have hP' := Lib.hid hP'
      have hx := Lib.hid hx
      have hol := Lib.hid hol
      have hog := Lib.hid hog
      have hs := Lib.hid hs
      obtain ⟨v, hv⟩ : ∃ v, wr.drew = v := ⟨_, rfl⟩
      rw [hv] at ho0 hr0 c0d S0
      have c0 := c0d
      clear hk hP hPP hy hyl hsl hcell hst f0 ho c0d hgr
      go_wp2_with fail
      refine region_seqS (fun w' => StAt w' g F P) (by kernel_rfl) (by rw [hv]; exact S0) ?_
      simp only [pairs, Nat.reduceAdd]
      change SeqS _ _ _ _ _ _ _ _ wr.drew
      rw [hv]
      clear hv
      have c0' := Lib.hid c0
      clear c0
      repeat (first
        | (refine SeqS.take (v := ?_) (by first | assumption | trivial) (by kernel_rfl) (by decide +kernel) (by decide +kernel) (Or.inl ⟨by rfl, ?_⟩) ?_
           rotate_left
           focus
             intro w' hb'
             go_simp
             with_reducible rfl
           simp only [Act.put, List.setIfInBounds_toArray, List.set_cons_zero, List.set_cons_succ])
        | (refine SeqS.take (v := ?_) (by first | assumption | trivial) (by kernel_rfl) (by decide +kernel) (by decide +kernel) (Or.inl ⟨by rfl, ?_⟩) ?_
           rotate_left
           focus
             intro w' hb'
             have c2 := PP.out w' hb'
             go_simp
             with_reducible rfl
           simp only [Act.put, List.setIfInBounds_toArray, List.set_cons_zero, List.set_cons_succ])
        | (refine SeqS.take (v := undef) (by first | assumption | trivial) (by kernel_rfl) (by decide +kernel) (by decide +kernel) (Or.inr ⟨by rfl, rfl⟩) ?_
           simp only [Act.put, List.setIfInBounds_toArray, List.set_cons_zero, List.set_cons_succ])
        | (refine SeqS.take1 (v := ?_) (by first | assumption | trivial) (by kernel_rfl) (by decide +kernel) (by decide +kernel) (Or.inl ⟨by rfl, ?_⟩) ?_
           rotate_left
           focus
             intro w' hb'
             go_simp
             with_reducible rfl
           simp only [Act.put, List.setIfInBounds_toArray, List.set_cons_zero, List.set_cons_succ])
        | (refine SeqS.take1 (v := ?_) (by first | assumption | trivial) (by kernel_rfl) (by decide +kernel) (by decide +kernel) (Or.inl ⟨by rfl, ?_⟩) ?_
           rotate_left
           focus
             intro w' hb'
             have c2 := PP.out w' hb'
             go_simp
             with_reducible rfl
           simp only [Act.put, List.setIfInBounds_toArray, List.set_cons_zero, List.set_cons_succ])
        | (refine SeqS.take1 (v := undef) (by first | assumption | trivial) (by kernel_rfl) (by decide +kernel) (by decide +kernel) (Or.inr ⟨by rfl, rfl⟩) ?_
           simp only [Act.put, List.setIfInBounds_toArray, List.set_cons_zero, List.set_cons_succ])
        | (refine SeqS.take2 (v := ?_) (by first | assumption | trivial) (by kernel_rfl) (by decide +kernel) (by decide +kernel) (Or.inl ⟨by rfl, ?_⟩) ?_
           rotate_left
           focus
             intro w' hb'
             go_simp
             with_reducible rfl
           simp only [Act.put, List.setIfInBounds_toArray, List.set_cons_zero, List.set_cons_succ])
        | (refine SeqS.take2 (v := ?_) (by first | assumption | trivial) (by kernel_rfl) (by decide +kernel) (by decide +kernel) (Or.inl ⟨by rfl, ?_⟩) ?_
           rotate_left
           focus
             intro w' hb'
             have c2 := PP.out w' hb'
             go_simp
             with_reducible rfl
           simp only [Act.put, List.setIfInBounds_toArray, List.set_cons_zero, List.set_cons_succ])
        | (refine SeqS.take2 (v := undef) (by first | assumption | trivial) (by kernel_rfl) (by decide +kernel) (by decide +kernel) (Or.inr ⟨by rfl, rfl⟩) ?_
           simp only [Act.put, List.setIfInBounds_toArray, List.set_cons_zero, List.set_cons_succ])
        | (refine SeqS.take3 (v := ?_) (by first | assumption | trivial) (by kernel_rfl) (by decide +kernel) (by decide +kernel) (Or.inl ⟨by rfl, ?_⟩) ?_
           rotate_left
           focus
             intro w' hb'
             go_simp
             with_reducible rfl
           simp only [Act.put, List.setIfInBounds_toArray, List.set_cons_zero, List.set_cons_succ])
        | (refine SeqS.take3 (v := ?_) (by first | assumption | trivial) (by kernel_rfl) (by decide +kernel) (by decide +kernel) (Or.inl ⟨by rfl, ?_⟩) ?_
           rotate_left
           focus
             intro w' hb'
             have c2 := PP.out w' hb'
             go_simp
             with_reducible rfl
           simp only [Act.put, List.setIfInBounds_toArray, List.set_cons_zero, List.set_cons_succ])
        | (refine SeqS.take3 (v := undef) (by first | assumption | trivial) (by kernel_rfl) (by decide +kernel) (by decide +kernel) (Or.inr ⟨by rfl, rfl⟩) ?_
           simp only [Act.put, List.setIfInBounds_toArray, List.set_cons_zero, List.set_cons_succ]))
      refine SeqS.either (rs := [3, 9]) (by decide +kernel) ?_
      intro j hj
      simp only [List.mem_cons, List.not_mem_nil, or_false] at hj
      rcases hj with rfl | rfl
      · refine ⟨[], _, [_, _, _, _], rfl, by rfl, fun K hK => ?_⟩
        have c0 := c0'.out
        go_simp
        refine hK _ _ S0 ?_
        clear hK K c0
        refine SeqS.alone (by decide +kernel) (by rfl) (fun K hK => ?_)
        go_simp
        refine (at_any g F P P _ hF.out S0 hPl.out).mono ?_
        rintro e v2 ⟨rfl, S2, g2⟩
        rw [hs.out]
        go_simp
        refine hK _ _ S2 ?_
        clear hK K
        have ho2 := own_grown ho0 g2 hgl.out
        have hr2 := grown_trans hr0 g2
        obtain ⟨o', ho', _, ho2l, hcell2⟩ := own_bytes ho2 (by have := hlt.out; omega)
        injection ho' with ho'
        injection ho' with ho'
        subst ho'
        obtain ⟨c0, f0⟩ := hcell2 k hlt.out
        rw [upto_at] at c0
        have hst3 := ho2.stored k (.int .u8 (mk (keyAt F) p f k : Nat))
        rw [rowN_set n _ _ _ hlt.out, upto_step _ _ _ _ rfl] at hst3
        obtain ⟨ho3, g3⟩ := hst3
        clear ho2 hcell2
        have c2 := S2.place
        repeat (first
          | (refine SeqS.take (v := ?_) (by first | assumption | trivial) (by kernel_rfl) (by decide +kernel) (by decide +kernel) (Or.inl ⟨by rfl, ?_⟩) ?_
             rotate_left
             focus
               intro w' hb'
               go_simp
               with_reducible rfl
             simp only [Act.put, List.setIfInBounds_toArray, List.set_cons_zero, List.set_cons_succ])
          | (refine SeqS.take (v := undef) (by first | assumption | trivial) (by kernel_rfl) (by decide +kernel) (by decide +kernel) (Or.inr ⟨by rfl, rfl⟩) ?_
             simp only [Act.put, List.setIfInBounds_toArray, List.set_cons_zero, List.set_cons_succ])
          | (refine SeqS.take1 (v := ?_) (by first | assumption | trivial) (by kernel_rfl) (by decide +kernel) (by decide +kernel) (Or.inl ⟨by rfl, ?_⟩) ?_
             rotate_left
             focus
               intro w' hb'
               go_simp
               with_reducible rfl
             simp only [Act.put, List.setIfInBounds_toArray, List.set_cons_zero, List.set_cons_succ])
          | (refine SeqS.take1 (v := undef) (by first | assumption | trivial) (by kernel_rfl) (by decide +kernel) (by decide +kernel) (Or.inr ⟨by rfl, rfl⟩) ?_
             simp only [Act.put, List.setIfInBounds_toArray, List.set_cons_zero, List.set_cons_succ])
          | (refine SeqS.take2 (v := ?_) (by first | assumption | trivial) (by kernel_rfl) (by decide +kernel) (by decide +kernel) (Or.inl ⟨by rfl, ?_⟩) ?_
             rotate_left
             focus
               intro w' hb'
               go_simp
               with_reducible rfl
             simp only [Act.put, List.setIfInBounds_toArray, List.set_cons_zero, List.set_cons_succ])
          | (refine SeqS.take2 (v := undef) (by first | assumption | trivial) (by kernel_rfl) (by decide +kernel) (by decide +kernel) (Or.inr ⟨by rfl, rfl⟩) ?_
             simp only [Act.put, List.setIfInBounds_toArray, List.set_cons_zero, List.set_cons_succ])
          | (refine SeqS.take3 (v := ?_) (by first | assumption | trivial) (by kernel_rfl) (by decide +kernel) (by decide +kernel) (Or.inl ⟨by rfl, ?_⟩) ?_
             rotate_left
             focus
               intro w' hb'
               go_simp
               with_reducible rfl
             simp only [Act.put, List.setIfInBounds_toArray, List.set_cons_zero, List.set_cons_succ])
          | (refine SeqS.take3 (v := undef) (by first | assumption | trivial) (by kernel_rfl) (by decide +kernel) (by decide +kernel) (Or.inr ⟨by rfl, rfl⟩) ?_
             simp only [Act.put, List.setIfInBounds_toArray, List.set_cons_zero, List.set_cons_succ]))
        refine SeqS.alone (by decide +kernel) (by rfl) (fun K hK => ?_)
        go_simp
        rw [hxor.out, hx.out]
        obtain ⟨v3, hv3⟩ : ∃ v3, v2.setCell ⟨o, k, none⟩ (.int .u8 (mk (keyAt F) p f k : Nat)) = v3 := ⟨_, rfl⟩
        rw [hv3] at ho3 g3 ⊢
        have S3 := S2.grown g3 (by intro e; injection e with e; exact hog.out e.symm)
        have hr3 := grown_new hr2 g3 (by rw [hBs.out]; exact hBo)
        refine hK _ _ S3 ?_
        clear hK K hv3 c0 f0 c2 hr2 g2 g3
        refine SeqS.done (by decide +kernel) ?_
        have cP := S3.place
        have fP := S3.frozen 771
        have S4 := S3.seek P'
        have g4 : v3.grownBy (v3.setCell ⟨g, 771, none⟩ (.int .u64 (P' : Int))) (some g) := grown_setCell _ _ _ _
        have ho4 := own_grown ho3 g4 hgl.out
        have hr4 := grown_trans hr3 g4
        have S4 := Lib.hid S4
        have ho4 := Lib.hid ho4
        have hr4 := Lib.hid hr4
        clear g4 ho3 hr3
        go_wp2
        go_roundw
        case rel => exact ⟨k + 1, by have := hlt.out; omega, by go_num, ho4.out, by rw [hP'.out]; exact S4.out, hr4.out⟩
        case measure => have := hlt.out; simp [intOf]; omega
      · refine ⟨[_], _, [_, _, _], rfl, by rfl, fun K hK => ?_⟩
        go_simp
        refine (at_any g F P P _ hF.out S0 hPl.out).mono ?_
        rintro e v2 ⟨rfl, S2, g2⟩
        rw [hs.out]
        go_simp
        refine hK _ _ S2 ?_
        clear hK K
        have c0 := g2.cell c0'.out (by intro e; injection e with e; exact hog.out e)
        refine SeqS.alone (by decide +kernel) (by rfl) (fun K hK => ?_)
        go_simp
        refine hK _ _ S2 ?_
        clear hK K c0
        have ho2 := own_grown ho0 g2 hgl.out
        have hr2 := grown_trans hr0 g2
        obtain ⟨o', ho', _, ho2l, hcell2⟩ := own_bytes ho2 (by have := hlt.out; omega)
        injection ho' with ho'
        injection ho' with ho'
        subst ho'
        obtain ⟨c0, f0⟩ := hcell2 k hlt.out
        rw [upto_at] at c0
        have hst3 := ho2.stored k (.int .u8 (mk (keyAt F) p f k : Nat))
        rw [rowN_set n _ _ _ hlt.out, upto_step _ _ _ _ rfl] at hst3
        obtain ⟨ho3, g3⟩ := hst3
        clear ho2 hcell2
        have c2 := S2.place
        repeat (first
          | (refine SeqS.take (v := ?_) (by first | assumption | trivial) (by kernel_rfl) (by decide +kernel) (by decide +kernel) (Or.inl ⟨by rfl, ?_⟩) ?_
             rotate_left
             focus
               intro w' hb'
               go_simp
               with_reducible rfl
             simp only [Act.put, List.setIfInBounds_toArray, List.set_cons_zero, List.set_cons_succ])
          | (refine SeqS.take (v := undef) (by first | assumption | trivial) (by kernel_rfl) (by decide +kernel) (by decide +kernel) (Or.inr ⟨by rfl, rfl⟩) ?_
             simp only [Act.put, List.setIfInBounds_toArray, List.set_cons_zero, List.set_cons_succ])
          | (refine SeqS.take1 (v := ?_) (by first | assumption | trivial) (by kernel_rfl) (by decide +kernel) (by decide +kernel) (Or.inl ⟨by rfl, ?_⟩) ?_
             rotate_left
             focus
               intro w' hb'
               go_simp
               with_reducible rfl
             simp only [Act.put, List.setIfInBounds_toArray, List.set_cons_zero, List.set_cons_succ])
          | (refine SeqS.take1 (v := undef) (by first | assumption | trivial) (by kernel_rfl) (by decide +kernel) (by decide +kernel) (Or.inr ⟨by rfl, rfl⟩) ?_
             simp only [Act.put, List.setIfInBounds_toArray, List.set_cons_zero, List.set_cons_succ])
          | (refine SeqS.take2 (v := ?_) (by first | assumption | trivial) (by kernel_rfl) (by decide +kernel) (by decide +kernel) (Or.inl ⟨by rfl, ?_⟩) ?_
             rotate_left
             focus
               intro w' hb'
               go_simp
               with_reducible rfl
             simp only [Act.put, List.setIfInBounds_toArray, List.set_cons_zero, List.set_cons_succ])
          | (refine SeqS.take2 (v := undef) (by first | assumption | trivial) (by kernel_rfl) (by decide +kernel) (by decide +kernel) (Or.inr ⟨by rfl, rfl⟩) ?_
             simp only [Act.put, List.setIfInBounds_toArray, List.set_cons_zero, List.set_cons_succ])
          | (refine SeqS.take3 (v := ?_) (by first | assumption | trivial) (by kernel_rfl) (by decide +kernel) (by decide +kernel) (Or.inl ⟨by rfl, ?_⟩) ?_
             rotate_left
             focus
               intro w' hb'
               go_simp
               with_reducible rfl
             simp only [Act.put, List.setIfInBounds_toArray, List.set_cons_zero, List.set_cons_succ])
          | (refine SeqS.take3 (v := undef) (by first | assumption | trivial) (by kernel_rfl) (by decide +kernel) (by decide +kernel) (Or.inr ⟨by rfl, rfl⟩) ?_
             simp only [Act.put, List.setIfInBounds_toArray, List.set_cons_zero, List.set_cons_succ]))
        refine SeqS.alone (by decide +kernel) (by rfl) (fun K hK => ?_)
        go_simp
        rw [hxor.out, hx.out]
        obtain ⟨v3, hv3⟩ : ∃ v3, v2.setCell ⟨o, k, none⟩ (.int .u8 (mk (keyAt F) p f k : Nat)) = v3 := ⟨_, rfl⟩
        rw [hv3] at ho3 g3 ⊢
        have S3 := S2.grown g3 (by intro e; injection e with e; exact hog.out e.symm)
        have hr3 := grown_new hr2 g3 (by rw [hBs.out]; exact hBo)
        refine hK _ _ S3 ?_
        clear hK K hv3 c0 f0 c2 hr2 g2 g3
        refine SeqS.done (by decide +kernel) ?_
        have cP := S3.place
        have fP := S3.frozen 771
        have S4 := S3.seek P'
        have g4 : v3.grownBy (v3.setCell ⟨g, 771, none⟩ (.int .u64 (P' : Int))) (some g) := grown_setCell _ _ _ _
        have ho4 := own_grown ho3 g4 hgl.out
        have hr4 := grown_trans hr3 g4
        have S4 := Lib.hid S4
        have ho4 := Lib.hid ho4
        have hr4 := Lib.hid hr4
        clear g4 ho3 hr3
        go_wp2
        go_roundw
        case rel => exact ⟨k + 1, by have := hlt.out; omega, by go_num, ho4.out, by rw [hP'.out]; exact S4.out, hr4.out⟩
        case measure => have := hlt.out; simp [intOf]; omega
    · obtain rfl : k = n := by omega
      have ho : wr.ownsRow B 5 1 (.slice b k c) k (rowN k (mk (keyAt F) p f)) := by rw [rowN_congr (upto_all k (mk (keyAt F) p f) f)] at ho; exact ho
      go_wp2
      go_ret
      refine ⟨b, c, rfl, ?_, hst, hgr⟩
      rw [hBs.out]
      exact ho
end Go.Proofs.Ytclcnngpgbdjgaa

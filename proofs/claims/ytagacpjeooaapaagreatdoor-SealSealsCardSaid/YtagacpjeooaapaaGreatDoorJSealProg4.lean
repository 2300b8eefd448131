/-
  Texts of stages that were proved on their own, joined: StreamMask, StreamRef, StreamRefMask. Each begins with its own words.
-/
import Derived.Test.YtagacpjeooaapaaGreatDoorJSealProg2
import Derived.Test.YtagacpjeooaapaaGreatDoorAppends
import Derived.Test.YtagacpjeooaapaaGreatDoorJSealProg3
import Derived.Deep.AppendLies

/-
  A copy of bytes; the stream's byte at a place; bytes masked from where the stream stands. What the calls come to; the stream's own block and new memory are written. Conditions: bytes below 256, at most 2^32 of them, numbers below 2^64.
-/
namespace Go.Proofs.YtagacpjeooaapaaGreatDoor
open Go.RowKit

/-- A row of numbers of the call's own, not empty: its block, and what stands in it. -/
theorem own_bytes {w : World} {B : Nat} {e : TypeId} {a : Option Addr} {n c : Nat} {f : Nat → Nat} (h : w.ownsRow B e 1 (.slice a n c) n (rowN n f)) (hn : 0 < n) :
    ∃ g, a = some ⟨g, 0, none⟩ ∧ B ≤ g ∧ g < w.heap.size ∧ ∀ j, j < n → w.cell? ⟨g, j, none⟩ = some (.int .u8 (f j : Nat)) ∧ w.frozen? ⟨g, j, none⟩ = false := by
  have hlt := h.lt
  rcases h.2 with ⟨_, h0⟩ | ⟨g, cap, cur, hv, hB, hg, hnc, hcm, hcs, htake⟩
  · omega
  · injection hv with hv _ hc
    subst hv
    refine ⟨g, rfl, hB, (hlt g rfl).2, fun j hj => ?_⟩
    have hj1 : cur[j]? = some (.int .u8 (f j : Nat)) := by
      have h1 : (cur.toList.take (n * 1))[j]? = (rowN n f)[j]? := by rw [htake]
      rw [List.getElem?_take_of_lt (by omega), rowN_at n f j hj] at h1
      simpa using h1
    refine ⟨?_, by simp [World.frozen?, hg]⟩
    rw [cell_of_row w g j cur e (0, 0) hg]
    exact hj1
theorem own_intsL {w : World} {B : Nat} {e : TypeId} {a : Option Addr} {n c : Nat} {f : Nat → Nat} (h : w.ownsRow B e 1 (.slice a n c) n (rowN n f)) : Ints .u8 w a n c (bytesL n f) := by
  obtain ⟨a', c', hv, hi⟩ := Ints.of_owns (xs := bytesL n f) (by rw [bytesL_row]; exact h)
  injection hv with h1 _ h2
  subst h1; subst h2
  exact hi
theorem grown_new {w v v' : World} {g o : Nat} (h : w.grownBy v (some g)) (k : v.grownBy v' (some o)) (ho : w.heap.size ≤ o) : w.grownBy v' (some g) :=
  ⟨k.os.trans h.os, k.tape.trans h.tape, k.output.trans h.output, Nat.le_trans h.size k.size, fun i hi hne => (k.block i (Nat.lt_of_lt_of_le hi h.size) (by intro e; injection e with e; omega)).trans (h.block i hi hne)⟩
theorem own_grown {w w' : World} {B g : Nat} {e : TypeId} {v : Value} {n : Nat} {xs : List Value} (h : w.ownsRow B e 1 v n xs) (hg : w.grownBy w' (some g)) (hB : g < B) : w'.ownsRow B e 1 v n xs :=
  h.kept hg (.inr (fun e => by have := (h.lt g e).1; omega))
theorem bits_xor8' (a b : Nat) (ha : a < 256) (hb : b < 256) : bits .xor .u8 (a : Int) (b : Int) = ((a ^^^ b : Nat) : Int) := bits_xor8 a b ha hb
theorem info_u8 : ∃ i, Tryz.prog.info? 5 = some i ∧ i.zero = some (.int .u8 0) ∧ i.size = 1 ∧ i.bytes = 1 := by
  obtain ⟨i, h1, h2, h3, h4⟩ := info_parts infoU8
  exact ⟨i, h1, h2, h3, h4⟩

theorem eqNone (cap : Nat) (w : World) : Sem.run Tryz.prog (binOp BinOp.eql 24 (.slice none 0 cap) (.slice none 0 0)) w = .ok (.bool true) w := by kernel_rfl
theorem eqSome (x : Addr) (n cap : Nat) (w : World) : Sem.run Tryz.prog (binOp BinOp.eql 24 (.slice (some x) n cap) (.slice none 0 0)) w = .ok (.bool false) w := by kernel_rfl

set_option maxRecDepth 100000 in
set_option maxHeartbeats 800000 in
theorem bclone_any (a : Option Addr) (n cap : Nat) (xs : List Int) (w : World) (hI : Ints .u8 w a n cap xs) (hn : n ≤ 4294967296) :
    Calls Tryz.prog 50 #[.slice a n cap] w fun e w' => ∃ b c, e = .returned (.slice b n c) ∧ w'.ownsRow w.heap.size 5 1 (.slice b n c) n (xs.map (Value.int .u8)) ∧ Below w.heap.size w w' := by
  obtain ⟨i0, hi, hz0, hz1, hz2⟩ := info_u8
  have hnH := Lib.hid hn
  clear hn
  go_enter Tryz.func50, Tryz.ntmps50
  cases a with
  | none =>
    have h0 : n = 0 := by
      rcases hI.2.2 with h | ⟨b, off, h, _⟩
      · exact h
      · cases h
    subst h0
    obtain rfl : xs = [] := List.length_eq_zero_iff.1 hI.1
    have heq := eqNone cap
    go_wp2
    go_ret
    exact ⟨none, 0, rfl, World.ownsRow_nil _ _ _ _, Below.refl _ _⟩
  | some ad =>
    have q3 : Below w.heap.size w (w.alloc (.cells #[] 5)) := below1 _ _
    have I3 := Lib.hid (hI.keep q3)
    have heq := eqSome ad n cap
    clear hI
    go_wp2_with (at_builtin
                 refine wpList_append_ints rfl (.tmp 5) (.tmp 6) 24 rfl w.heap.size 5 i0 (.int .u8 0) 1 Tryz.underlying24 hi hz0 hz1 hz2 rfl rfl (World.ownsRow_made w #[] 0 (Nat.le_refl _) (Nat.zero_le _) rfl) rfl I3.out ?_ ?_ q3.size ?_
                 (have := hnH.out; unfold maxLen; omega)
                 (have := hnH.out; omega)
                 intro v4 w4 hown4 hg4
                 refine RowKit.Hid.out ?_)
    refine Lib.hid ?_
    have q4 : Below w.heap.size w w4 := q3.grown hg4 q3.size (fun k hk => by injection hk with hk; rw [← hk]; exact Nat.le_refl _)
    rw [List.nil_append, Nat.zero_add] at hown4
    obtain ⟨b, c, hv⟩ : ∃ b c, v4 = .slice b n c := by
      obtain ⟨b, c, h, _⟩ := Ints.of_owns hown4
      exact ⟨b, c, h⟩
    subst hv
    go_wp2
    go_ret
    exact ⟨b, c, rfl, hown4, q4⟩

set_option maxRecDepth 100000 in
set_option maxHeartbeats 400000 in
theorem at_nil (n : Int) (w : World) : Calls Tryz.prog 52 #[.pointer none, .int .u64 n] w fun e w' => e = .returned (.int .u8 0) ∧ w = w' := by
  go_enter Tryz.func52, Tryz.ntmps52
  go_wp2_with fail
  refine (unm_nil _).mono ?_
  rintro e w' ⟨rfl, rfl⟩
  go_wp2
  go_ret
  exact ⟨rfl, rfl⟩

set_option maxRecDepth 100000 in
set_option maxHeartbeats 400000 in
theorem at_un (g : Nat) (n : Int) (w : World) (hm : w.cell? ⟨g, 772, none⟩ = some (.bool false)) : Calls Tryz.prog 52 #[.pointer (some ⟨g, 0, none⟩), .int .u64 n] w fun e w' => e = .returned (.int .u8 0) ∧ w = w' := by
  go_enter Tryz.func52, Tryz.ntmps52
  go_wp2_with fail
  refine (unm_at g false _ hm).mono ?_
  rintro e w' ⟨rfl, rfl⟩
  go_wp2
  go_ret
  exact ⟨rfl, rfl⟩

set_option maxRecDepth 100000 in
set_option maxHeartbeats 800000 in
theorem at_any (g : Nat) (F : Nat → Nat) (p n : Nat) (w : World) (hF : By F) (h : StAt w g F p) (hn : n < 18446744073709551616) :
    Calls Tryz.prog 52 #[.pointer (some ⟨g, 0, none⟩), .int .u64 (n : Int)] w fun e w' => e = .returned (.int .u8 (sby (keyAt F) n : Nat)) ∧ StAt w' g F p ∧ w.grownBy w' (some g) := by
  have hm := h.made
  obtain ⟨q, hq⟩ : ∃ q, n / 16 = q := ⟨_, rfl⟩
  obtain ⟨r, hr⟩ : ∃ r, n % 16 = r := ⟨_, rfl⟩
  have hrl : r < 16 := by omega
  have q1 : (n : Int) / 16 = (q : Int) := by omega
  have q2 : (n : Int).tdiv 16 = (q : Int) := by rw [← hq]; exact Int.ofNat_tdiv n 16
  have r1 : (n : Int) % 16 = (r : Int) := by omega
  have r2 : (n : Int).tmod 16 = (r : Int) := by rw [Int.tmod_eq_emod_of_nonneg (by omega)]; exact r1
  have rl : (r : Int) < 16 := by omega
  have hs : sby (keyAt F) n = enc (keyAt F) (ctr q) r := by unfold sby; rw [hq, hr]
  have hql : q < 18446744073709551616 := by omega
  rw [hs]
  have hgl := Lib.hid h.lt
  have hql := Lib.hid hql
  have hrl := Lib.hid hrl
  clear hs hq hr hn
  go_enter Tryz.func52, Tryz.ntmps52
  go_wp2_with fail
  refine (unm_at g true _ hm).mono ?_
  rintro e w' ⟨rfl, rfl⟩
  clear hm
  go_wp2_with fail
  refine (num_any g F p q w hF h hql.out).mono ?_
  rintro e w2 ⟨rfl, h2, g2⟩
  clear h
  have hN := Blk.new w2 90 (rowN 16 zf)
  go_wp2_with (first
    | (with_reducible refine wpList_alloc_blk rfl 90 rfl zero16 ?_)
    | ((refine wpList_store16 (new := enc (keyAt F) (ctr q)) rfl (.tmp 5) (.tmp 13) rfl ?_ ?_ hN ?_); rfl; rfl; intro w3 hN3 hg3; refine RowKit.Hid.out ?_))
  refine Lib.hid ?_
  have b3 : Below w2.heap.size w2 w3 := (below1 w2 _).trans (below_of_grown hg3 (Nat.le_refl _) (by rw [size1]; omega))
  have h3 : StAt w3 g F p := h2.keep b3 h2.lt
  have g3 : w.grownBy w3 (some g) := grown_trans g2 (grown_of_below b3 _)
  obtain ⟨z, hz⟩ : ∃ z, w2.heap.size = z := ⟨_, rfl⟩
  rw [hz] at hN3 ⊢
  have cz := hN3.cell r
  rw [rowN_at 16 _ r hrl.out] at cz
  clear hN hg3 b3 hz g2 h2
  go_wp2
  go_ret
  exact ⟨rfl, h3, g3⟩

/-- Bytes f, masked from the place p on. -/
def mk (K : Nat → Nat → Nat) (p : Nat) (f : Nat → Nat) : Nat → Nat := fun i => f i ^^^ sby K ((p + i) % 18446744073709551616)
theorem mk_by {K : Nat → Nat → Nat} (hK : ∀ r, By (K r)) (p : Nat) {f : Nat → Nat} (hf : By f) : By (mk K p f) := fun i => Nat.xor_lt_two_pow (n := 8) (hf i) (sby_256 K hK _)

set_option maxRecDepth 100000 in
set_option maxHeartbeats 400000 in
theorem mask_nil (a : Option Addr) (n cap : Nat) (xs : List Int) (w : World) (hI : Ints .u8 w a n cap xs) (hn : n ≤ 4294967296) :
    Calls Tryz.prog 28 #[.pointer none, .slice a n cap] w fun e w' => ∃ b c, e = .returned (.slice b n c) ∧ w'.ownsRow w.heap.size 5 1 (.slice b n c) n (xs.map (Value.int .u8)) ∧ Below w.heap.size w w' := by
  go_enter Tryz.func28, Tryz.ntmps28
  go_wp2_with fail
  refine (bclone_any a n cap xs w hI hn).mono ?_
  rintro e w2 ⟨b, c, rfl, ho, hB⟩
  go_wp2_with fail
  refine (unm_nil _).mono ?_
  rintro e w' ⟨rfl, rfl⟩
  go_wp2
  go_ret
  exact ⟨b, c, rfl, ho, hB⟩

set_option maxRecDepth 100000 in
set_option maxHeartbeats 400000 in
theorem mask_un (g : Nat) (a : Option Addr) (n cap : Nat) (xs : List Int) (w : World) (hm : w.cell? ⟨g, 772, none⟩ = some (.bool false)) (hgl : g < w.heap.size) (hI : Ints .u8 w a n cap xs) (hn : n ≤ 4294967296) :
    Calls Tryz.prog 28 #[.pointer (some ⟨g, 0, none⟩), .slice a n cap] w fun e w' => ∃ b c, e = .returned (.slice b n c) ∧ w'.ownsRow w.heap.size 5 1 (.slice b n c) n (xs.map (Value.int .u8)) ∧ Below w.heap.size w w' := by
  go_enter Tryz.func28, Tryz.ntmps28
  go_wp2_with fail
  refine (bclone_any a n cap xs w hI hn).mono ?_
  rintro e w2 ⟨b, c, rfl, ho, hB⟩
  have hm2 := (hB.cell (p := ⟨g, 772, none⟩) hgl).trans hm
  clear hm
  go_wp2_with fail
  refine (unm_at g false _ hm2).mono ?_
  rintro e w' ⟨rfl, rfl⟩
  go_wp2
  go_ret
  exact ⟨b, c, rfl, ho, hB⟩

set_option maxRecDepth 100000 in
set_option maxHeartbeats 1000000 in
theorem mask_any (g : Nat) (F : Nat → Nat) (p : Nat) (a : Option Addr) (n cap : Nat) (f : Nat → Nat) (w : World) (hF : By F) (hf : By f) (h : StAt w g F p) (hp : p < 18446744073709551616) (hI : Ints .u8 w a n cap (bytesL n f)) (hn : n ≤ 4294967296) :
    Calls Tryz.prog 28 #[.pointer (some ⟨g, 0, none⟩), .slice a n cap] w fun e w' => ∃ b c, e = .returned (.slice b n c) ∧ w'.ownsRow w.heap.size 5 1 (.slice b n c) n (rowN n (mk (keyAt F) p f)) ∧ StAt w' g F ((p + n) % 18446744073709551616) ∧ w.grownBy w' (some g) := by
  go_enter Tryz.func28, Tryz.ntmps28
  go_wp2_with fail
  refine (bclone_any a n cap (bytesL n f) w hI hn).mono ?_
  rintro e w2 ⟨b, c, rfl, ho, hB⟩
  rw [bytesL_row] at ho
  have hgl := h.lt
  have h2 := h.keep hB hgl
  have hm2 := h2.made
  clear h hI
  go_wp2_with fail
  refine (unm_at g true _ hm2).mono ?_
  rintro e w' ⟨rfl, rfl⟩
  obtain ⟨B, hBs⟩ : ∃ B, w.heap.size = B := ⟨_, rfl⟩
  have hg2 : w.grownBy w2 (some g) := grown_of_below hB _
  rw [hBs] at ho hgl
  have ho0 : w2.ownsRow B 5 1 (.slice b n c) n (rowN n (upto 0 (mk (keyAt F) p f) f)) := by rw [upto_zero]; exact ho
  have h20 : StAt w2 g F ((p + 0) % 18446744073709551616) := by rw [Nat.add_zero, Nat.mod_eq_of_lt hp]; exact h2
  have hBs := Lib.hid hBs
  have hgl := Lib.hid hgl
  have hn := Lib.hid hn
  have hp := Lib.hid hp
  have hF := Lib.hid hF
  have hf := Lib.hid hf
  clear hm2 h2 ho hB
  go_wp2
  go_loopw [14] (fun i wr => ∃ k : Nat, k ≤ n ∧ i = .int .i64 k ∧ wr.ownsRow B 5 1 (.slice b n c) n (rowN n (upto k (mk (keyAt F) p f) f)) ∧ StAt wr g F ((p + k) % 18446744073709551616) ∧ w.grownBy wr (some g)) (fun i _ => n - (intOf i).toNat)
  case atStart => exact ⟨0, Nat.zero_le _, rfl, ho0, h20, hg2⟩
  case round =>
    clear ho0 h20 hg2
    obtain ⟨k, hk, rfl, ho, hst, hgr⟩ := hrel
    by_cases hlt : k < n
    · obtain ⟨o, rfl, hBo, hol, hcell⟩ := own_bytes ho (by omega)
      obtain ⟨c0, f0⟩ := hcell k hlt
      rw [upto_at] at c0
      obtain ⟨P, hP⟩ : ∃ P, (p + k) % 18446744073709551616 = P := ⟨_, rfl⟩
      obtain ⟨P', hP'⟩ : ∃ P', (p + (k + 1)) % 18446744073709551616 = P' := ⟨_, rfl⟩
      have hPl : P < 18446744073709551616 := by rw [← hP]; exact Nat.mod_lt _ (by decide)
      have hPP : (P + 1) % 18446744073709551616 = P' := by omega
      have w1 : IntKind.u64.wrap ((P : Int) + 1) = (P' : Int) := by rw [IntKind.wrap_u64]; omega
      have hx : f k ^^^ sby (keyAt F) P = mk (keyAt F) p f k := by unfold mk; rw [hP]
      rw [hP] at hst
      obtain ⟨y, hy⟩ : ∃ y, f k = y := ⟨_, rfl⟩
      obtain ⟨s, hs⟩ : ∃ s, sby (keyAt F) P = s := ⟨_, rfl⟩
      have hyl : y < 256 := by rw [← hy]; exact hf.out k
      have hsl : s < 256 := by rw [← hs]; exact sby_256 _ (fun r => keyAt_by hF.out r) _
      rw [hy] at c0
      rw [hy, hs] at hx
      have hxor := Lib.hid (bits_xor8' y s hyl hsl)
      have hog : o ≠ g := by have := hgl.out; omega
      have ho0 : wr.drew.ownsRow B 5 1 (.slice (some ⟨o, 0, none⟩) n c) n (rowN n (upto k (mk (keyAt F) p f) f)) := ho
      have hr0 : w.grownBy wr.drew (some g) := grown_drew hgr
      have c0d : wr.drew.cell? ⟨o, k, none⟩ = some (.int .u8 (y : Nat)) := c0
      have S0 : StAt wr.drew g F P := hst
      have PP := Lib.hid (fun w' (h : StAt w' g F P) => h.place)
      have hki : (k : Int) < (n : Int) := by omega
      have hlt := Lib.hid hlt
      have hPl := Lib.hid hPl
      have hP' := Lib.hid hP'
      have hx := Lib.hid hx
      have hol := Lib.hid hol
      have hog := Lib.hid hog
      have hs := Lib.hid hs
      obtain ⟨v, hv⟩ : ∃ v, wr.drew = v := ⟨_, rfl⟩
      rw [hv] at ho0 hr0 c0d S0
      have c0 := c0d
      clear hk hP hPP hy hyl hsl hcell hst f0 ho c0d hgr
      go_wp2_with fail
      refine region_seqS (fun w' => StAt w' g F P) (by kernel_rfl) (by rw [hv]; exact S0) ?_
      simp only [pairs, Nat.reduceAdd]
      change SeqS _ _ _ _ _ _ _ _ wr.drew
      rw [hv]
      clear hv
      have c0' := Lib.hid c0
      clear c0
      repeat (first
        | (refine SeqS.take (v := ?_) (by first | assumption | trivial) (by kernel_rfl) (by decide +kernel) (by decide +kernel) (Or.inl ⟨by rfl, ?_⟩) ?_
           rotate_left
           focus
             intro w' hb'
             go_simp
             with_reducible rfl
           simp only [Act.put, List.setIfInBounds_toArray, List.set_cons_zero, List.set_cons_succ])
        | (refine SeqS.take (v := ?_) (by first | assumption | trivial) (by kernel_rfl) (by decide +kernel) (by decide +kernel) (Or.inl ⟨by rfl, ?_⟩) ?_
           rotate_left
           focus
             intro w' hb'
             have c2 := PP.out w' hb'
             go_simp
             with_reducible rfl
           simp only [Act.put, List.setIfInBounds_toArray, List.set_cons_zero, List.set_cons_succ])
        | (refine SeqS.take (v := undef) (by first | assumption | trivial) (by kernel_rfl) (by decide +kernel) (by decide +kernel) (Or.inr ⟨by rfl, rfl⟩) ?_
           simp only [Act.put, List.setIfInBounds_toArray, List.set_cons_zero, List.set_cons_succ])
        | (refine SeqS.take1 (v := ?_) (by first | assumption | trivial) (by kernel_rfl) (by decide +kernel) (by decide +kernel) (Or.inl ⟨by rfl, ?_⟩) ?_
           rotate_left
           focus
             intro w' hb'
             go_simp
             with_reducible rfl
           simp only [Act.put, List.setIfInBounds_toArray, List.set_cons_zero, List.set_cons_succ])
        | (refine SeqS.take1 (v := ?_) (by first | assumption | trivial) (by kernel_rfl) (by decide +kernel) (by decide +kernel) (Or.inl ⟨by rfl, ?_⟩) ?_
           rotate_left
           focus
             intro w' hb'
             have c2 := PP.out w' hb'
             go_simp
             with_reducible rfl
           simp only [Act.put, List.setIfInBounds_toArray, List.set_cons_zero, List.set_cons_succ])
        | (refine SeqS.take1 (v := undef) (by first | assumption | trivial) (by kernel_rfl) (by decide +kernel) (by decide +kernel) (Or.inr ⟨by rfl, rfl⟩) ?_
           simp only [Act.put, List.setIfInBounds_toArray, List.set_cons_zero, List.set_cons_succ])
        | (refine SeqS.take2 (v := ?_) (by first | assumption | trivial) (by kernel_rfl) (by decide +kernel) (by decide +kernel) (Or.inl ⟨by rfl, ?_⟩) ?_
           rotate_left
           focus
             intro w' hb'
             go_simp
             with_reducible rfl
           simp only [Act.put, List.setIfInBounds_toArray, List.set_cons_zero, List.set_cons_succ])
        | (refine SeqS.take2 (v := ?_) (by first | assumption | trivial) (by kernel_rfl) (by decide +kernel) (by decide +kernel) (Or.inl ⟨by rfl, ?_⟩) ?_
           rotate_left
           focus
             intro w' hb'
             have c2 := PP.out w' hb'
             go_simp
             with_reducible rfl
           simp only [Act.put, List.setIfInBounds_toArray, List.set_cons_zero, List.set_cons_succ])
        | (refine SeqS.take2 (v := undef) (by first | assumption | trivial) (by kernel_rfl) (by decide +kernel) (by decide +kernel) (Or.inr ⟨by rfl, rfl⟩) ?_
           simp only [Act.put, List.setIfInBounds_toArray, List.set_cons_zero, List.set_cons_succ])
        | (refine SeqS.take3 (v := ?_) (by first | assumption | trivial) (by kernel_rfl) (by decide +kernel) (by decide +kernel) (Or.inl ⟨by rfl, ?_⟩) ?_
           rotate_left
           focus
             intro w' hb'
             go_simp
             with_reducible rfl
           simp only [Act.put, List.setIfInBounds_toArray, List.set_cons_zero, List.set_cons_succ])
        | (refine SeqS.take3 (v := ?_) (by first | assumption | trivial) (by kernel_rfl) (by decide +kernel) (by decide +kernel) (Or.inl ⟨by rfl, ?_⟩) ?_
           rotate_left
           focus
             intro w' hb'
             have c2 := PP.out w' hb'
             go_simp
             with_reducible rfl
           simp only [Act.put, List.setIfInBounds_toArray, List.set_cons_zero, List.set_cons_succ])
        | (refine SeqS.take3 (v := undef) (by first | assumption | trivial) (by kernel_rfl) (by decide +kernel) (by decide +kernel) (Or.inr ⟨by rfl, rfl⟩) ?_
           simp only [Act.put, List.setIfInBounds_toArray, List.set_cons_zero, List.set_cons_succ]))
      refine SeqS.either (rs := [3, 9]) (by decide +kernel) ?_
      intro j hj
      simp only [List.mem_cons, List.not_mem_nil, or_false] at hj
      rcases hj with rfl | rfl
      · refine ⟨[], _, [_, _, _, _], rfl, by rfl, fun K hK => ?_⟩
        have c0 := c0'.out
        go_simp
        refine hK _ _ S0 ?_
        clear hK K c0
        refine SeqS.alone (by decide +kernel) (by rfl) (fun K hK => ?_)
        go_simp
        refine (at_any g F P P _ hF.out S0 hPl.out).mono ?_
        rintro e v2 ⟨rfl, S2, g2⟩
        rw [hs.out]
        go_simp
        refine hK _ _ S2 ?_
        clear hK K
        have ho2 := own_grown ho0 g2 hgl.out
        have hr2 := grown_trans hr0 g2
        obtain ⟨o', ho', _, ho2l, hcell2⟩ := own_bytes ho2 (by have := hlt.out; omega)
        injection ho' with ho'
        injection ho' with ho'
        subst ho'
        obtain ⟨c0, f0⟩ := hcell2 k hlt.out
        rw [upto_at] at c0
        have hst3 := ho2.stored k (.int .u8 (mk (keyAt F) p f k : Nat))
        rw [rowN_set n _ _ _ hlt.out, upto_step _ _ _ _ rfl] at hst3
        obtain ⟨ho3, g3⟩ := hst3
        clear ho2 hcell2
        have c2 := S2.place
        repeat (first
          | (refine SeqS.take (v := ?_) (by first | assumption | trivial) (by kernel_rfl) (by decide +kernel) (by decide +kernel) (Or.inl ⟨by rfl, ?_⟩) ?_
             rotate_left
             focus
               intro w' hb'
               go_simp
               with_reducible rfl
             simp only [Act.put, List.setIfInBounds_toArray, List.set_cons_zero, List.set_cons_succ])
          | (refine SeqS.take (v := undef) (by first | assumption | trivial) (by kernel_rfl) (by decide +kernel) (by decide +kernel) (Or.inr ⟨by rfl, rfl⟩) ?_
             simp only [Act.put, List.setIfInBounds_toArray, List.set_cons_zero, List.set_cons_succ])
          | (refine SeqS.take1 (v := ?_) (by first | assumption | trivial) (by kernel_rfl) (by decide +kernel) (by decide +kernel) (Or.inl ⟨by rfl, ?_⟩) ?_
             rotate_left
             focus
               intro w' hb'
               go_simp
               with_reducible rfl
             simp only [Act.put, List.setIfInBounds_toArray, List.set_cons_zero, List.set_cons_succ])
          | (refine SeqS.take1 (v := undef) (by first | assumption | trivial) (by kernel_rfl) (by decide +kernel) (by decide +kernel) (Or.inr ⟨by rfl, rfl⟩) ?_
             simp only [Act.put, List.setIfInBounds_toArray, List.set_cons_zero, List.set_cons_succ])
          | (refine SeqS.take2 (v := ?_) (by first | assumption | trivial) (by kernel_rfl) (by decide +kernel) (by decide +kernel) (Or.inl ⟨by rfl, ?_⟩) ?_
             rotate_left
             focus
               intro w' hb'
               go_simp
               with_reducible rfl
             simp only [Act.put, List.setIfInBounds_toArray, List.set_cons_zero, List.set_cons_succ])
          | (refine SeqS.take2 (v := undef) (by first | assumption | trivial) (by kernel_rfl) (by decide +kernel) (by decide +kernel) (Or.inr ⟨by rfl, rfl⟩) ?_
             simp only [Act.put, List.setIfInBounds_toArray, List.set_cons_zero, List.set_cons_succ])
          | (refine SeqS.take3 (v := ?_) (by first | assumption | trivial) (by kernel_rfl) (by decide +kernel) (by decide +kernel) (Or.inl ⟨by rfl, ?_⟩) ?_
             rotate_left
             focus
               intro w' hb'
               go_simp
               with_reducible rfl
             simp only [Act.put, List.setIfInBounds_toArray, List.set_cons_zero, List.set_cons_succ])
          | (refine SeqS.take3 (v := undef) (by first | assumption | trivial) (by kernel_rfl) (by decide +kernel) (by decide +kernel) (Or.inr ⟨by rfl, rfl⟩) ?_
             simp only [Act.put, List.setIfInBounds_toArray, List.set_cons_zero, List.set_cons_succ]))
        refine SeqS.alone (by decide +kernel) (by rfl) (fun K hK => ?_)
        go_simp
        rw [hxor.out, hx.out]
        obtain ⟨v3, hv3⟩ : ∃ v3, v2.setCell ⟨o, k, none⟩ (.int .u8 (mk (keyAt F) p f k : Nat)) = v3 := ⟨_, rfl⟩
        rw [hv3] at ho3 g3 ⊢
        have S3 := S2.grown g3 (by intro e; injection e with e; exact hog.out e.symm)
        have hr3 := grown_new hr2 g3 (by rw [hBs.out]; exact hBo)
        refine hK _ _ S3 ?_
        clear hK K hv3 c0 f0 c2 hr2 g2 g3
        refine SeqS.done (by decide +kernel) ?_
        have cP := S3.place
        have fP := S3.frozen 771
        have S4 := S3.seek P'
        have g4 : v3.grownBy (v3.setCell ⟨g, 771, none⟩ (.int .u64 (P' : Int))) (some g) := grown_setCell _ _ _ _
        have ho4 := own_grown ho3 g4 hgl.out
        have hr4 := grown_trans hr3 g4
        have S4 := Lib.hid S4
        have ho4 := Lib.hid ho4
        have hr4 := Lib.hid hr4
        clear g4 ho3 hr3
        go_wp2
        go_roundw
        case rel => exact ⟨k + 1, by have := hlt.out; omega, by go_num, ho4.out, by rw [hP'.out]; exact S4.out, hr4.out⟩
        case measure => have := hlt.out; simp [intOf]; omega
      · refine ⟨[_], _, [_, _, _], rfl, by rfl, fun K hK => ?_⟩
        go_simp
        refine (at_any g F P P _ hF.out S0 hPl.out).mono ?_
        rintro e v2 ⟨rfl, S2, g2⟩
        rw [hs.out]
        go_simp
        refine hK _ _ S2 ?_
        clear hK K
        have c0 := g2.cell c0'.out (by intro e; injection e with e; exact hog.out e)
        refine SeqS.alone (by decide +kernel) (by rfl) (fun K hK => ?_)
        go_simp
        refine hK _ _ S2 ?_
        clear hK K c0
        have ho2 := own_grown ho0 g2 hgl.out
        have hr2 := grown_trans hr0 g2
        obtain ⟨o', ho', _, ho2l, hcell2⟩ := own_bytes ho2 (by have := hlt.out; omega)
        injection ho' with ho'
        injection ho' with ho'
        subst ho'
        obtain ⟨c0, f0⟩ := hcell2 k hlt.out
        rw [upto_at] at c0
        have hst3 := ho2.stored k (.int .u8 (mk (keyAt F) p f k : Nat))
        rw [rowN_set n _ _ _ hlt.out, upto_step _ _ _ _ rfl] at hst3
        obtain ⟨ho3, g3⟩ := hst3
        clear ho2 hcell2
        have c2 := S2.place
        repeat (first
          | (refine SeqS.take (v := ?_) (by first | assumption | trivial) (by kernel_rfl) (by decide +kernel) (by decide +kernel) (Or.inl ⟨by rfl, ?_⟩) ?_
             rotate_left
             focus
               intro w' hb'
               go_simp
               with_reducible rfl
             simp only [Act.put, List.setIfInBounds_toArray, List.set_cons_zero, List.set_cons_succ])
          | (refine SeqS.take (v := undef) (by first | assumption | trivial) (by kernel_rfl) (by decide +kernel) (by decide +kernel) (Or.inr ⟨by rfl, rfl⟩) ?_
             simp only [Act.put, List.setIfInBounds_toArray, List.set_cons_zero, List.set_cons_succ])
          | (refine SeqS.take1 (v := ?_) (by first | assumption | trivial) (by kernel_rfl) (by decide +kernel) (by decide +kernel) (Or.inl ⟨by rfl, ?_⟩) ?_
             rotate_left
             focus
               intro w' hb'
               go_simp
               with_reducible rfl
             simp only [Act.put, List.setIfInBounds_toArray, List.set_cons_zero, List.set_cons_succ])
          | (refine SeqS.take1 (v := undef) (by first | assumption | trivial) (by kernel_rfl) (by decide +kernel) (by decide +kernel) (Or.inr ⟨by rfl, rfl⟩) ?_
             simp only [Act.put, List.setIfInBounds_toArray, List.set_cons_zero, List.set_cons_succ])
          | (refine SeqS.take2 (v := ?_) (by first | assumption | trivial) (by kernel_rfl) (by decide +kernel) (by decide +kernel) (Or.inl ⟨by rfl, ?_⟩) ?_
             rotate_left
             focus
               intro w' hb'
               go_simp
               with_reducible rfl
             simp only [Act.put, List.setIfInBounds_toArray, List.set_cons_zero, List.set_cons_succ])
          | (refine SeqS.take2 (v := undef) (by first | assumption | trivial) (by kernel_rfl) (by decide +kernel) (by decide +kernel) (Or.inr ⟨by rfl, rfl⟩) ?_
             simp only [Act.put, List.setIfInBounds_toArray, List.set_cons_zero, List.set_cons_succ])
          | (refine SeqS.take3 (v := ?_) (by first | assumption | trivial) (by kernel_rfl) (by decide +kernel) (by decide +kernel) (Or.inl ⟨by rfl, ?_⟩) ?_
             rotate_left
             focus
               intro w' hb'
               go_simp
               with_reducible rfl
             simp only [Act.put, List.setIfInBounds_toArray, List.set_cons_zero, List.set_cons_succ])
          | (refine SeqS.take3 (v := undef) (by first | assumption | trivial) (by kernel_rfl) (by decide +kernel) (by decide +kernel) (Or.inr ⟨by rfl, rfl⟩) ?_
             simp only [Act.put, List.setIfInBounds_toArray, List.set_cons_zero, List.set_cons_succ]))
        refine SeqS.alone (by decide +kernel) (by rfl) (fun K hK => ?_)
        go_simp
        rw [hxor.out, hx.out]
        obtain ⟨v3, hv3⟩ : ∃ v3, v2.setCell ⟨o, k, none⟩ (.int .u8 (mk (keyAt F) p f k : Nat)) = v3 := ⟨_, rfl⟩
        rw [hv3] at ho3 g3 ⊢
        have S3 := S2.grown g3 (by intro e; injection e with e; exact hog.out e.symm)
        have hr3 := grown_new hr2 g3 (by rw [hBs.out]; exact hBo)
        refine hK _ _ S3 ?_
        clear hK K hv3 c0 f0 c2 hr2 g2 g3
        refine SeqS.done (by decide +kernel) ?_
        have cP := S3.place
        have fP := S3.frozen 771
        have S4 := S3.seek P'
        have g4 : v3.grownBy (v3.setCell ⟨g, 771, none⟩ (.int .u64 (P' : Int))) (some g) := grown_setCell _ _ _ _
        have ho4 := own_grown ho3 g4 hgl.out
        have hr4 := grown_trans hr3 g4
        have S4 := Lib.hid S4
        have ho4 := Lib.hid ho4
        have hr4 := Lib.hid hr4
        clear g4 ho3 hr3
        go_wp2
        go_roundw
        case rel => exact ⟨k + 1, by have := hlt.out; omega, by go_num, ho4.out, by rw [hP'.out]; exact S4.out, hr4.out⟩
        case measure => have := hlt.out; simp [intOf]; omega
    · obtain rfl : k = n := by omega
      have ho : wr.ownsRow B 5 1 (.slice b k c) k (rowN k (mk (keyAt F) p f)) := by rw [rowN_congr (upto_all k (mk (keyAt F) p f) f)] at ho; exact ho
      go_wp2
      go_ret
      refine ⟨b, c, rfl, ?_, hst, hgr⟩
      rw [hBs.out]
      exact ho
end Go.Proofs.YtagacpjeooaapaaGreatDoor

/-
  The document's own stream of a key, and bytes masked by it. New memory alone is written. Conditions: numbers below 2^64, bytes below 256, at most 2^32 of them.
-/
namespace Go.Proofs.YtagacpjeooaapaaGreatDoor
open Go.RowKit

/-- The stream's bytes from a place on. -/
def strm (K : Nat → Nat → Nat) (p : Nat) : Nat → Nat := fun i => sby K ((p + i) % 18446744073709551616)
theorem strm_by {K : Nat → Nat → Nat} (hK : ∀ r, By (K r)) (p : Nat) : By (strm K p) := fun _ => sby_256 K hK _
/-- A number's block of which i bytes of the number are laid, the highest first. -/
def uq (i n : Nat) : Nat → Nat := fun j => if j < 8 + i then ctr n j else 0
theorem uq_zero (n : Nat) : Ag 16 (uq 0 n) zf := fun j _ => by
  unfold uq ctr
  by_cases h : j < 8
  · rw [if_pos (by omega), if_pos h]; rfl
  · rw [if_neg (by omega)]; rfl
theorem uq_all (n : Nat) : Ag 16 (uq 8 n) (ctr n) := fun j hj => by unfold uq; rw [if_pos (by omega)]
theorem uq_step (i n : Nat) (hi : i < 8) : upd (uq i n) (8 + i) (n / 2 ^ (56 - 8 * i) % 256) = uq (i + 1) n := by
  funext j
  unfold upd uq ctr
  by_cases e : j = 8 + i
  · rw [if_pos e, if_pos (by omega), if_neg (by omega), show 8 * (15 - j) = 56 - 8 * i by omega]
  · rw [if_neg e]
    by_cases h : j < 8 + i
    · rw [if_pos h, if_pos (show j < 8 + (i + 1) by omega)]
    · rw [if_neg h, if_neg (show ¬ j < 8 + (i + 1) by omega)]
/-- Where the stream's byte is, j places on in one block. -/
theorem strm_at (K : Nat → Nat → Nat) (p k P N R j : Nat) (hP : (p + k) % 18446744073709551616 = P) (hN : P / 16 = N) (hR : P % 16 = R) (hj : R + j < 16) : strm K p (k + j) = enc K (ctr N) (R + j) ∧ (p + (k + j)) % 18446744073709551616 = P + j := by
  have h : (p + (k + j)) % 18446744073709551616 = P + j := by omega
  refine ⟨?_, h⟩
  unfold strm sby
  rw [h, show (P + j) / 16 = N by omega, show (P + j) % 16 = R + j by omega]
theorem own_base {w : World} {b B : Nat} {e : TypeId} {size : Nat} {v : Value} {n : Nat} {xs : List Value} (h : w.ownsRow B e size v n xs) (hb : b ≤ B) : w.ownsRow b e size v n xs := by
  refine ⟨h.1, ?_⟩
  rcases h.2 with h0 | ⟨g, cap, cur, h1, h2, h3⟩
  · exact .inl h0
  · exact .inr ⟨g, cap, cur, h1, Nat.le_trans hb h2, h3⟩
def lenV : Value → Nat | .slice _ n _ => n | _ => 0

set_option maxRecDepth 100000 in
set_option maxHeartbeats 2000000 in
theorem rFrom_any (a : Option Addr) (cap : Nat) (bs : List Int) (p M : Nat) (w : World) (hI : Ints .u8 w a 32 cap bs) (hr : ∀ x ∈ bs, 0 ≤ x ∧ x < 256) (hp : p < 18446744073709551616) (hM : M ≤ 4294967296) :
    Calls Tryz.prog 32 #[.slice a 32 cap, .int .u64 (p : Int), .int .i64 (M : Int)] w fun e w' => ∃ b c, e = .returned (.slice b M c) ∧ w'.ownsRow w.heap.size 5 1 (.slice b M c) M (rowN M (strm (keyAt (kb (kws (own bs) 52))) p)) ∧ Below w.heap.size w w' := by
  obtain ⟨i0, hi, hz0, hz1, hz2⟩ := info_u8
  have hM := Lib.hid hM
  have hp := Lib.hid hp
  go_enter Tryz.func32, Tryz.ntmps32
  go_wp2_with fail
  refine (rNew_any a cap bs w hI hr).mono ?_
  rintro e w1 ⟨wa, wc, ta, tc, rfl, hW, hT, b1⟩
  have hwd := Lib.hid (kws_wd (own_wd bs hr) 52)
  obtain ⟨W, hWe⟩ : ∃ W, kws (own bs) 52 = W := ⟨_, rfl⟩
  rw [hWe] at hW hwd
  have hWe := Lib.hid hWe
  obtain ⟨tb, toff, rfl, _⟩ := hT.at (by decide)
  obtain ⟨B, hB⟩ : ∃ B, w.heap.size = B := ⟨_, rfl⟩
  obtain ⟨g, hg⟩ : ∃ g, w1.heap.size = g := ⟨_, rfl⟩
  have hBg : B ≤ g := by rw [← hg, ← hB]; exact b1.size
  have b2 := below1 w1 (.cells #[.slice wa 60 wc, .slice (some ⟨tb, toff, none⟩) 256 tc] 108)
  have hG := Blk.new w1 108 [.slice wa 60 wc, .slice (some ⟨tb, toff, none⟩) 256 tc]
  have hW2 := hW.keep b2
  have hT2 := hT.keep b2
  rw [hg] at hG b2
  rw [hB] at b1
  have hB := Lib.hid hB
  clear hW hT hI hr
  change Blk (w1.alloc (.cells #[.slice wa 60 wc, .slice (some ⟨tb, toff, none⟩) 256 tc] 108)) _ _ _ at hG
  go_wp2
  obtain ⟨w2, hw2⟩ : ∃ w2, w1.alloc (.cells #[.slice wa 60 wc, .slice (some ⟨tb, toff, none⟩) 256 tc] 108) = w2 := ⟨_, rfl⟩
  rw [hw2] at b2 hG hW2 hT2 ⊢
  have hBw := b1.trans (b2.mono hBg)
  obtain ⟨D, hD⟩ : ∃ D, w2.heap.size = D := ⟨_, rfl⟩
  have hgD : g < D := by rw [← hD]; exact hG.lt
  have hBD : B ≤ D := Nat.le_of_lt (Nat.lt_of_le_of_lt hBg hgD)
  have WW := Lib.hid (fun w' (h : Below D w2 w') => (hW2.keep (by rw [hD]; exact h) : Ints .u32 w' wa 60 wc (wordsL 60 W 0)))
  have TT := Lib.hid (fun w' (h : Below D w2 w') => (hT2.keep (by rw [hD]; exact h) : Ints .u8 w' (some ⟨tb, toff, none⟩) 256 tc (bytesL 256 sb)))
  have GG := Lib.hid (fun w' (h : Below D w2 w') => (hG.keep h hgD : Blk w' g 108 [.slice wa 60 wc, .slice (some ⟨tb, toff, none⟩) 256 tc]))
  have hD := Lib.hid hD
  have hBD := Lib.hid hBD
  have hBw := Lib.hid hBw
  clear hw2 hg hBg hgD hG hW2 hT2 b1 b2
  go_loopw [1, 8] (fun t o wr => ∃ k : Nat, k ≤ M ∧ t = .int .u64 ((p + k) % 18446744073709551616 : Nat) ∧ wr.ownsRow D 5 1 o k (rowN k (strm (keyAt (kb W)) p)) ∧ Below D w2 wr) (fun _ o _ => M - lenV o)
  case atStart => exact ⟨0, Nat.zero_le _, by rw [Nat.add_zero, Nat.mod_eq_of_lt hp.out], World.ownsRow_nil _ _ _ _, Below.refl _ _⟩
  case round =>
    obtain ⟨k, hk, rfl, hown, hb⟩ := hrel
    obtain ⟨w3, rfl⟩ : ∃ w3 : World, w3 = wr := ⟨_, rfl⟩
    obtain ⟨vb, vc, hv⟩ := own_slice hown
    subst hv
    by_cases hlt : k < M
    · obtain ⟨P, hP⟩ : ∃ P, (p + k) % 18446744073709551616 = P := ⟨_, rfl⟩
      obtain ⟨N, hN⟩ : ∃ N, P / 16 = N := ⟨_, rfl⟩
      obtain ⟨R, hR⟩ : ∃ R, P % 16 = R := ⟨_, rfl⟩
      have n1 : (P : Int) / 16 = (N : Int) := by omega
      have n2 : (P : Int).tdiv 16 = (N : Int) := by rw [← hN]; exact Int.ofNat_tdiv P 16
      have r1 : (P : Int) % 16 = (R : Int) := by omega
      have r2 : (P : Int).tmod 16 = (R : Int) := by rw [Int.tmod_eq_emod_of_nonneg (by omega)]; exact r1
      have hRl : R < 16 := by omega
      have hki : (k : Int) < (M : Int) := by omega
      rw [hP]
      have hP := Lib.hid hP
      have hN := Lib.hid hN
      have hR := Lib.hid hR
      have hRl := Lib.hid hRl
      have hlt := Lib.hid hlt
      have hk := Lib.hid hk
      have hbs : D ≤ w3.heap.size := Nat.le_trans (by have := hD.out; omega) hb.size
      go_wp2_with (at_make; refine wpList_make_two rfl _ _ 24 rfl w3.heap.size 5 i0 (.int .u8 0) Tryz.underlying24 hi hz0 hz1 rfl (n := 16) (C := 16) rfl rfl rfl rfl (Nat.le_refl _) ?_ ?_ (Nat.le_refl _) ?_; (rw [hz2]; decide); (unfold maxLen; decide); intro V _ hkV hgV; refine RowKit.Hid.out ?_)
      refine Lib.hid ?_
      rw [rep_zero] at hkV
      have bV : Below w3.heap.size w3 V := (Below.refl _ w3).grown hgV (Nat.le_refl _) (fun j hj => by cases hj)
      obtain ⟨S, hS⟩ : ∃ S, w3.heap.size = S := ⟨_, rfl⟩
      have OO := Lib.hid (fun w' (h : Below S w3 w') => (own_keep hown (by rw [hS]; exact h) : w'.ownsRow D 5 1 (.slice vb k vc) k (rowN k (strm (keyAt (kb W)) p))))
      have OL := Lib.hid (fun x (h : (Value.slice vb k vc).ownBlock = some x) => show x < S by rw [← hS]; exact (hown.lt x h).2)
      rw [hS] at hkV bV hbs ⊢
      have hk0 : Blk V S 5 (rowN 16 (uq 0 N)) := hkV.cast (rowN_congr (uq_zero N)).symm
      have hbs := Lib.hid hbs
      have hb := Lib.hid hb
      clear hgV hS hkV hown
      go_wp2
      go_loopw [11] (fun i wr' => ∃ i' : Nat, i' ≤ 8 ∧ i = .int .i64 i' ∧ Blk wr' S 5 (rowN 16 (uq i' N)) ∧ Below S w3 wr') (fun i _ => 8 - (intOf i).toNat)
      case atStart => exact ⟨0, by omega, rfl, hk0, bV⟩
      case round =>
        clear hk0 bV
        obtain ⟨i, hi8, rfl, hx, hbq⟩ := hrel
        by_cases hlt8 : i < 8
        · obtain ⟨m, hm⟩ : ∃ m, 8 + i = m := ⟨_, rfl⟩
          obtain ⟨j, hj⟩ : ∃ j, 8 * i = j := ⟨_, rfl⟩
          obtain ⟨s, hs⟩ : ∃ s, 56 - j = s := ⟨_, rfl⟩
          have m1 : (8 : Int) + (i : Int) = (m : Int) := by omega
          have m2 : (8 : Int) * (i : Int) = (j : Int) := by omega
          have m3 : (56 : Int) - (j : Int) = (s : Int) := by omega
          have hml : m < 16 := by omega
          have cx := hx.cell m
          rw [rowN_at 16 _ m hml] at cx
          have fx := Blk.frozen hx m
          have hset := hx.set m (.int .u8 (N / 2 ^ s % 256 : Nat))
          rw [rowN_set 16 _ _ _ hml, ← hm, ← hs, ← hj, uq_step i N hlt8, hm] at hset
          rw [hj, hs] at hset
          have hset := Lib.hid hset
          have hii : (i : Int) < 8 := by omega
          have hmi : (m : Int) < 16 := by omega
          have hsi : (s : Int) < 64 := by omega
          have hlt8 := Lib.hid hlt8
          clear hm hj hs hml hi8
          go_wp2
          go_roundw
          case rel => exact ⟨i + 1, by have := hlt8.out; omega, by go_num, hset.out, hbq.setCell (p := ⟨S, m, none⟩) (Nat.le_refl S) _⟩
          case measure => have := hlt8.out; simp [intOf]; omega
        · obtain rfl : i = 8 := by omega
          obtain ⟨V2, rfl⟩ : ∃ V2 : World, V2 = wr := ⟨_, rfl⟩
          have hx : Blk V2 S 5 (rowN 16 (ctr N)) := hx.cast (rowN_congr (uq_all N))
          have hIx : Ints .u8 V2 (some ⟨S, 0, none⟩) 16 16 (bytesL 16 (ctr N)) := by
            have := Ints.row (o := 0) (cap := 16) hx 16 (by decide) (by decide)
            rw [show (fun i => ctr N (0 + i)) = ctr N by funext i; rw [Nat.zero_add]] at this
            exact this
          have hB2 : Below D w2 V2 := hb.out.trans (hbq.mono hbs.out)
          have gg := GG.out V2 hB2
          have gc0 := gg.cell 0
          have gc1 := gg.cell 1
          simp only [List.getElem?_cons_zero, List.getElem?_cons_succ] at gc0 gc1
          have hO2 := OO.out V2 hbq
          have hSV := hx.lt
          clear gg
          go_wp2_with fail
          refine (rEnc_any wa wc tb toff tc W (some ⟨S, 0, none⟩) 16 (ctr N) V2 (WW.out V2 hB2) hwd.out (TT.out V2 hB2) hIx (ctr_by N)).mono ?_
          rintro e w5 ⟨oa, oc, rfl, hOx, nO, b5⟩
          obtain ⟨E, hE⟩ : ∃ E, enc (keyAt (kb W)) (ctr N) = E := ⟨_, rfl⟩
          have hEb : By E := by rw [← hE]; exact enc_by (fun r => keyAt_by (kb_by W) r) (ctr_by N)
          rw [hE] at hOx
          obtain ⟨ob, ooff, rfl, _⟩ := hOx.at (by decide)
          have hSob : S ≤ ob := by have := nO _ rfl; simp at this; omega
          have cE : ∀ i, i < 16 → w5.cell? ⟨ob, ooff + i, none⟩ = some (.int .u8 (E i : Nat)) := fun i hi => by
            have h1 := hOx.cell_at i hi
            rw [bytesL_at 16 _ i hi] at h1
            exact h1
          have hobl : ob < w5.heap.size := World.block_lt_of_cell? w5 _ (cE 0 (by decide))
          have hown5 := own_keep hO2 b5
          have hB5 : Below D w2 w5 := hB2.trans (b5.mono (by have := hbs.out; omega))
          have nOB : (Value.slice vb k vc).ownBlock ≠ some ob := fun h => by have := OL.out ob h; omega
          have hE := Lib.hid hE
          have hEb := Lib.hid hEb
          have cE := Lib.hid cE
          have nOB := Lib.hid nOB
          have hobl := Lib.hid hobl
          clear gc0 gc1 hO2 hSV hIx hx hB2 hbq hOx nO b5 OO OL hb hSob
          go_wp2
          go_loopw [1, 8, 13] (fun t o kk wr => ∃ j : Nat, R + j ≤ 16 ∧ k + j ≤ M ∧ t = .int .u64 ((p + (k + j)) % 18446744073709551616 : Nat) ∧ kk = .int .u64 ((R + j : Nat)) ∧ wr.ownsRow D 5 1 o (k + j) (rowN (k + j) (strm (keyAt (kb W)) p)) ∧ o.ownBlock ≠ some ob ∧ (∀ i, i < 16 → wr.cell? ⟨ob, ooff + i, none⟩ = some (.int .u8 (E i : Nat))) ∧ ob < wr.heap.size ∧ Below D w2 wr) (fun _ _ kk _ => 16 - (intOf kk).toNat)
          case atStart => exact ⟨0, by have := hRl.out; omega, hk.out, by rw [Nat.add_zero, hP.out], by rw [Nat.add_zero], hown5, nOB.out, cE.out, hobl.out, hB5⟩
          case round =>
            clear hown5 nOB cE hobl hB5
            obtain ⟨j, hj16, hjM, rfl, rfl, hown, nOB, cE, hobl, hB5⟩ := hrel
            obtain ⟨lb, lc, hv⟩ := own_slice hown
            subst hv
            obtain ⟨m, hm⟩ : ∃ m, k + j = m := ⟨_, rfl⟩
            obtain ⟨t, ht⟩ : ∃ t, R + j = t := ⟨_, rfl⟩
            by_cases ht16 : t < 16
            · obtain ⟨hsm, hpm⟩ := strm_at (keyAt (kb W)) p k P N R j hP.out hN.out hR.out (by omega)
              rw [hE.out, ht, hm] at hsm
              rw [hpm]
              rw [hm] at hown hjM hpm nOB
              rw [hm, ht]
              have hti : (t : Int) < 16 := by omega
              by_cases hmM : m < M
              · have hmi : (m : Int) < (M : Int) := by omega
                have ct := cE t ht16
                have hP1 : (p + (k + (j + 1))) % 18446744073709551616 = (P + j + 1) % 18446744073709551616 := by have := hP.out; omega
                obtain ⟨P', hP'⟩ : ∃ P', (P + j + 1) % 18446744073709551616 = P' := ⟨_, rfl⟩
                have w1' := Lib.hid (show IntKind.u64.wrap ((P : Int) + (j : Int) + 1) = (P' : Int) by rw [IntKind.wrap_u64]; omega)
                have w2' : IntKind.u64.wrap ((t : Int) + 1) = ((t + 1 : Nat) : Int) := by rw [IntKind.wrap_u64]; omega
                have hsn : Hid (rowN m (strm (keyAt (kb W)) p) ++ [Value.int .u8 (E t : Nat)] = rowN (m + 1) (strm (keyAt (kb W)) p)) := Lib.hid (by rw [rowN_snoc, hsm])
                have hDs : D ≤ wr.heap.size := Nat.le_trans (by have := hD.out; omega) hB5.size
                have hOL := hown.lt
                have hmM := Lib.hid hmM
                have hm := Lib.hid hm
                have ht := Lib.hid ht
                have ht16 := Lib.hid ht16
                have hP1 := Lib.hid hP1
                have hP' := Lib.hid hP'
                have hDs := Lib.hid hDs
                have hOL := Lib.hid hOL
                have nOB := Lib.hid nOB
                have cE := Lib.hid cE
                have hobl := Lib.hid hobl
                have hB5 := Lib.hid hB5
                clear hj16 hjM hsm hpm
                go_wp2_with (at_builtin; refine wpList_append_lies _ rfl _ _ 24 rfl D 5 i0 (.int .u8 0) 1 1 Tryz.underlying24 hi hz0 hz1 hz2 rfl (by decide) _ _ _ rfl (hown.alloc _) ⟨wr.heap.size, 0, none⟩ 1 1 ([Value.int .u8 (E t : Nat)]) rfl rfl ?c1 ?c2 (by decide) ?c3 ?c4 ?c5 (wr.heap.size + 1) ?c6 ?_)
                case c1 =>
                  intro q u hq
                  obtain rfl : q = 0 := by have := (List.getElem?_eq_some_iff.1 hq).1; simpa using this
                  simp only [List.getElem?_cons_zero, Option.some.injEq] at hq
                  subst hq
                  exact World.cell?_alloc_at (w := wr) #[Value.int .u8 (E t : Nat)] 5 wr.heap.size 0 rfl
                case c2 =>
                  intro u hu
                  simp only [List.mem_cons, List.not_mem_nil, or_false] at hu
                  subst hu
                  rfl
                case c3 => have := hM.out; have := hmM.out; unfold maxLen; omega
                case c4 => have := hM.out; have := hmM.out; omega
                case c5 => have := hDs.out; simp; omega
                case c6 => simp
                intro G gc w6 hown6 hg6 hat6 hl6
                rw [hsn.out] at hown6
                have nOB6 : (Value.slice (some ⟨G, 0, none⟩) (m + 1) gc).ownBlock ≠ some ob := by
                  intro e
                  injection e with e
                  simp only at e
                  subst e
                  rcases hat6 with h | h
                  · exact nOB.out h
                  · have := hobl.out; omega
                have cE6 : ∀ i, i < 16 → w6.cell? ⟨ob, ooff + i, none⟩ = some (.int .u8 (E i : Nat)) := fun i hi =>
                  hg6.cell (((below1 wr _).cell (p := ⟨ob, ooff + i, none⟩) hobl.out).trans (cE.out i hi)) (fun e => nOB.out e.symm)
                have hobl6 : ob < w6.heap.size := by have := hg6.size; have := hobl.out; simp at *; omega
                have hB6 : Below D w2 w6 := (hB5.out.alloc hDs.out _).grown hg6 (by have := hDs.out; simp; omega) (fun q hq => (hOL.out q hq).1)
                clear hg6 hat6 hl6 hown
                go_wp2
                go_roundw
                case rel => exact ⟨j + 1, by have := ht.out; have := ht16.out; omega, by have := hm.out; have := hmM.out; omega, by rw [hP1.out, hP'.out]; exact congrArg (Value.int .u64) w1'.out, by rw [show R + (j + 1) = t + 1 by have := ht.out; omega]; exact congrArg (Value.int .u64) (by omega), by rw [show k + (j + 1) = m + 1 by have := hm.out; omega]; exact hown6, nOB6, cE6, hobl6, hB6⟩
                case measure => have := ht16.out; simp [intOf]; omega
              · have hmi : ¬ (m : Int) < (M : Int) := by omega
                have hj0 : k < m := by have := hlt.out; omega
                have hj0 := Lib.hid hj0
                have hjM := Lib.hid hjM
                have hpm := Lib.hid hpm
                have hfin := Lib.hid (show M - m < M - k by have := hlt.out; have := hj0.out; omega)
                clear nOB cE hobl hm ht hj16 ht16 hmM
                go_wp2
                go_roundw
                case rel => exact ⟨m, hjM.out, by rw [hpm.out], hown, hB5⟩
                case measure => exact hfin.out
            · rw [hm] at hown hjM
              rw [hm, ht]
              have hti : ¬ (t : Int) < 16 := by omega
              have hfin := Lib.hid (show M - m < M - k by have := hlt.out; have := hRl.out; omega)
              have hjM := Lib.hid hjM
              clear nOB cE hobl hm ht hj16 ht16
              go_wp2
              go_roundw
              case rel => exact ⟨m, hjM.out, rfl, hown, hB5⟩
              case measure => exact hfin.out
    · obtain rfl : k = M := by omega
      clear hlt hk
      go_wp2
      go_ret
      rw [hWe.out]
      refine ⟨vb, vc, rfl, own_base hown (by rw [hB.out]; exact hBD.out), ?_⟩
      rw [hB.out]
      exact hBw.out.trans (hb.mono hBD.out)
end Go.Proofs.YtagacpjeooaapaaGreatDoor

/-
  Bytes masked by the document's own words. New memory alone is written. Conditions: numbers below 2^64, bytes below 256, at most 2^32 of them.
-/
namespace Go.Proofs.YtagacpjeooaapaaGreatDoor
open Go.RowKit

set_option maxRecDepth 100000 in
set_option maxHeartbeats 1000000 in
theorem rMask_any (a : Option Addr) (cap : Nat) (bs : List Int) (p : Nat) (ba : Option Addr) (n bc : Nat) (f : Nat → Nat) (w : World) (hI : Ints .u8 w a 32 cap bs) (hr : ∀ x ∈ bs, 0 ≤ x ∧ x < 256) (hp : p < 18446744073709551616)
    (hb : Ints .u8 w ba n bc (bytesL n f)) (hf : By f) (hn : n ≤ 4294967296) :
    Calls Tryz.prog 19 #[.slice a 32 cap, .int .u64 (p : Int), .slice ba n bc] w fun e w' => ∃ b c, e = .returned (.slice b n c) ∧ w'.ownsRow w.heap.size 5 1 (.slice b n c) n (rowN n (mk (keyAt (kb (kws (own bs) 52))) p f)) ∧ Below w.heap.size w w' := by
  have hnH := Lib.hid hn
  have hpH := Lib.hid hp
  clear hn hp
  go_enter Tryz.func19, Tryz.ntmps19
  go_wp2_with fail
  refine (rFrom_any a cap bs p n w hI hr hpH.out hnH.out).mono ?_
  rintro e w1 ⟨xb, xc, rfl, ho, hB⟩
  obtain ⟨K, hK⟩ : ∃ K, keyAt (kb (kws (own bs) 52)) = K := ⟨_, rfl⟩
  have hKb : ∀ r, By (K r) := by rw [← hK]; exact fun r => keyAt_by (kb_by _) r
  rw [hK] at ho
  have hKH := Lib.hid hK
  obtain ⟨B, hBs⟩ : ∃ B, w.heap.size = B := ⟨_, rfl⟩
  rw [hBs] at ho hB
  have ho0 : w1.ownsRow B 5 1 (.slice xb n xc) n (rowN n (upto 0 (mk K p f) (strm K p))) := by rw [upto_zero]; exact ho
  have II := Lib.hid (fun w' (h : Below B w w') => (hb.keep (by rw [hBs]; exact h) : Ints .u8 w' ba n bc (bytesL n f)))
  have hBH := Lib.hid hBs
  have hfH := Lib.hid hf
  have hKbH := Lib.hid hKb
  clear hI hr hb ho hBs hf hK hKb
  go_wp2
  go_loopw [8] (fun i wr => ∃ k : Nat, k ≤ n ∧ i = .int .i64 k ∧ wr.ownsRow B 5 1 (.slice xb n xc) n (rowN n (upto k (mk K p f) (strm K p))) ∧ Below B w wr) (fun i _ => n - (intOf i).toNat)
  case atStart => exact ⟨0, Nat.zero_le _, rfl, ho0, hB⟩
  case round =>
    clear ho0 hB
    obtain ⟨k, hk, rfl, ho, hB⟩ := hrel
    by_cases hlt : k < n
    · obtain ⟨o, rfl, hBo, hol, hcell⟩ := own_bytes ho (by omega)
      obtain ⟨c0, f0⟩ := hcell k hlt
      rw [upto_at] at c0
      obtain ⟨bb, boff, hba, hbc⟩ := (II.out wr hB).at (by omega)
      subst hba
      have c1 := hbc k hlt
      rw [bytesL_at n f k hlt] at c1
      obtain ⟨y, hy⟩ : ∃ y, f k = y := ⟨_, rfl⟩
      obtain ⟨s, hs⟩ : ∃ s, strm K p k = s := ⟨_, rfl⟩
      have hyl : y < 256 := by rw [← hy]; exact hfH.out k
      have hsl : s < 256 := by rw [← hs]; exact strm_by hKbH.out p k
      rw [hy] at c1
      rw [hs] at c0
      have hx : bits .xor .u8 (s : Int) (y : Int) = ((mk K p f k : Nat) : Int) := by
        rw [bits_xor8' s y hsl hyl, ← hs, ← hy, Nat.xor_comm]
        rfl
      have hst := ho.stored k (.int .u8 (mk K p f k : Nat))
      rw [rowN_set n _ _ _ hlt, upto_step _ _ _ _ rfl] at hst
      have hB2 := hB.setCell (p := ⟨o, k, none⟩) hBo (.int .u8 (mk K p f k : Nat))
      obtain ⟨v, hv, hD⟩ := Draws.one wr
      have hki : (k : Int) < (n : Int) := by omega
      have hltH := Lib.hid hlt
      have hkb : (k : Int) < 4294967296 := by have := hnH.out; omega
      have c0 := hD.cellW c0
      have c1 := hD.cellW c1
      have f0 := hD.frozen f0
      have hst1 : Hid ((v.setCell ⟨o, k, none⟩ (.int .u8 (mk K p f k : Nat))).ownsRow B 5 1 (.slice (some ⟨o, 0, none⟩) n xc) n (rowN n (upto (k + 1) (mk K p f) (strm K p)))) := Lib.hid (by obtain ⟨q, rfl⟩ := hD; exact hst.1)
      have hB3 := Lib.hid ((hB.trans (hD.below B)).setCell (p := ⟨o, k, none⟩) hBo (.int .u8 (mk K p f k : Nat)))
      clear hk hcell hbc hy hs hyl hsl ho hst hB2 hlt hB
      go_wp2_with fail
      refine wp_region_still_tail 12 (by kernel_rfl) (by decide +kernel) ?_
      simp only [List.take_succ_cons, List.take_zero, List.drop_succ_cons, List.drop_zero]
      change wpStill _ _ wr.drew _ _ _
      rw [hv]
      repeat still_step
      refine wpStill_nil ?_
      change wpList _ _ _ _ _ wr.drew
      rw [hv]
      clear hv hD
      go_wp2
      go_roundw
      case rel => exact ⟨k + 1, by have := hltH.out; omega, by go_num, hst1.out, hB3.out⟩
      case measure => have := hltH.out; simp [intOf]; omega
    · obtain rfl : k = n := by omega
      have ho : wr.ownsRow B 5 1 (.slice xb k xc) k (rowN k (mk K p f)) := by rw [rowN_congr (upto_all k (mk K p f) (strm K p))] at ho; exact ho
      go_wp2
      go_ret
      refine ⟨xb, xc, rfl, ?_, ?_⟩
      · rw [hBH.out, hKH.out]; exact ho
      · rw [hBH.out]; exact hB
end Go.Proofs.YtagacpjeooaapaaGreatDoor

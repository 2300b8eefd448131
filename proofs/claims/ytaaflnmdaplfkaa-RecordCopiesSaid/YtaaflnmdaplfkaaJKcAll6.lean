/-
  Texts of stages that were proved on their own, joined: RdSame, RdMoved, RdPad, Bys. Each begins with its own words.
-/
import Derived.Test.YtaaflnmdaplfkaaJKcAll1
import Derived.Test.YtaaflnmdaplfkaaJKcAll5
import Derived.Test.YtaaflnmdaplfkaaJKcAll0

/-
  The document's own comparison of ids (layer 9): of the same bytes it tells that they are the same. Nothing is written. Conditions: at most 40000 ids.
-/
namespace Go.Proofs.Ytaaflnmdaplfkaa
open Go.RowKit

theorem sizeU8s : (Try.prog.info? 5).map (·.size) = some 1 := by kernel_rfl

theorem noGuardIds : Try.prog.eqGuardType Try.prog.depth 28 = false := by kernel_rfl
theorem same_ids (xs : List Int) (h : xs.length = 32) (w : World) : (Op.equalIn 10000 28 (.agg (xs.map (Value.int .u8)).toArray) (.agg (xs.map (Value.int .u8)).toArray)).run Try.prog w = .ok true w := by
  have h := run_equalIn_ints (P := Try.prog) w 9998 28 5 32 .u8 Try.underlying28 Try.underlying5 sizeU8s xs xs h h
  rw [h]; simp

theorem ids_part {w : World} {b off n : Nat} {zs : List Int} (hl : zs.length = 32 * n) (hc : ∀ i, i < 32 * n → w.cell? ⟨b, off + i, none⟩ = some (.int .u8 (zs.getD i 0))) (i : Nat) (hi : i < n) :
    w.rangeAt b (off + 32 * i) (((zs.drop (32 * i)).take 32).map (Value.int .u8)) := fun j v hj => by
  have hlt : j < 32 := by
    rcases Nat.lt_or_ge j 32 with h | h
    · exact h
    · rw [List.getElem?_eq_none (by rw [List.length_map, List.length_take]; omega)] at hj; cases hj
  rw [Nat.add_assoc, hc (32 * i + j) (by omega)]
  rw [List.getElem?_map, List.getElem?_take_of_lt hlt, List.getElem?_drop, List.getElem?_eq_getElem (by omega)] at hj
  rw [← hj, List.getD_eq_getElem?_getD, List.getElem?_eq_getElem (by omega)]
  rfl

set_option maxRecDepth 100000 in
set_option maxHeartbeats 1000000 in
theorem rSame_any (a b : Option Addr) (n c d : Nat) (zs : List Int) (w : World) (h1 : IdsAt w a n c zs) (h2 : IdsAt w b n d zs) (hn : n ≤ 40000) :
    Calls Try.prog 49 #[.slice a n c, .slice b n d] w fun r w' => r = .returned (.bool true) ∧ Below w.heap.size w w' := by
  have hl := Lib.hid h1.1
  have H1 := Lib.hid h1
  have H2 := Lib.hid h2
  have hnH := Lib.hid hn
  clear h1 h2 hn
  go_enter Try.func49, Try.ntmps49
  go_wp2
  go_loopw [5] (fun i wr => ∃ k : Nat, k ≤ n ∧ i = .int .i64 k ∧ Below w.heap.size w wr) (fun i _ => n - (intOf i).toNat)
  case atStart => exact ⟨0, Nat.zero_le _, rfl, Below.refl _ _⟩
  case round =>
    obtain ⟨k, hk, rfl, hb⟩ := hrel
    by_cases hlt : k < n
    · obtain ⟨_, _, h1 | ⟨b1, o1, rfl, c1⟩⟩ := H1.out.keep hb
      · omega
      obtain ⟨_, _, h2 | ⟨b2, o2, rfl, c2⟩⟩ := H2.out.keep hb
      · omega
      have p1 := ids_part hl.out c1 k hlt
      have p2 := ids_part hl.out c2 k hlt
      obtain ⟨ys, hys⟩ : ∃ ys, (zs.drop (32 * k)).take 32 = ys := ⟨_, rfl⟩
      have hyl : ys.length = 32 := by rw [← hys, List.length_take, List.length_drop, hl.out]; omega
      rw [hys] at p1 p2
      have same := same_ids ys hyl
      have ng := noGuardIds
      obtain ⟨YV, hYV⟩ : ∃ YV, ys.map (Value.int .u8) = YV := ⟨_, rfl⟩
      rw [hYV] at p1 p2 same
      have hYl : YV.length = 32 := by rw [← hYV, List.length_map, hyl]
      have hYl9 := Lib.hid hYl
      have hIr : IsRow Try.prog 28 YV.length := by rw [hYl]; exact rowId9
      have hki : (k : Int) < (n : Int) := by omega
      have hltH := Lib.hid hlt
      clear c1 c2 hys hyl hYV hYl hlt hk
      go_wp2_with fail
      refine region_seqS (fun w' => w' = wr.drew) (by kernel_rfl) rfl ?_
      simp only [pairs, Nat.reduceAdd]
      repeat (first
        | (refine SeqS.take (v := ?_) (by first | assumption | trivial) (by kernel_rfl) (by decide +kernel) (by decide +kernel) (Or.inl ⟨by rfl, ?_⟩) ?_
           rotate_left
           focus
             intro w' hb'
             go_simp
             with_reducible rfl
           simp only [Act.put, List.setIfInBounds_toArray, List.set_cons_zero, List.set_cons_succ])
        | (refine SeqS.take (v := undef) (by first | assumption | trivial) (by kernel_rfl) (by decide +kernel) (by decide +kernel) (Or.inr ⟨by rfl, rfl⟩) ?_
           simp only [Act.put, List.setIfInBounds_toArray, List.set_cons_zero, List.set_cons_succ])
        | (refine SeqS.take1 (v := ?_) (by first | assumption | trivial) (by kernel_rfl) (by decide +kernel) (by decide +kernel) (Or.inl ⟨by rfl, ?_⟩) ?_
           rotate_left
           focus
             intro w' hb'
             go_simp
             with_reducible rfl
           simp only [Act.put, List.setIfInBounds_toArray, List.set_cons_zero, List.set_cons_succ])
        | (refine SeqS.take1 (v := undef) (by first | assumption | trivial) (by kernel_rfl) (by decide +kernel) (by decide +kernel) (Or.inr ⟨by rfl, rfl⟩) ?_
           simp only [Act.put, List.setIfInBounds_toArray, List.set_cons_zero, List.set_cons_succ])
        | (refine SeqS.take2 (v := ?_) (by first | assumption | trivial) (by kernel_rfl) (by decide +kernel) (by decide +kernel) (Or.inl ⟨by rfl, ?_⟩) ?_
           rotate_left
           focus
             intro w' hb'
             go_simp
             with_reducible rfl
           simp only [Act.put, List.setIfInBounds_toArray, List.set_cons_zero, List.set_cons_succ])
        | (refine SeqS.take2 (v := undef) (by first | assumption | trivial) (by kernel_rfl) (by decide +kernel) (by decide +kernel) (Or.inr ⟨by rfl, rfl⟩) ?_
           simp only [Act.put, List.setIfInBounds_toArray, List.set_cons_zero, List.set_cons_succ])
        | (refine SeqS.take3 (v := ?_) (by first | assumption | trivial) (by kernel_rfl) (by decide +kernel) (by decide +kernel) (Or.inl ⟨by rfl, ?_⟩) ?_
           rotate_left
           focus
             intro w' hb'
             go_simp
             with_reducible rfl
           simp only [Act.put, List.setIfInBounds_toArray, List.set_cons_zero, List.set_cons_succ])
        | (refine SeqS.take3 (v := undef) (by first | assumption | trivial) (by kernel_rfl) (by decide +kernel) (by decide +kernel) (Or.inr ⟨by rfl, rfl⟩) ?_
           simp only [Act.put, List.setIfInBounds_toArray, List.set_cons_zero, List.set_cons_succ]))
      rw [Nat.mul_comm] at p1 p2
      refine SeqS.take (v := .agg YV.toArray) rfl (by kernel_rfl) (by decide +kernel) (by decide +kernel) (yieldsIf_load_mid (by rfl) 28 (.tmp 19) rfl b1 (o1 + k * 32) rfl YV _ (fun w' h => by subst h; exact p1) Try.underlying28 rfl (by rw [hYl9.out]; exact sizeId9)) ?_
      simp only [Act.put, List.setIfInBounds_toArray, List.set_cons_zero, List.set_cons_succ]
      refine SeqS.take (v := .agg YV.toArray) rfl (by kernel_rfl) (by decide +kernel) (by decide +kernel) (yieldsIf_load_mid (by rfl) 28 (.tmp 23) rfl b2 (o2 + k * 32) rfl YV _ (fun w' h => by subst h; exact p2) Try.underlying28 rfl (by rw [hYl9.out]; exact sizeId9)) ?_
      simp only [Act.put, List.setIfInBounds_toArray, List.set_cons_zero, List.set_cons_succ]
      repeat (first
        | (refine SeqS.take (v := ?_) (by first | assumption | trivial) (by kernel_rfl) (by decide +kernel) (by decide +kernel) (Or.inl ⟨by rfl, ?_⟩) ?_
           rotate_left
           focus
             intro w' hb'
             go_simp
             with_reducible rfl
           simp only [Act.put, List.setIfInBounds_toArray, List.set_cons_zero, List.set_cons_succ])
        | (refine SeqS.take (v := undef) (by first | assumption | trivial) (by kernel_rfl) (by decide +kernel) (by decide +kernel) (Or.inr ⟨by rfl, rfl⟩) ?_
           simp only [Act.put, List.setIfInBounds_toArray, List.set_cons_zero, List.set_cons_succ]))
      refine SeqS.done (by decide +kernel) ?_
      go_wp2
      have e2 : wrap64 ((k : Int) + 1) = ((k + 1 : Nat) : Int) := by have := hnH.out; have := hltH.out; unfold wrap64; omega
      rw [e2]
      exact ⟨⟨k + 1, hltH.out, rfl, Below.drew hb⟩, by simp only [intOf]; have := hltH.out; omega⟩
    · have hki : ¬ (k : Int) < (n : Int) := by omega
      go_wp2
      go_ret
      exact ⟨rfl, hb⟩
end Go.Proofs.Ytaaflnmdaplfkaa

/-
  What may have been written: the blocks of a set, and new ones ('Moved', 'Grows'); bytes with zeros behind them. No Go function is spoken of. No conditions.
-/
namespace Go.Proofs.Ytaaflnmdaplfkaa
open Go.RowKit

/-- Only the blocks of F, and new ones, may have been written. -/
def Moved (F : Nat → Prop) (w w' : World) : Prop := Below 0 w w' ∧ ∀ b, b < w.heap.size → ¬ F b → w'.heap[b]? = w.heap[b]?
theorem Moved.below {F : Nat → Prop} {w w' : World} {B : Nat} (h : Moved F w w') (hF : ∀ b, F b → B ≤ b) (hB : B ≤ w.heap.size) : Below B w w' :=
  ⟨h.1.os, h.1.tape, h.1.output, h.1.size, fun i hi => h.2 i (Nat.lt_of_lt_of_le hi hB) (fun hf => absurd (hF i hf) (Nat.not_le.2 hi))⟩
theorem Moved.of_below {F : Nat → Prop} {w w' : World} (h : Below w.heap.size w w') : Moved F w w' := ⟨h.mono (Nat.zero_le _), fun b hb _ => h.block b hb⟩
theorem Moved.size {F : Nat → Prop} {w w' : World} (h : Moved F w w') : w.heap.size ≤ w'.heap.size := h.1.size
/-- The blocks behind a call: those of before, and new ones. -/
def Grows (F F' : Nat → Prop) (w : World) : Prop := ∀ b, F' b → F b ∨ w.heap.size ≤ b
theorem Grows.low {F F' : Nat → Prop} {w : World} {B : Nat} (h : Grows F F' w) (hF : ∀ b, F b → B ≤ b) (hB : B ≤ w.heap.size) : ∀ b, F' b → B ≤ b := fun b hb => by
  rcases h b hb with h | h
  · exact hF b h
  · exact Nat.le_trans hB h

/-- Bytes, and zeros behind them: what an array of so many bytes holds of them. -/
def padTo (n : Nat) (l : List Int) : List Int := l ++ List.replicate (n - l.length) 0
theorem Moved.then {F : Nat → Prop} {w w1 w2 : World} (m1 : Moved F w w1) (m2 : Moved F w1 w2) : Moved F w w2 :=
  ⟨m1.1.trans m2.1, fun b hb hf => (m2.2 b (Nat.lt_of_lt_of_le hb m1.size) hf).trans (m1.2 b hb hf)⟩
theorem moved_set {F : Nat → Prop} {w w' : World} {g : Nat} (hF : F g) (hg : w.grownBy w' (some g)) : Moved F w w' :=
  ⟨⟨hg.os, hg.tape, hg.output, hg.size, fun _ h => absurd h (Nat.not_lt_zero _)⟩, fun b hb hf => hg.block b hb (fun e => by injection e with e; exact hf (e ▸ hF))⟩
theorem grows_self {F : Nat → Prop} {w : World} : Grows F F w := fun _ h => .inl h
theorem Moved.rfl' {F : Nat → Prop} {w : World} : Moved F w w := Moved.of_below (Below.refl _ _)
end Go.Proofs.Ytaaflnmdaplfkaa

/-
  A copy of bytes into an array of zeros; how many bytes are read at most; the type Hint's row. No conditions.
-/
namespace Go.Proofs.Ytaaflnmdaplfkaa
open Go.RowKit

theorem rdStep_cap (n p : Nat) (e A : Int) : (rdStep n p e A).2.2 ≤ A.toNat := by
  unfold rdStep
  split
  · exact Nat.zero_le _
  split
  · exact Nat.zero_le _
  split
  · exact Nat.zero_le _
  · exact Nat.le_refl _
theorem pad_over (N : Nat) (zs : List Int) (q : Nat) (hl : zs.length = q) (hq : q ≤ N) : overV (List.replicate N (Value.int .u8 0)) 0 ((zs.take q).map (Value.int .u8)) = (padTo N zs).map (Value.int .u8) := by
  subst hl
  unfold overV padTo
  rw [List.take_length]
  simp
theorem padTo_len {N : Nat} {zs : List Int} (h : zs.length ≤ N) : (padTo N zs).length = N := by unfold padTo; simp; omega

theorem zeroHint9 : Zero Try.prog 25 (List.replicate 16 (Value.int .u8 0)) := by unfold Zero; kernel_rfl
theorem sizeHint9 : (Try.prog.info? 25).map (·.size) = some 16 := by kernel_rfl
theorem rowHint9 : IsRow Try.prog 25 16 := IsRow.array Try.underlying25 sizeHint9

end Go.Proofs.Ytaaflnmdaplfkaa

/-
  Bytes in a block of their own that are written one by one. Laws about the model's own words; no Go function is spoken of.
-/
namespace Go.Proofs.Ytaaflnmdaplfkaa
open Go.RowKit

/-- Bytes in a block of their own, whatever they are. -/
def Bys (w : World) (a : Option Addr) (n c : Nat) : Prop := n ≤ c ∧ (n = 0 ∨ ∃ g cs, a = some ⟨g, 0, none⟩ ∧ Blk w g 5 cs ∧ ∀ i, i < n → ∃ v, cs[i]? = some (.int .u8 v))
theorem Bys.of_owns {w : World} {B : Nat} {a : Option Addr} {n c : Nat} {xs : List Int} (h : w.ownsRow B 5 1 (.slice a n c) n (xs.map (Value.int .u8))) : Bys w a n c := by
  have hl : xs.length = n := by have := h.1; simpa using this
  rcases h.2 with ⟨hv, hn⟩ | ⟨g, cap, cur, hv, _, hg, hnc, hsz, hcur, htk⟩
  · injection hv with _ _ h3
    exact ⟨by omega, .inl hn⟩
  · injection hv with h1 _ h3
    refine ⟨by omega, .inr ⟨g, cur.toList, h1, by simpa [Blk] using hg, fun i hi => ⟨xs.getD i 0, ?_⟩⟩⟩
    rw [Nat.mul_one] at htk
    rw [← List.getElem?_take_of_lt hi, htk]
    exact getElem?_mapInt .u8 xs i (by omega)
/-- The block of a slice that has bytes. -/
def At (a : Option Addr) (n : Nat) (b : Nat) : Prop := 0 < n ∧ ∃ x, a = some x ∧ x.block = b
theorem Bys.inc {w : World} {a : Option Addr} {n c : Nat} (h : Bys w a n c) (j : Nat) (hj : j < n) : ∃ g v, a = some ⟨g, 0, none⟩ ∧ w.cell? ⟨g, j, none⟩ = some (.int .u8 v) ∧ w.frozen? ⟨g, j, none⟩ = false ∧ ∀ u, Bys (w.setCell ⟨g, j, none⟩ (.int .u8 u)) a n c ∧ Moved (At a n) w (w.setCell ⟨g, j, none⟩ (.int .u8 u)) := by
  rcases h.2 with h0 | ⟨g, cs, ha, hb, hv⟩
  · omega
  · obtain ⟨v, hvj⟩ := hv j hj
    refine ⟨g, v, ha, (hb.cell j).trans hvj, hb.frozen j, fun u => ⟨⟨h.1, .inr ⟨g, _, ha, hb.set j _, fun i hi => ?_⟩⟩, moved_set ⟨by omega, _, ha, rfl⟩ (grown_setCell w g j _)⟩⟩
    by_cases e : i = j
    · subst e
      exact ⟨u, by rw [List.getElem?_set_self (List.getElem?_eq_some_iff.1 hvj).1]⟩
    · obtain ⟨x, hx⟩ := hv i hi
      exact ⟨x, by rw [List.getElem?_set_ne (fun h => e h.symm)]; exact hx⟩
theorem own_moved {F : Nat → Prop} {w w' : World} {B : Nat} {e : TypeId} {v : Value} {n : Nat} {vs : List Value} (h : w.ownsRow B e 1 v n vs) (hm : Moved F w w') (hF : ∀ b, v.ownBlock = some b → ¬ F b) : w'.ownsRow B e 1 v n vs := by
  refine ⟨h.1, ?_⟩
  rcases h.2 with h0 | ⟨g, cap, cur, hv, hb, hg, hr⟩
  · exact .inl h0
  · exact .inr ⟨g, cap, cur, hv, hb, (hm.2 g (Array.getElem?_eq_some_iff.1 hg).1 (hF g (by rw [hv]; rfl))).trans hg, hr⟩
theorem Bys.grown {w w' : World} {a : Option Addr} {n c : Nat} {row : Option Nat} (h : Bys w a n c) (hg : w.grownBy w' row) (hne : ∀ b, At a n b → some b ≠ row) : Bys w' a n c := by
  refine ⟨h.1, ?_⟩
  rcases h.2 with h0 | ⟨g, cs, ha, hb, hv⟩
  · exact .inl h0
  · by_cases h0 : n = 0
    · exact .inl h0
    · exact .inr ⟨g, cs, ha, hb.grown hg (hne g ⟨by omega, _, ha, rfl⟩), hv⟩
/-- Numbers do not stand in a block that holds none. -/
theorem Ints.ne_blk {w : World} {a : Option Addr} {n c : Nat} {xs : List Int} {Y : Nat} {T : TypeId} {cs : List Value} (h : Ints .u8 w a n c xs) (hY : Blk w Y T cs) (hn : ∀ v ∈ cs, ∀ z, v ≠ .int .u8 z) : ∀ x, a = some x → 0 < n → x.block ≠ Y := by
  intro x hx h0 he
  rcases h.2.2 with h1 | ⟨b, off, ha, hc⟩
  · omega
  · rw [hx] at ha
    injection ha with ha
    have h2 := hc 0 h0
    have hb : b = Y := by rw [← he, ha]
    subst hb
    rw [hY.cell] at h2
    exact hn _ (List.mem_of_getElem? h2) _ rfl
end Go.Proofs.Ytaaflnmdaplfkaa

/-
  What the landed writer's size and write come to: parts laid one behind the other, or none of them. New memory and the writer's own alone are written. Conditions: at most ninety million bytes, a hundred million parts, none of them in the writer's own memory.
-/
import Derived.Test.YtlbhpicebefpnaaWpMem
import Derived.Test.YtlbhpicebefpnaaParts
import Derived.Deep.QuietTactic
import Derived.BigQuiet
namespace Go.Proofs.Ytlbhpicebefpnaa
open Go.RowKit

/-- Parts in memory, none of them in F. -/
def Outs (F : Nat → Prop) (w : World) (a : Option Addr) (m : Nat) (ps : List (List Int)) : Prop :=
  ps.length = m ∧ (m = 0 ∨ ∃ b off, a = some ⟨b, off, none⟩ ∧ ¬ F b ∧ ∀ i, i < m → ∃ A n c, w.cell? ⟨b, off + i, none⟩ = some (.slice A n c) ∧ Ints .u8 w A n c (ps.getD i []) ∧ (∀ x, A = some x → 0 < n → ¬ F x.block))
theorem ints_still' {F : Nat → Prop} {w w' : World} {a : Option Addr} {n cap : Nat} {zs : List Int} (h : Ints .u8 w a n cap zs) (hm : Moved F w w') (hb : ∀ x, a = some x → 0 < n → ¬ F x.block) : Ints .u8 w' a n cap zs := by
  refine ⟨h.1, h.2.1, ?_⟩
  rcases h.2.2 with h0 | ⟨b, off, ha, hc⟩
  · exact .inl h0
  · by_cases h0 : n = 0
    · exact .inl h0
    refine .inr ⟨b, off, ha, fun i hi => ?_⟩
    have he : w'.heap[b]? = w.heap[b]? := hm.2 b (World.block_lt_of_cell? w _ (hc i hi)) (hb _ ha (by omega))
    have h1 := hc i hi
    unfold World.cell? at h1 ⊢
    rw [he]
    exact h1
theorem Outs.moved {F : Nat → Prop} {w w' : World} {a : Option Addr} {m : Nat} {ps : List (List Int)} (h : Outs F w a m ps) (hm : Moved F w w') : Outs F w' a m ps := by
  refine ⟨h.1, ?_⟩
  rcases h.2 with h0 | ⟨b, off, ha, hF, hc⟩
  · exact .inl h0
  · refine .inr ⟨b, off, ha, hF, fun i hi => ?_⟩
    obtain ⟨A, n, c, h1, h2, h3⟩ := hc i hi
    refine ⟨A, n, c, ?_, ints_still' h2 hm h3, h3⟩
    have he : w'.heap[b]? = w.heap[b]? := hm.2 b (World.block_lt_of_cell? w _ h1) hF
    unfold World.cell? at h1 ⊢
    rw [he]
    exact h1
theorem Outs.get {F : Nat → Prop} {w : World} {a : Option Addr} {m : Nat} {ps : List (List Int)} (h : Outs F w a m ps) (i : Nat) (hi : i < m) :
    ∃ b off A n c, a = some ⟨b, off, none⟩ ∧ w.cell? ⟨b, off + i, none⟩ = some (.slice A n c) ∧ Ints .u8 w A n c (ps.getD i []) ∧ (ps.take (i + 1)).flatten = (ps.take i).flatten ++ ps.getD i [] := by
  rcases h.2 with h0 | ⟨b, off, ha, hF, hc⟩
  · omega
  · obtain ⟨A, n, c, h1, h2, _⟩ := hc i hi
    exact ⟨b, off, A, n, c, ha, h1, h2, flatten_snoc ps i (by rw [h.1]; exact hi)⟩

/-- Bytes were appended to the writer's own. -/
theorem WrAt.append {F0 F : Nat → Prop} {W1 w w5 : World} {g : Nat} {r : Int} {xs ys : List Int} {a a5 : Option Addr} {c c5 N : Nat} (h : WrAt F w g r xs 0) (hG : Grows F0 F W1) (hM : Moved F0 W1 w) (h0 : F0 g) (hb : Blk w g 58 (wpC r a xs.length c 0)) (hx : ∀ x, a = some x → F x.block ∧ x.block ≠ g)
    (ho : w5.ownsRow 0 5 1 (.slice a5 N c5) N ((xs ++ ys).map (Value.int .u8))) (hg : w.grownBy w5 (Value.slice a xs.length c).ownBlock) (hat : (Value.slice a5 N c5).ownBlock = (Value.slice a xs.length c).ownBlock ∨ (Value.slice a5 N c5).ownBlock = some w.heap.size) (hf : ((xs ++ ys).length : Int) ≤ r) :
    Blk w5 g 58 (wpC r a xs.length c 0) ∧ ∃ F', WrAt F' (w5.setCell ⟨g, 2, none⟩ (.slice a5 N c5)) g r (xs ++ ys) 0 ∧ Grows F0 F' W1 ∧ Moved F0 W1 (w5.setCell ⟨g, 2, none⟩ (.slice a5 N c5)) := by
  have hN : N = (xs ++ ys).length := by have := ho.1; simpa using this.symm
  have hgl := h.lt g h.own
  have hbl : ∀ b, (Value.slice a xs.length c).ownBlock = some b → F b ∧ b ≠ g := fun b hb' => by
    obtain ⟨x, ha, hxb⟩ := slice_block hb'
    rw [← hxb]
    exact hx x ha
  have hb5 : Blk w5 g 58 (wpC r a xs.length c 0) := hb.grown hg (fun e => (hbl g e.symm).2 rfl)
  have h5 : ∀ x, a5 = some x → (F x.block ∨ x.block = w.heap.size) ∧ x.block ≠ g := fun x hx5 => by
    have e : (Value.slice a5 N c5).ownBlock = some x.block := by rw [hx5]; rfl
    rcases hat with h1 | h1
    · have := hbl x.block (by rw [← h1]; exact e)
      exact ⟨.inl this.1, this.2⟩
    · have h2 : x.block = w.heap.size := by rw [e] at h1; injection h1
      exact ⟨.inr h2, by omega⟩
  have hgs := grown_setCell w5 g 2 (.slice a5 N c5)
  have hs1 := hg.size
  have hs2 := hgs.size
  refine ⟨hb5, fun b => F b ∨ ∃ x, a5 = some x ∧ x.block = b, ⟨⟨a5, c5, ?_, ?_, fun x hx5 => ⟨.inr ⟨x, hx5, rfl⟩, (h5 x hx5).2⟩⟩, h.room, hf, .inl h.own, ?_⟩, ?_, ?_⟩
  · rw [← hN]
    exact hb5.set 2 _
  · rw [← hN]
    exact own_same ho (fun b hb' => hgs.block b (ho.lt b hb').2 (fun e => by
      injection e with e
      obtain ⟨x, ha, hxb⟩ := slice_block hb'
      exact (h5 x ha).2 (by rw [hxb]; exact e)))
  · intro b hb'
    rcases hb' with hb' | ⟨x, ha, hxb⟩
    · have := h.lt b hb'; omega
    · have := (ho.lt x.block (by rw [ha]; rfl)).2
      omega
  · intro b hb'
    have hMs := hM.size
    rcases hb' with hb' | ⟨x, ha, hxb⟩
    · exact hG b hb'
    · rcases (h5 x ha).1 with h6 | h6
      · rw [hxb] at h6; exact hG b h6
      · exact .inr (by omega)
  · have hMs := hM.size
    have m5 : Moved F0 W1 w5 := ⟨hM.1.trans ⟨hg.os, hg.tape, hg.output, hg.size, fun _ h => absurd h (Nat.not_lt_zero _)⟩, fun b hb' hf' => (hg.block b (by omega) (fun e => by
      have h6 := (hbl b e.symm).1
      rcases hG b h6 with h7 | h7
      · exact hf' h7
      · omega)).trans (hM.2 b hb' hf')⟩
    exact m5.then (moved_set h0 hgs)

set_option maxRecDepth 100000 in
set_option maxHeartbeats 1000000 in
theorem wSize_any {F : Nat → Prop} {w : World} (a : Option Addr) (m k : Nat) (ps : List (List Int)) (hP : Outs F w a m ps) (hm : ps.flatten.length ≤ 90000000) (hmm : m ≤ 100000000) :
    Calls Try.prog 42 #[.slice a m k] w fun q w' => q = .returned (.int .i64 (ps.flatten.length : Nat)) ∧ w = w' := by
  go_enter Try.func42, Try.ntmps42
  go_wp2_with fail
  go_loopw [3, 8] (fun l i wr => ∃ j : Nat, j ≤ m ∧ i = .int .i64 j ∧ l = .int .i64 ((ps.take j).flatten.length : Nat) ∧ wr = w) (fun _ i _ => m - (intOf i).toNat)
  case atStart => exact ⟨0, Nat.zero_le _, rfl, rfl, rfl⟩
  case round =>
    obtain ⟨j, hj, rfl, rfl, hwr⟩ := hrel
    have hwr' := hwr.symm
    subst hwr'
    by_cases hlt : j < m
    · have hji : (j : Int) < (m : Int) := by omega
      obtain ⟨b, off, A, n1, c1, rfl, hc, hI, hfl⟩ := hP.get j hlt
      have hlI := hI.len
      have hfj := Lib.hid (by rw [hfl, List.length_append, hlI] : (ps.take (j + 1)).flatten.length = (ps.take j).flatten.length + n1)
      have htl := flatten_take_le ps (j + 1)
      obtain ⟨T, hT⟩ : ∃ T, (ps.take j).flatten.length = T := ⟨_, rfl⟩
      rw [hT] at hfj ⊢
      have hTn : T + n1 ≤ ps.flatten.length := by have := hfj.out; omega
      have hltH := Lib.hid hlt
      have hwl : wrap64 ((T : Int) + (n1 : Int)) = (T : Int) + n1 := by unfold wrap64; omega
      clear hI hlt hj hfl hT
      go_wp2
      exact ⟨⟨j + 1, by have := hltH.out; omega, by congr 1, by congr 1; have := hfj.out; omega, by trivial⟩, by simp only [intOf]; have := hltH.out; omega⟩
    · obtain rfl : j = m := by omega
      have hji : ¬ (j : Int) < (j : Int) := by omega
      rw [List.take_of_length_le (by rw [hP.1]; exact Nat.le_refl _)]
      clear hlt hj
      go_wp2
      go_ret
      exact ⟨rfl, rfl⟩

set_option maxRecDepth 100000 in
set_option maxHeartbeats 1000000 in
theorem wWrite_bad {F : Nat → Prop} {w : World} {g : Nat} {r : Int} {xs : List Int} {e : Int} (h : WrAt F w g r xs e) (he : e ≠ 0) (v : Int) (a : Option Addr) (m k : Nat) :
    Calls Try.prog 34 #[.pointer (some ⟨g, 0, none⟩), .int .i64 v, .slice a m k] w fun q w' => q = .returned (.tuple #[]) ∧ w = w' := by
  have hE := wErr_any h
  go_enter Try.func34, Try.ntmps34
  go_wp2_with fail
  refine hE.mono ?_
  rintro q w1 ⟨rfl, rfl⟩
  go_wp2
  first
    | go_end0
    | refine bodyPost_ret (results_none rfl _ _ _) rfl ?_
  first
    | trivial
    | exact ⟨rfl, rfl⟩

/-- A fault noted in a writer's own block. -/
theorem WrAt.note {F : Nat → Prop} {w : World} {g : Nat} {r : Int} {xs : List Int} {e : Int} (h : WrAt F w g r xs e) (v : Int) :
    WrAt F (w.setCell ⟨g, 3, none⟩ (.int .i64 v)) g r xs v ∧ Moved F w (w.setCell ⟨g, 3, none⟩ (.int .i64 v)) := by
  obtain ⟨a2, e2, hb2, ho2, hx2⟩ := h.is
  have hg3 := grown_setCell w g 3 (.int .i64 v)
  exact ⟨⟨⟨a2, e2, hb2.set 3 _, own_same ho2 (fun y hy => hg3.block y (by obtain ⟨z, ha, hxb⟩ := slice_block hy; rw [← hxb]; exact h.lt _ (hx2 z ha).1) (fun e => by obtain ⟨z, ha, hxb⟩ := slice_block hy; injection e with e; exact (hx2 z ha).2 (by rw [hxb]; exact e))), hx2⟩, h.room, h.fit, h.own, fun y hy => Nat.lt_of_lt_of_le (h.lt y hy) hg3.size⟩, moved_set h.own hg3⟩

set_option maxRecDepth 100000 in
set_option maxHeartbeats 1000000 in
theorem wWrite_fault {F : Nat → Prop} {w : World} {g : Nat} {r : Int} {xs : List Int} (h : WrAt F w g r xs 0) (v : Int) (hv : v ≠ 0) (a : Option Addr) (m k : Nat) :
    Calls Try.prog 34 #[.pointer (some ⟨g, 0, none⟩), .int .i64 v, .slice a m k] w fun q w' => q = .returned (.tuple #[]) ∧ WrAt F w' g r xs v ∧ Moved F w w' := by
  have hE := wErr_any h
  have hv' : ¬ v = 0 := hv
  go_enter Try.func34, Try.ntmps34
  go_wp2_with fail
  refine hE.mono ?_
  rintro q w1 ⟨rfl, rfl⟩
  go_wp2
  go_quiet (fail)
  obtain ⟨W1, hW1⟩ : ∃ W1, w.drewN nq = W1 := ⟨_, rfl⟩
  have b1 : Below w.heap.size w W1 := by rw [← hW1]; exact below_drewN (Below.refl _ _) nq
  have h1 : WrAt F W1 g r xs 0 := h.keep (fun b hb => b1.block b (h.lt b hb)) b1.size
  have hM1 : Moved F w W1 := Moved.of_below b1
  obtain ⟨h2, m2⟩ := h1.note v
  have hmv := hM1.then m2
  obtain ⟨a0, c0, hb, ho, hx⟩ := h1.is
  have hc3 := hb.cell 3
  have hf3 := hb.frozen 3
  rw [hW1]
  clear hW1 h hE h1 hM1 m2 b1 ho hx hb hv
  go_wp2
  (try simp only [Exit.inBlock, Exit.then])
  first
    | go_end0
    | refine bodyPost_ret (results_none rfl _ _ _) rfl ?_
  first
    | exact ⟨rfl, h2, hmv⟩
    | exact ⟨h2, hmv⟩

set_option maxRecDepth 100000 in
set_option maxHeartbeats 1000000 in
theorem wWrite_any {F : Nat → Prop} {w : World} {g : Nat} {r : Int} {xs : List Int} {e : Int} (h : WrAt F w g r xs e) (a : Option Addr) (m k : Nat) (ps : List (List Int)) (hP : Outs F w a m ps) (hm : xs.length + ps.flatten.length ≤ 90000000) (hmm : m ≤ 100000000) :
    Calls Try.prog 34 #[.pointer (some ⟨g, 0, none⟩), .int .i64 0, .slice a m k] w fun q w' => ∃ F', q = .returned (.tuple #[]) ∧ WrAt F' w' g r (wrStep r xs e ps.flatten).1 (wrStep r xs e ps.flatten).2 ∧ Grows F F' w ∧ Moved F w w' := by
  obtain ⟨i0, hi, hz0, hz1, hz2⟩ := info_u8b
  unfold wrStep
  by_cases he : e ≠ 0
  · rw [if_pos he]
    refine (wWrite_bad h he 0 a m k).mono ?_
    rintro q w1 ⟨rfl, rfl⟩
    exact ⟨F, rfl, h, fun b hb => .inl hb, Moved.rfl'⟩
  rw [if_neg he]
  obtain rfl : e = 0 := by omega
  clear he
  have hW := wErr_any h
  have hSz : ∀ n, Calls Try.prog 42 #[.slice a m k] (w.drewN n) fun q w' => q = .returned (.int .i64 (ps.flatten.length : Nat)) ∧ w' = w.drewN n := fun n => (wSize_any a m k ps (hP.moved (Moved.of_below (below_drewN (Below.refl _ _) n))) (by omega) hmm).mono fun _ _ h => ⟨h.1, h.2.symm⟩
  obtain ⟨X, E, hXE⟩ : ∃ X E, (if r < ((xs.length : Int) + ps.flatten.length) then (xs, (3 : Int)) else (xs ++ ps.flatten, 0)) = (X, E) := ⟨_, _, rfl⟩
  rw [hXE]
  dsimp only
  have hXEH := Lib.hid hXE
  clear hXE
  obtain ⟨a0, c0, hb, ho, hx⟩ := h.is
  obtain ⟨d0, d1, d2, d3⟩ := wpCells hb
  have hr := h.room
  have hft := h.fit
  obtain ⟨n, hn⟩ : ∃ n, xs.length = n := ⟨_, rfl⟩
  rw [hn] at d2
  have hnH := Lib.hid hn
  have hw : wrap64 (r - (n : Int)) = r - n := by unfold wrap64; omega
  have hwk : IntKind.i64.wrap (r - (n : Int)) = r - n := by rw [IntKind.wrap_i64]; omega
  obtain ⟨S, hS⟩ : ∃ S, ps.flatten.length = S := ⟨_, rfl⟩
  rw [hS] at hSz
  have hSH := Lib.hid hS
  by_cases hlong : r - (n : Int) < (S : Int)
  · go_enter Try.func34, Try.ntmps34
    go_wp2_with fail
    refine hW.mono ?_
    rintro q w1 ⟨rfl, rfl⟩
    go_wp2
    go_quiet (refine Calls.quiet_of_same (hSz _))
    obtain ⟨W1, hW1⟩ : ∃ W1, w.drewN nq = W1 := ⟨_, rfl⟩
    have b1 : Below w.heap.size w W1 := by rw [← hW1]; exact below_drewN (Below.refl _ _) nq
    have h1 : WrAt F W1 g r xs 0 := h.keep (fun b hb => b1.block b (h.lt b hb)) b1.size
    have hM1 : Moved F w W1 := Moved.of_below b1
    obtain ⟨h2, m2⟩ := h1.note 3
    have hmv := hM1.then m2
    obtain ⟨a0, c0, hb, ho, hx⟩ := h1.is
    have hc3 := hb.cell 3
    have hf3 := hb.frozen 3
    rw [hW1]
    clear hW1 h hW hP h1 hM1 m2 b1 ho hx hb d0 d1 d2 d3 hSz
    go_wp2
    (try simp only [Exit.inBlock, Exit.then])
    first
      | go_end0
      | refine bodyPost_ret (results_none rfl _ _ _) rfl ?_
    have hq := hXEH.out
    rw [hnH.out, hSH.out, if_pos (by omega)] at hq
    injection hq with q1 q2
    subst q1; subst q2
    first
      | exact ⟨rfl, F, h2, fun b hb => .inl hb, hmv⟩
      | exact ⟨F, rfl, h2, fun b hb => .inl hb, hmv⟩
  · go_enter Try.func34, Try.ntmps34
    go_wp2_with fail
    refine hW.mono ?_
    rintro q w1 ⟨rfl, rfl⟩
    go_wp2
    go_quiet (refine Calls.quiet_of_same (hSz _))
    obtain ⟨W1, hW1⟩ : ∃ W1, w.drewN nq = W1 := ⟨_, rfl⟩
    have b1 : Below w.heap.size w W1 := by rw [← hW1]; exact below_drewN (Below.refl _ _) nq
    have h1 : WrAt F W1 g r xs 0 := h.keep (fun b hb => b1.block b (h.lt b hb)) b1.size
    have hP1 := hP.moved (Moved.of_below (F := F) b1)
    have hM1 : Moved F w W1 := Moved.of_below b1
    have hmH := Lib.hid hm
    have hle : (n : Int) + (S : Int) ≤ r := by omega
    have hleH := Lib.hid hle
    rw [hW1]
    clear hW1 h hP hW d0 d1 d2 d3 hb ho hx b1 hm hSz
    go_wp2_with fail
    go_loopw [38] (fun i wr => ∃ (j' : Nat) (Fj : Nat → Prop), j' ≤ m ∧ i = .int .i64 j' ∧ WrAt Fj wr g r (xs ++ (ps.take j').flatten) 0 ∧ Grows F Fj W1 ∧ Moved F W1 wr) (fun i _ => m - (intOf i).toNat)
    case atStart => exact ⟨0, F, Nat.zero_le _, rfl, by simpa using h1, fun b hb => .inl hb, Moved.rfl'⟩
    case round =>
      have hg0 := h1.own
      clear h1
      obtain ⟨j', Fj, hj, rfl, hw2, hG2, hM2⟩ := hrel
      by_cases hlt : j' < m
      · have hji : (j' : Int) < (m : Int) := by omega
        obtain ⟨b, off, A, n1, c1, rfl, hc, hI, hfl⟩ := (hP1.moved hM2).get j' hlt
        have hlI := hI.len
        have htl := flatten_take_le ps (j' + 1)
        obtain ⟨a2, e2, hb2, ho2, hx2⟩ := hw2.is
        have hc2 := (wpCells hb2).2.2.1
        have hAP := fun (a5 : Option Addr) (c5 N : Nat) (w5 : World) => WrAt.append (a5 := a5) (c5 := c5) (N := N) (w5 := w5) (ys := ps.getD j' []) hw2 hG2 hM2 hg0 hb2 hx2
        rw [List.append_assoc, ← hfl] at hAP
        have hAPH := Lib.hid hAP
        obtain ⟨L, hL⟩ : ∃ L, (xs ++ (ps.take j').flatten).length = L := ⟨_, rfl⟩
        have q4 : L = n + (ps.take j').flatten.length := by rw [← hL, List.length_append, hn]
        have q5 : (ps.take (j' + 1)).flatten.length = (ps.take j').flatten.length + n1 := by rw [hfl, List.length_append, hlI]
        have hLb : L + n1 ≤ 90000000 := by have := hmH.out; omega
        have hLr : ((L + n1 : Nat) : Int) ≤ r := by have := hleH.out; have := hSH.out; omega
        rw [hL] at hc2 ho2
        have hLH := Lib.hid hL
        clear q4 q5 hn
        have hltH := Lib.hid hlt
        clear hlt hj hAP hL htl hle hlong hw hwk
        go_wp2_with (at_builtin
                     refine wpList_append_ints_at rfl (.tmp 46) (.tmp 47) 27 rfl 0 5 i0 (.int .u8 0) 1 Try.underlying27 hi hz0 hz1 hz2 rfl rfl ho2 rfl hI ?_ ?_ (Nat.zero_le _) ?_
                     (unfold maxLen; omega)
                     (omega)
                     intro v5 w5 own5 g5 hat5
                     refine RowKit.Hid.out ?_)
        refine Lib.hid ?_
        have hex : ∃ a5 c5, v5 = .slice a5 (L + n1) c5 := own_slice own5
        obtain ⟨a5, c5, hv5⟩ := hex
        rw [hv5] at own5 hat5 ⊢
        rw [← List.map_append, List.append_assoc, ← hfl] at own5
        have g5' : wr.grownBy w5 (Value.slice a2 L e2).ownBlock := g5
        have hat5' : (Value.slice a5 (L + n1) c5).ownBlock = (Value.slice a2 L e2).ownBlock ∨ (Value.slice a5 (L + n1) c5).ownBlock = some wr.heap.size := hat5
        have eL : (Value.slice a2 L e2).ownBlock = (Value.slice a2 (xs ++ (ps.take j').flatten).length e2).ownBlock := by rw [hLH.out]
        rw [eL] at g5' hat5'
        have hlen5 : (xs ++ (ps.take (j' + 1)).flatten).length = L + n1 := by have := own5.1; rw [List.length_map, Nat.mul_one] at this; exact this
        obtain ⟨hb5, F5, hw5, hG5, hM5⟩ := hAPH.out a5 c5 (L + n1) w5 own5 g5' hat5' (by rw [hlen5]; exact hLr)
        have hc5 := hb5.cell 2
        have hf5 := hb5.frozen 2
        have hw5H := Lib.hid hw5
        clear g5 g5' hat5 hat5' own5 eL hb2 ho2 hx2 hw2 hG2 hM2 hc hI hb5 hv5 hlen5 hw5 hc2 hfl
        go_wp2
        exact ⟨⟨j' + 1, F5, by have := hltH.out; omega, by congr 1, hw5H.out, hG5, hM5⟩, by simp only [intOf]; have := hltH.out; omega⟩
      · obtain rfl : j' = m := by omega
        have hji : ¬ (j' : Int) < (j' : Int) := by omega
        rw [List.take_of_length_le (by rw [hP1.1]; exact Nat.le_refl _)] at hw2
        have hq := hXEH.out
        rw [hnH.out, hSH.out, if_neg (by omega)] at hq
        injection hq with q1 q2
        subst q1; subst q2
        have hGG : Grows F Fj w := fun b hb => (hG2 b hb).imp id (fun h => Nat.le_trans hM1.size h)
        have hMM := hM1.then hM2
        clear hlt hj hlong hw hwk hle
        go_wp2
        (try simp only [Exit.inBlock, Exit.then])
        first
          | go_end0
          | refine bodyPost_ret (results_none rfl _ _ _) rfl ?_
        first
          | exact ⟨Fj, rfl, hw2, hGG, hMM⟩
          | exact ⟨rfl, Fj, hw2, hGG, hMM⟩
end Go.Proofs.Ytlbhpicebefpnaa

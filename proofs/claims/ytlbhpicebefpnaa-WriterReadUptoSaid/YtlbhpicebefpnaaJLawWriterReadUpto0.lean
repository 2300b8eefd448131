/-
  Texts of stages that were proved on their own, joined: WpPut, WpCalls, WpProg. Each begins with its own words.
-/
import Derived.Test.YtlbhpicebefpnaaWpMem
import Derived.Test.YtlbhpicebefpnaaParts
import Derived.Deep.QuietTactic
import Derived.BigQuiet
import Derived.Test.YtlbhpicebefpnaaWpWith
import Derived.Test.YtlbhpicebefpnaaWrProg

/-
  What the landed writer's size and write come to: parts laid one behind the other, or none of them. New memory and the writer's own alone are written. Conditions: at most ninety million bytes, a hundred million parts, none of them in the writer's own memory.
-/
namespace Go.Proofs.Ytlbhpicebefpnaa
open Go.RowKit

/-- Parts in memory, none of them in F. -/
def Outs (F : Nat → Prop) (w : World) (a : Option Addr) (m : Nat) (ps : List (List Int)) : Prop :=
  ps.length = m ∧ (m = 0 ∨ ∃ b off, a = some ⟨b, off, none⟩ ∧ ¬ F b ∧ ∀ i, i < m → ∃ A n c, w.cell? ⟨b, off + i, none⟩ = some (.slice A n c) ∧ Ints .u8 w A n c (ps.getD i []) ∧ (∀ x, A = some x → 0 < n → ¬ F x.block))
theorem ints_still' {F : Nat → Prop} {w w' : World} {a : Option Addr} {n cap : Nat} {zs : List Int} (h : Ints .u8 w a n cap zs) (hm : Moved F w w') (hb : ∀ x, a = some x → 0 < n → ¬ F x.block) : Ints .u8 w' a n cap zs := by
  refine ⟨h.1, h.2.1, ?_⟩
  rcases h.2.2 with h0 | ⟨b, off, ha, hc⟩
  · exact .inl h0
  · by_cases h0 : n = 0
    · exact .inl h0
    refine .inr ⟨b, off, ha, fun i hi => ?_⟩
    have he : w'.heap[b]? = w.heap[b]? := hm.2 b (World.block_lt_of_cell? w _ (hc i hi)) (hb _ ha (by omega))
    have h1 := hc i hi
    unfold World.cell? at h1 ⊢
    rw [he]
    exact h1
theorem Outs.moved {F : Nat → Prop} {w w' : World} {a : Option Addr} {m : Nat} {ps : List (List Int)} (h : Outs F w a m ps) (hm : Moved F w w') : Outs F w' a m ps := by
  refine ⟨h.1, ?_⟩
  rcases h.2 with h0 | ⟨b, off, ha, hF, hc⟩
  · exact .inl h0
  · refine .inr ⟨b, off, ha, hF, fun i hi => ?_⟩
    obtain ⟨A, n, c, h1, h2, h3⟩ := hc i hi
    refine ⟨A, n, c, ?_, ints_still' h2 hm h3, h3⟩
    have he : w'.heap[b]? = w.heap[b]? := hm.2 b (World.block_lt_of_cell? w _ h1) hF
    unfold World.cell? at h1 ⊢
    rw [he]
    exact h1
theorem Outs.get {F : Nat → Prop} {w : World} {a : Option Addr} {m : Nat} {ps : List (List Int)} (h : Outs F w a m ps) (i : Nat) (hi : i < m) :
    ∃ b off A n c, a = some ⟨b, off, none⟩ ∧ w.cell? ⟨b, off + i, none⟩ = some (.slice A n c) ∧ Ints .u8 w A n c (ps.getD i []) ∧ (ps.take (i + 1)).flatten = (ps.take i).flatten ++ ps.getD i [] := by
  rcases h.2 with h0 | ⟨b, off, ha, hF, hc⟩
  · omega
  · obtain ⟨A, n, c, h1, h2, _⟩ := hc i hi
    exact ⟨b, off, A, n, c, ha, h1, h2, flatten_snoc ps i (by rw [h.1]; exact hi)⟩

/-- Bytes were appended to the writer's own. -/
theorem WrAt.append {F0 F : Nat → Prop} {W1 w w5 : World} {g : Nat} {r : Int} {xs ys : List Int} {a a5 : Option Addr} {c c5 N : Nat} (h : WrAt F w g r xs 0) (hG : Grows F0 F W1) (hM : Moved F0 W1 w) (h0 : F0 g) (hb : Blk w g 58 (wpC r a xs.length c 0)) (hx : ∀ x, a = some x → F x.block ∧ x.block ≠ g)
    (ho : w5.ownsRow 0 5 1 (.slice a5 N c5) N ((xs ++ ys).map (Value.int .u8))) (hg : w.grownBy w5 (Value.slice a xs.length c).ownBlock) (hat : (Value.slice a5 N c5).ownBlock = (Value.slice a xs.length c).ownBlock ∨ (Value.slice a5 N c5).ownBlock = some w.heap.size) (hf : ((xs ++ ys).length : Int) ≤ r) :
    Blk w5 g 58 (wpC r a xs.length c 0) ∧ ∃ F', WrAt F' (w5.setCell ⟨g, 2, none⟩ (.slice a5 N c5)) g r (xs ++ ys) 0 ∧ Grows F0 F' W1 ∧ Moved F0 W1 (w5.setCell ⟨g, 2, none⟩ (.slice a5 N c5)) := by
  have hN : N = (xs ++ ys).length := by have := ho.1; simpa using this.symm
  have hgl := h.lt g h.own
  have hbl : ∀ b, (Value.slice a xs.length c).ownBlock = some b → F b ∧ b ≠ g := fun b hb' => by
    obtain ⟨x, ha, hxb⟩ := slice_block hb'
    rw [← hxb]
    exact hx x ha
  have hb5 : Blk w5 g 58 (wpC r a xs.length c 0) := hb.grown hg (fun e => (hbl g e.symm).2 rfl)
  have h5 : ∀ x, a5 = some x → (F x.block ∨ x.block = w.heap.size) ∧ x.block ≠ g := fun x hx5 => by
    have e : (Value.slice a5 N c5).ownBlock = some x.block := by rw [hx5]; rfl
    rcases hat with h1 | h1
    · have := hbl x.block (by rw [← h1]; exact e)
      exact ⟨.inl this.1, this.2⟩
    · have h2 : x.block = w.heap.size := by rw [e] at h1; injection h1
      exact ⟨.inr h2, by omega⟩
  have hgs := grown_setCell w5 g 2 (.slice a5 N c5)
  have hs1 := hg.size
  have hs2 := hgs.size
  refine ⟨hb5, fun b => F b ∨ ∃ x, a5 = some x ∧ x.block = b, ⟨⟨a5, c5, ?_, ?_, fun x hx5 => ⟨.inr ⟨x, hx5, rfl⟩, (h5 x hx5).2⟩⟩, h.room, hf, .inl h.own, ?_⟩, ?_, ?_⟩
  · rw [← hN]
    exact hb5.set 2 _
  · rw [← hN]
    exact own_same ho (fun b hb' => hgs.block b (ho.lt b hb').2 (fun e => by
      injection e with e
      obtain ⟨x, ha, hxb⟩ := slice_block hb'
      exact (h5 x ha).2 (by rw [hxb]; exact e)))
  · intro b hb'
    rcases hb' with hb' | ⟨x, ha, hxb⟩
    · have := h.lt b hb'; omega
    · have := (ho.lt x.block (by rw [ha]; rfl)).2
      omega
  · intro b hb'
    have hMs := hM.size
    rcases hb' with hb' | ⟨x, ha, hxb⟩
    · exact hG b hb'
    · rcases (h5 x ha).1 with h6 | h6
      · rw [hxb] at h6; exact hG b h6
      · exact .inr (by omega)
  · have hMs := hM.size
    have m5 : Moved F0 W1 w5 := ⟨hM.1.trans ⟨hg.os, hg.tape, hg.output, hg.size, fun _ h => absurd h (Nat.not_lt_zero _)⟩, fun b hb' hf' => (hg.block b (by omega) (fun e => by
      have h6 := (hbl b e.symm).1
      rcases hG b h6 with h7 | h7
      · exact hf' h7
      · omega)).trans (hM.2 b hb' hf')⟩
    exact m5.then (moved_set h0 hgs)

set_option maxRecDepth 100000 in
set_option maxHeartbeats 1000000 in
theorem wSize_any {F : Nat → Prop} {w : World} (a : Option Addr) (m k : Nat) (ps : List (List Int)) (hP : Outs F w a m ps) (hm : ps.flatten.length ≤ 90000000) (hmm : m ≤ 100000000) :
    Calls Try.prog 42 #[.slice a m k] w fun q w' => q = .returned (.int .i64 (ps.flatten.length : Nat)) ∧ w = w' := by
  go_enter Try.func42, Try.ntmps42
  go_wp2_with fail
  go_loopw [3, 8] (fun l i wr => ∃ j : Nat, j ≤ m ∧ i = .int .i64 j ∧ l = .int .i64 ((ps.take j).flatten.length : Nat) ∧ wr = w) (fun _ i _ => m - (intOf i).toNat)
  case atStart => exact ⟨0, Nat.zero_le _, rfl, rfl, rfl⟩
  case round =>
    obtain ⟨j, hj, rfl, rfl, hwr⟩ := hrel
    have hwr' := hwr.symm
    subst hwr'
    by_cases hlt : j < m
    · have hji : (j : Int) < (m : Int) := by omega
      obtain ⟨b, off, A, n1, c1, rfl, hc, hI, hfl⟩ := hP.get j hlt
      have hlI := hI.len
      have hfj := Lib.hid (by rw [hfl, List.length_append, hlI] : (ps.take (j + 1)).flatten.length = (ps.take j).flatten.length + n1)
      have htl := flatten_take_le ps (j + 1)
      obtain ⟨T, hT⟩ : ∃ T, (ps.take j).flatten.length = T := ⟨_, rfl⟩
      rw [hT] at hfj ⊢
      have hTn : T + n1 ≤ ps.flatten.length := by have := hfj.out; omega
      have hltH := Lib.hid hlt
      have hwl : wrap64 ((T : Int) + (n1 : Int)) = (T : Int) + n1 := by unfold wrap64; omega
      clear hI hlt hj hfl hT
      go_wp2
      exact ⟨⟨j + 1, by have := hltH.out; omega, by congr 1, by congr 1; have := hfj.out; omega, by trivial⟩, by simp only [intOf]; have := hltH.out; omega⟩
    · obtain rfl : j = m := by omega
      have hji : ¬ (j : Int) < (j : Int) := by omega
      rw [List.take_of_length_le (by rw [hP.1]; exact Nat.le_refl _)]
      clear hlt hj
      go_wp2
      go_ret
      exact ⟨rfl, rfl⟩

set_option maxRecDepth 100000 in
set_option maxHeartbeats 1000000 in
theorem wWrite_bad {F : Nat → Prop} {w : World} {g : Nat} {r : Int} {xs : List Int} {e : Int} (h : WrAt F w g r xs e) (he : e ≠ 0) (v : Int) (a : Option Addr) (m k : Nat) :
    Calls Try.prog 34 #[.pointer (some ⟨g, 0, none⟩), .int .i64 v, .slice a m k] w fun q w' => q = .returned (.tuple #[]) ∧ w = w' := by
  have hE := wErr_any h
  go_enter Try.func34, Try.ntmps34
  go_wp2_with fail
  refine hE.mono ?_
  rintro q w1 ⟨rfl, rfl⟩
  go_wp2
  first
    | go_end0
    | refine bodyPost_ret (results_none rfl _ _ _) rfl ?_
  first
    | trivial
    | exact ⟨rfl, rfl⟩

/-- A fault noted in a writer's own block. -/
theorem WrAt.note {F : Nat → Prop} {w : World} {g : Nat} {r : Int} {xs : List Int} {e : Int} (h : WrAt F w g r xs e) (v : Int) :
    WrAt F (w.setCell ⟨g, 3, none⟩ (.int .i64 v)) g r xs v ∧ Moved F w (w.setCell ⟨g, 3, none⟩ (.int .i64 v)) := by
  obtain ⟨a2, e2, hb2, ho2, hx2⟩ := h.is
  have hg3 := grown_setCell w g 3 (.int .i64 v)
  exact ⟨⟨⟨a2, e2, hb2.set 3 _, own_same ho2 (fun y hy => hg3.block y (by obtain ⟨z, ha, hxb⟩ := slice_block hy; rw [← hxb]; exact h.lt _ (hx2 z ha).1) (fun e => by obtain ⟨z, ha, hxb⟩ := slice_block hy; injection e with e; exact (hx2 z ha).2 (by rw [hxb]; exact e))), hx2⟩, h.room, h.fit, h.own, fun y hy => Nat.lt_of_lt_of_le (h.lt y hy) hg3.size⟩, moved_set h.own hg3⟩

set_option maxRecDepth 100000 in
set_option maxHeartbeats 1000000 in
theorem wWrite_fault {F : Nat → Prop} {w : World} {g : Nat} {r : Int} {xs : List Int} (h : WrAt F w g r xs 0) (v : Int) (hv : v ≠ 0) (a : Option Addr) (m k : Nat) :
    Calls Try.prog 34 #[.pointer (some ⟨g, 0, none⟩), .int .i64 v, .slice a m k] w fun q w' => q = .returned (.tuple #[]) ∧ WrAt F w' g r xs v ∧ Moved F w w' := by
  have hE := wErr_any h
  have hv' : ¬ v = 0 := hv
  go_enter Try.func34, Try.ntmps34
  go_wp2_with fail
  refine hE.mono ?_
  rintro q w1 ⟨rfl, rfl⟩
  go_wp2
  go_quiet (fail)
  obtain ⟨W1, hW1⟩ : ∃ W1, w.drewN nq = W1 := ⟨_, rfl⟩
  have b1 : Below w.heap.size w W1 := by rw [← hW1]; exact below_drewN (Below.refl _ _) nq
  have h1 : WrAt F W1 g r xs 0 := h.keep (fun b hb => b1.block b (h.lt b hb)) b1.size
  have hM1 : Moved F w W1 := Moved.of_below b1
  obtain ⟨h2, m2⟩ := h1.note v
  have hmv := hM1.then m2
  obtain ⟨a0, c0, hb, ho, hx⟩ := h1.is
  have hc3 := hb.cell 3
  have hf3 := hb.frozen 3
  rw [hW1]
  clear hW1 h hE h1 hM1 m2 b1 ho hx hb hv
  go_wp2
  (try simp only [Exit.inBlock, Exit.then])
  first
    | go_end0
    | refine bodyPost_ret (results_none rfl _ _ _) rfl ?_
  first
    | exact ⟨rfl, h2, hmv⟩
    | exact ⟨h2, hmv⟩

set_option maxRecDepth 100000 in
set_option maxHeartbeats 1000000 in
theorem wWrite_any {F : Nat → Prop} {w : World} {g : Nat} {r : Int} {xs : List Int} {e : Int} (h : WrAt F w g r xs e) (a : Option Addr) (m k : Nat) (ps : List (List Int)) (hP : Outs F w a m ps) (hm : xs.length + ps.flatten.length ≤ 90000000) (hmm : m ≤ 100000000) :
    Calls Try.prog 34 #[.pointer (some ⟨g, 0, none⟩), .int .i64 0, .slice a m k] w fun q w' => ∃ F', q = .returned (.tuple #[]) ∧ WrAt F' w' g r (wrStep r xs e ps.flatten).1 (wrStep r xs e ps.flatten).2 ∧ Grows F F' w ∧ Moved F w w' := by
  obtain ⟨i0, hi, hz0, hz1, hz2⟩ := info_u8b
  unfold wrStep
  by_cases he : e ≠ 0
  · rw [if_pos he]
    refine (wWrite_bad h he 0 a m k).mono ?_
    rintro q w1 ⟨rfl, rfl⟩
    exact ⟨F, rfl, h, fun b hb => .inl hb, Moved.rfl'⟩
  rw [if_neg he]
  obtain rfl : e = 0 := by omega
  clear he
  have hW := wErr_any h
  have hSz : ∀ n, Calls Try.prog 42 #[.slice a m k] (w.drewN n) fun q w' => q = .returned (.int .i64 (ps.flatten.length : Nat)) ∧ w' = w.drewN n := fun n => (wSize_any a m k ps (hP.moved (Moved.of_below (below_drewN (Below.refl _ _) n))) (by omega) hmm).mono fun _ _ h => ⟨h.1, h.2.symm⟩
  obtain ⟨X, E, hXE⟩ : ∃ X E, (if r < ((xs.length : Int) + ps.flatten.length) then (xs, (3 : Int)) else (xs ++ ps.flatten, 0)) = (X, E) := ⟨_, _, rfl⟩
  rw [hXE]
  dsimp only
  have hXEH := Lib.hid hXE
  clear hXE
  obtain ⟨a0, c0, hb, ho, hx⟩ := h.is
  obtain ⟨d0, d1, d2, d3⟩ := wpCells hb
  have hr := h.room
  have hft := h.fit
  obtain ⟨n, hn⟩ : ∃ n, xs.length = n := ⟨_, rfl⟩
  rw [hn] at d2
  have hnH := Lib.hid hn
  have hw : wrap64 (r - (n : Int)) = r - n := by unfold wrap64; omega
  have hwk : IntKind.i64.wrap (r - (n : Int)) = r - n := by rw [IntKind.wrap_i64]; omega
  obtain ⟨S, hS⟩ : ∃ S, ps.flatten.length = S := ⟨_, rfl⟩
  rw [hS] at hSz
  have hSH := Lib.hid hS
  by_cases hlong : r - (n : Int) < (S : Int)
  · go_enter Try.func34, Try.ntmps34
    go_wp2_with fail
    refine hW.mono ?_
    rintro q w1 ⟨rfl, rfl⟩
    go_wp2
    go_quiet (refine Calls.quiet_of_same (hSz _))
    obtain ⟨W1, hW1⟩ : ∃ W1, w.drewN nq = W1 := ⟨_, rfl⟩
    have b1 : Below w.heap.size w W1 := by rw [← hW1]; exact below_drewN (Below.refl _ _) nq
    have h1 : WrAt F W1 g r xs 0 := h.keep (fun b hb => b1.block b (h.lt b hb)) b1.size
    have hM1 : Moved F w W1 := Moved.of_below b1
    obtain ⟨h2, m2⟩ := h1.note 3
    have hmv := hM1.then m2
    obtain ⟨a0, c0, hb, ho, hx⟩ := h1.is
    have hc3 := hb.cell 3
    have hf3 := hb.frozen 3
    rw [hW1]
    clear hW1 h hW hP h1 hM1 m2 b1 ho hx hb d0 d1 d2 d3 hSz
    go_wp2
    (try simp only [Exit.inBlock, Exit.then])
    first
      | go_end0
      | refine bodyPost_ret (results_none rfl _ _ _) rfl ?_
    have hq := hXEH.out
    rw [hnH.out, hSH.out, if_pos (by omega)] at hq
    injection hq with q1 q2
    subst q1; subst q2
    first
      | exact ⟨rfl, F, h2, fun b hb => .inl hb, hmv⟩
      | exact ⟨F, rfl, h2, fun b hb => .inl hb, hmv⟩
  · go_enter Try.func34, Try.ntmps34
    go_wp2_with fail
    refine hW.mono ?_
    rintro q w1 ⟨rfl, rfl⟩
    go_wp2
    go_quiet (refine Calls.quiet_of_same (hSz _))
    obtain ⟨W1, hW1⟩ : ∃ W1, w.drewN nq = W1 := ⟨_, rfl⟩
    have b1 : Below w.heap.size w W1 := by rw [← hW1]; exact below_drewN (Below.refl _ _) nq
    have h1 : WrAt F W1 g r xs 0 := h.keep (fun b hb => b1.block b (h.lt b hb)) b1.size
    have hP1 := hP.moved (Moved.of_below (F := F) b1)
    have hM1 : Moved F w W1 := Moved.of_below b1
    have hmH := Lib.hid hm
    have hle : (n : Int) + (S : Int) ≤ r := by omega
    have hleH := Lib.hid hle
    rw [hW1]
    clear hW1 h hP hW d0 d1 d2 d3 hb ho hx b1 hm hSz
    go_wp2_with fail
    go_loopw [38] (fun i wr => ∃ (j' : Nat) (Fj : Nat → Prop), j' ≤ m ∧ i = .int .i64 j' ∧ WrAt Fj wr g r (xs ++ (ps.take j').flatten) 0 ∧ Grows F Fj W1 ∧ Moved F W1 wr) (fun i _ => m - (intOf i).toNat)
    case atStart => exact ⟨0, F, Nat.zero_le _, rfl, by simpa using h1, fun b hb => .inl hb, Moved.rfl'⟩
    case round =>
      have hg0 := h1.own
      clear h1
      obtain ⟨j', Fj, hj, rfl, hw2, hG2, hM2⟩ := hrel
      by_cases hlt : j' < m
      · have hji : (j' : Int) < (m : Int) := by omega
        obtain ⟨b, off, A, n1, c1, rfl, hc, hI, hfl⟩ := (hP1.moved hM2).get j' hlt
        have hlI := hI.len
        have htl := flatten_take_le ps (j' + 1)
        obtain ⟨a2, e2, hb2, ho2, hx2⟩ := hw2.is
        have hc2 := (wpCells hb2).2.2.1
        have hAP := fun (a5 : Option Addr) (c5 N : Nat) (w5 : World) => WrAt.append (a5 := a5) (c5 := c5) (N := N) (w5 := w5) (ys := ps.getD j' []) hw2 hG2 hM2 hg0 hb2 hx2
        rw [List.append_assoc, ← hfl] at hAP
        have hAPH := Lib.hid hAP
        obtain ⟨L, hL⟩ : ∃ L, (xs ++ (ps.take j').flatten).length = L := ⟨_, rfl⟩
        have q4 : L = n + (ps.take j').flatten.length := by rw [← hL, List.length_append, hn]
        have q5 : (ps.take (j' + 1)).flatten.length = (ps.take j').flatten.length + n1 := by rw [hfl, List.length_append, hlI]
        have hLb : L + n1 ≤ 90000000 := by have := hmH.out; omega
        have hLr : ((L + n1 : Nat) : Int) ≤ r := by have := hleH.out; have := hSH.out; omega
        rw [hL] at hc2 ho2
        have hLH := Lib.hid hL
        clear q4 q5 hn
        have hltH := Lib.hid hlt
        clear hlt hj hAP hL htl hle hlong hw hwk
        go_wp2_with (at_builtin
                     refine wpList_append_ints_at rfl (.tmp 46) (.tmp 47) 27 rfl 0 5 i0 (.int .u8 0) 1 Try.underlying27 hi hz0 hz1 hz2 rfl rfl ho2 rfl hI ?_ ?_ (Nat.zero_le _) ?_
                     (unfold maxLen; omega)
                     (omega)
                     intro v5 w5 own5 g5 hat5
                     refine RowKit.Hid.out ?_)
        refine Lib.hid ?_
        have hex : ∃ a5 c5, v5 = .slice a5 (L + n1) c5 := own_slice own5
        obtain ⟨a5, c5, hv5⟩ := hex
        rw [hv5] at own5 hat5 ⊢
        rw [← List.map_append, List.append_assoc, ← hfl] at own5
        have g5' : wr.grownBy w5 (Value.slice a2 L e2).ownBlock := g5
        have hat5' : (Value.slice a5 (L + n1) c5).ownBlock = (Value.slice a2 L e2).ownBlock ∨ (Value.slice a5 (L + n1) c5).ownBlock = some wr.heap.size := hat5
        have eL : (Value.slice a2 L e2).ownBlock = (Value.slice a2 (xs ++ (ps.take j').flatten).length e2).ownBlock := by rw [hLH.out]
        rw [eL] at g5' hat5'
        have hlen5 : (xs ++ (ps.take (j' + 1)).flatten).length = L + n1 := by have := own5.1; rw [List.length_map, Nat.mul_one] at this; exact this
        obtain ⟨hb5, F5, hw5, hG5, hM5⟩ := hAPH.out a5 c5 (L + n1) w5 own5 g5' hat5' (by rw [hlen5]; exact hLr)
        have hc5 := hb5.cell 2
        have hf5 := hb5.frozen 2
        have hw5H := Lib.hid hw5
        clear g5 g5' hat5 hat5' own5 eL hb2 ho2 hx2 hw2 hG2 hM2 hc hI hb5 hv5 hlen5 hw5 hc2 hfl
        go_wp2
        exact ⟨⟨j' + 1, F5, by have := hltH.out; omega, by congr 1, hw5H.out, hG5, hM5⟩, by simp only [intOf]; have := hltH.out; omega⟩
      · obtain rfl : j' = m := by omega
        have hji : ¬ (j' : Int) < (j' : Int) := by omega
        rw [List.take_of_length_le (by rw [hP1.1]; exact Nat.le_refl _)] at hw2
        have hq := hXEH.out
        rw [hnH.out, hSH.out, if_neg (by omega)] at hq
        injection hq with q1 q2
        subst q1; subst q2
        have hGG : Grows F Fj w := fun b hb => (hG2 b hb).imp id (fun h => Nat.le_trans hM1.size h)
        have hMM := hM1.then hM2
        clear hlt hj hlong hw hwk hle
        go_wp2
        (try simp only [Exit.inBlock, Exit.then])
        first
          | go_end0
          | refine bodyPost_ret (results_none rfl _ _ _) rfl ?_
        first
          | exact ⟨Fj, rfl, hw2, hGG, hMM⟩
          | exact ⟨rfl, Fj, hw2, hGG, hMM⟩
end Go.Proofs.Ytlbhpicebefpnaa

/-
  What the landed writer's Num, Bytes, Id, Hint, Ids and Fail come to, by write. New memory and the writer's own alone are written. Conditions: at most eighty million bytes; what is handed in does not lie in the writer's own memory.
-/
namespace Go.Proofs.Ytlbhpicebefpnaa
open Go.RowKit

theorem one_out {F : Nat → Prop} {w : World} {b : Option Addr} {m d : Nat} {ys : List Int} {T : TypeId} (hF : ∀ b, F b → b < w.heap.size) (hI : Ints .u8 w b m d ys) (hb : ∀ x, b = some x → 0 < m → ¬ F x.block) :
    Outs F (w.alloc (.cells #[.slice b m d] T)) (some ⟨w.heap.size, 0, none⟩) 1 [ys] := by
  refine ⟨rfl, .inr ⟨w.heap.size, 0, rfl, fun h => by have := hF _ h; omega, fun i hi => ?_⟩⟩
  obtain rfl : i = 0 := by omega
  exact ⟨b, m, d, (Blk.new w T [.slice b m d]).cell 0, hI.keep (below1 w _), hb⟩
theorem blk_ints {w : World} {g n : Nat} {t : TypeId} {ys : List Int} (h : Blk w g t (ys.map (Value.int .u8))) (hl : ys.length = n) : Ints .u8 w (some ⟨g, 0, none⟩) n n ys :=
  ⟨hl, Nat.le_refl _, .inr ⟨g, 0, rfl, fun i hi => by
    rw [Nat.zero_add, h.cell, List.getElem?_map, List.getElem?_eq_getElem (by omega), List.getD_eq_getElem?_getD, List.getElem?_eq_getElem (by omega)]
    rfl⟩⟩
theorem Grows.of_le {F F' : Nat → Prop} {w w' : World} (h : Grows F F' w') (hs : w.heap.size ≤ w'.heap.size) : Grows F F' w := fun b hb => (h b hb).imp id (fun h => Nat.le_trans hs h)
theorem within {F : Nat → Prop} {w w2 w' : World} {g : Nat} {r : Int} {X : List Int} {E : Int} {q : Ending} (hB : Below w.heap.size w w2) (h : ∃ F', q = .returned (.tuple #[]) ∧ WrAt F' w' g r X E ∧ Grows F F' w2 ∧ Moved F w2 w') :
    q = .returned (.tuple #[]) ∧ ∃ F', WrAt F' w' g r X E ∧ Grows F F' w ∧ Moved F w w' := by
  obtain ⟨F', hq, hw, hg, hm⟩ := h
  exact ⟨hq, F', hw, hg.of_le hB.size, (Moved.of_below hB).then hm⟩
theorem without {F : Nat → Prop} {w w' : World} {g : Nat} {r : Int} {X : List Int} {E : Int} {q : Ending} (h : q = .returned (.tuple #[]) ∧ ∃ F', WrAt F' w' g r X E ∧ Grows F F' w ∧ Moved F w w') :
    ∃ F', q = .returned (.tuple #[]) ∧ WrAt F' w' g r X E ∧ Grows F F' w ∧ Moved F w w' := by
  obtain ⟨hq, F', h⟩ := h
  exact ⟨F', hq, h⟩

theorem wNote_any {F : Nat → Prop} {w : World} {g : Nat} {r : Int} {xs : List Int} {e : Int} (h : WrAt F w g r xs e) (x : Int) (hm : xs.length ≤ 90000000) :
    Calls Try.prog 34 #[.pointer (some ⟨g, 0, none⟩), .int .i64 x, .slice none 0 0] w fun q w' => ∃ F', q = .returned (.tuple #[]) ∧ WrAt F' w' g r xs (badOf e x) ∧ Grows F F' w ∧ Moved F w w'  := by
  unfold badOf
  by_cases he : e = 0
  · subst he
    rw [if_pos rfl]
    by_cases hx : x = 0
    · subst hx
      refine (wWrite_any h none 0 0 [] ⟨rfl, .inl rfl⟩ (by simpa using hm) (by decide)).mono ?_
      rintro q w1 ⟨F', rfl, hw, hg, hm1⟩
      have hst : wrStep r xs 0 ([] : List (List Int)).flatten = (xs, 0) := by
        unfold wrStep
        rw [if_neg (by simp), if_neg (by have := h.fit; simp; omega)]
        simp
      rw [hst] at hw
      exact ⟨F', rfl, hw, hg, hm1⟩
    · refine (wWrite_fault h x hx none 0 0).mono ?_
      rintro q w1 ⟨rfl, hw, hm1⟩
      exact ⟨F, rfl, hw, grows_self, hm1⟩
  · rw [if_neg he]
    refine (wWrite_bad h he x none 0 0).mono ?_
    rintro q w1 ⟨rfl, rfl⟩
    exact ⟨F, rfl, h, grows_self, Moved.rfl'⟩

theorem wFail_any {F : Nat → Prop} {w : World} {g : Nat} {r : Int} {xs : List Int} {e : Int} (h : WrAt F w g r xs e) (x : Int) (hm : xs.length ≤ 90000000) :
    Calls Try.prog 27 #[.pointer (some ⟨g, 0, none⟩), .int .i64 x] w fun q w' => ∃ F', q = .returned (.tuple #[]) ∧ WrAt F' w' g r xs (badOf e x) ∧ Grows F F' w ∧ Moved F w w' :=
  (fail_with x ((wNote_any h x hm).mono fun _ _ k => within (Below.refl _ _) k)).mono fun _ _ k => without k

/-- One part, laid in new memory. -/
theorem wOne_any {F : Nat → Prop} {w : World} {g : Nat} {r : Int} {xs : List Int} {e : Int} (h : WrAt F w g r xs e) {W : World} (hB : Below w.heap.size w W) (b : Option Addr) (m d : Nat) (ys : List Int) (T : TypeId) (hI : Ints .u8 W b m d ys) (hb : ∀ x, b = some x → 0 < m → ¬ F x.block) (hm : xs.length + m ≤ 90000000) :
    Calls Try.prog 34 #[.pointer (some ⟨g, 0, none⟩), .int .i64 0, .slice (some ⟨W.heap.size, 0, none⟩) 1 1] (W.alloc (.cells #[.slice b m d] T)) fun q w' => q = .returned (.tuple #[]) ∧ ∃ F', WrAt F' w' g r (wrStep r xs e ys).1 (wrStep r xs e ys).2 ∧ Grows F F' w ∧ Moved F w w' := by
  have hW := h.keep (fun y hy => hB.block y (h.lt y hy)) hB.size
  have hO := one_out (T := T) hW.lt hI hb
  have b1 := below1 W (.cells #[.slice b m d] T)
  have h1 := hW.keep (fun y hy => b1.block y (hW.lt y hy)) b1.size
  have C := wWrite_any h1 (some ⟨W.heap.size, 0, none⟩) 1 1 [ys] hO (by have := hI.len; simp; omega) (by decide)
  rw [show [ys].flatten = ys by simp] at C
  exact C.mono fun _ _ k => within (hB.trans (b1.mono hB.size)) k

theorem wBytes_any {F : Nat → Prop} {w : World} {g : Nat} {r : Int} {xs : List Int} {e : Int} (h : WrAt F w g r xs e) (b : Option Addr) (m d : Nat) (ys : List Int) (hI : Ints .u8 w b m d ys) (hb : ∀ x, b = some x → 0 < m → ¬ F x.block) (hm : xs.length + m ≤ 80000000) :
    Calls Try.prog 17 #[.pointer (some ⟨g, 0, none⟩), .slice b m d] w fun q w' => ∃ F', q = .returned (.tuple #[]) ∧ WrAt F' w' g r (wrStep r xs e ys).1 (wrStep r xs e ys).2 ∧ Grows F F' w ∧ Moved F w w' :=
  (bytes_with b m d (wOne_any h (Below.refl _ _) b m d ys _ hI hb (by omega))).mono fun _ _ k => without k

theorem wId_any {F : Nat → Prop} {w : World} {g : Nat} {r : Int} {xs : List Int} {e : Int} (h : WrAt F w g r xs e) (ys : List Int) (hl : ys.length = 32) (hm : xs.length ≤ 80000000) :
    Calls Try.prog 16 #[.pointer (some ⟨g, 0, none⟩), .agg (ys.map (Value.int .u8)).toArray] w fun q w' => ∃ F', q = .returned (.tuple #[]) ∧ WrAt F' w' g r (wrStep r xs e ys).1 (wrStep r xs e ys).2 ∧ Grows F F' w ∧ Moved F w w' := by
  have b0 := below1 w (.cells (ys.map (Value.int .u8)).toArray 34)
  have hI : Ints .u8 (w.alloc (.cells (ys.map (Value.int .u8)).toArray 34)) (some ⟨w.heap.size, 0, none⟩) 32 32 ys := blk_ints (Blk.new w _ _) hl
  have C := wOne_any h b0 (some ⟨w.heap.size, 0, none⟩) 32 32 ys 27 hI (fun x hx _ hf => by injection hx with hx; subst hx; have := h.lt _ hf; exact Nat.lt_irrefl _ this) (by omega)
  rw [size1] at C
  exact (id_with (ys.map (Value.int .u8)) C).mono fun _ _ k => without k

theorem wHint_any {F : Nat → Prop} {w : World} {g : Nat} {r : Int} {xs : List Int} {e : Int} (h : WrAt F w g r xs e) (ys : List Int) (hl : ys.length = 16) (hm : xs.length ≤ 80000000) :
    Calls Try.prog 30 #[.pointer (some ⟨g, 0, none⟩), .agg (ys.map (Value.int .u8)).toArray] w fun q w' => ∃ F', q = .returned (.tuple #[]) ∧ WrAt F' w' g r (wrStep r xs e ys).1 (wrStep r xs e ys).2 ∧ Grows F F' w ∧ Moved F w w' := by
  have b0 := below1 w (.cells (ys.map (Value.int .u8)).toArray 65)
  have hI : Ints .u8 (w.alloc (.cells (ys.map (Value.int .u8)).toArray 65)) (some ⟨w.heap.size, 0, none⟩) 16 16 ys := blk_ints (Blk.new w _ _) hl
  have C := wOne_any h b0 (some ⟨w.heap.size, 0, none⟩) 16 16 ys 27 hI (fun x hx _ hf => by injection hx with hx; subst hx; have := h.lt _ hf; exact Nat.lt_irrefl _ this) (by omega)
  rw [size1] at C
  exact (hint_with (ys.map (Value.int .u8)) C).mono fun _ _ k => without k

theorem wNum_any {F : Nat → Prop} {w : World} {g : Nat} {r : Int} {xs : List Int} {e : Int} (h : WrAt F w g r xs e) (N A : Int) (hm : xs.length ≤ 80000000) (hN : 0 ≤ N) :
    Calls Try.prog 15 #[.pointer (some ⟨g, 0, none⟩), .int .u64 N, .int .i64 A] w fun q w' => ∃ F', q = .returned (.tuple #[]) ∧ WrAt F' w' g r (wrNum r xs e N A).1 (wrNum r xs e N A).2 ∧ Grows F F' w ∧ Moved F w w' := by
  unfold wrNum
  rcases num_cases N A hN with ⟨hf, K, rfl, h1, h8, hz⟩ | ⟨hf, hA⟩
  · rw [if_pos hf, Int.toNat_natCast]
    refine (num_fits_with N K h1 h8 hz fun W hb hB => ?_).mono fun _ _ k => without k
    have hI := laidN_ints hb K (8 - K) (by omega)
    exact wOne_any h hB _ K K (beL N K) _ hI (fun x hx _ hf => by injection hx with hx; subst hx; exact Nat.lt_irrefl _ (h.lt _ hf)) (by omega)
  · rw [if_neg hf]
    exact (num_arg_with N A hA ((wNote_any h 1 (by omega)).mono fun _ _ k => within (Below.refl _ _) k)).mono fun _ _ k => without k

/-- The ids' bytes, id by id. -/
def idRows (ys : List Int) (m : Nat) : List (List Int) := (List.range m).map fun i => (ys.drop (32 * i)).take 32
theorem idRows_flat (ys : List Int) : ∀ m, (idRows ys m).flatten = ys.take (32 * m)
  | 0 => by simp [idRows]
  | m + 1 => by
    have h := idRows_flat ys m
    unfold idRows at h ⊢
    rw [List.range_succ, List.map_append, List.flatten_append, h, show 32 * (m + 1) = 32 * m + 32 by omega, List.take_add]
    simp
theorem ids_out {F : Nat → Prop} {W : World} {G : Nat} {T : TypeId} {b : Option Addr} {m d : Nat} {ys : List Int} (hI : IdsAt W b m d ys) (hb : ∀ x, b = some x → 0 < m → ¬ F x.block) (hG : ¬ F G) (hk : Blk W G T (idParts b m)) : Outs F W (some ⟨G, 0, none⟩) m (idRows ys m) := by
  refine ⟨by simp [idRows], ?_⟩
  by_cases h0 : m = 0
  · exact .inl h0
  obtain ⟨lb, lo, rfl⟩ : ∃ lb lo, b = some ⟨lb, lo, none⟩ := by
    rcases hI.2.2 with h1 | ⟨lb, lo, h, _⟩
    · exact absurd h1 h0
    · exact ⟨lb, lo, h⟩
  refine .inr ⟨G, 0, rfl, hG, fun i hi => ⟨some ⟨lb, lo + i * 32, none⟩, 32, 32, ?_, ?_, fun x hx _ => ?_⟩⟩
  · rw [Nat.zero_add, hk.cell]
    unfold idParts
    rw [List.getElem?_map, List.getElem?_range hi]
    rfl
  · have h1 := ids_chunk hI i hi
    unfold idRows
    rw [List.getD_eq_getElem?_getD, List.getElem?_map, List.getElem?_range hi]
    exact h1
  · injection hx with hx
    subst hx
    exact hb ⟨lb, lo, none⟩ rfl (by omega)

theorem wIds_any {F : Nat → Prop} {w : World} {g : Nat} {r : Int} {xs : List Int} {e : Int} (h : WrAt F w g r xs e) (b : Option Addr) (m d : Nat) (ys : List Int) (hI : IdsAt w b m d ys) (hb : ∀ x, b = some x → 0 < m → ¬ F x.block) (hm : xs.length + 32 * m ≤ 80000000) :
    Calls Try.prog 18 #[.pointer (some ⟨g, 0, none⟩), .slice b m d] w fun q w' => ∃ F', q = .returned (.tuple #[]) ∧ WrAt F' w' g r (wrStep r xs e ys).1 (wrStep r xs e ys).2 ∧ Grows F F' w ∧ Moved F w w' := by
  have hfl := idRows_flat ys m
  rw [List.take_of_length_le (by rw [hI.1]; exact Nat.le_refl _)] at hfl
  refine (ids_with b m d (hI.2.2.imp id fun ⟨lb, lo, h, _⟩ => ⟨lb, lo, h⟩) hI.2.1 (by omega) fun W hk hB => ?_).mono fun _ _ k => without k
  have hW := h.keep (fun y hy => hB.block y (h.lt y hy)) hB.size
  have hO := ids_out (hI.keep hB) hb (fun hf => Nat.lt_irrefl _ (h.lt _ hf)) hk
  have C := wWrite_any hW (some ⟨w.heap.size, 0, none⟩) m m _ hO (by rw [hfl, hI.1]; omega) (by omega)
  rw [hfl] at C
  exact C.mono fun _ _ k => within hB k
end Go.Proofs.Ytlbhpicebefpnaa

/-
  The landed writer as the laws of layer 10 take it ('writerProg'). Conditions: at most eighty million bytes.
-/
namespace Go.Proofs.Ytlbhpicebefpnaa
open Go.RowKit

/-- A writer in memory, of at most ninety million bytes. -/
def WrIn (F : Nat → Prop) (w : World) (g : Nat) (r : Int) (xs : List Int) (e : Int) : Prop := WrAt F w g r xs e ∧ xs.length ≤ 90000000
theorem step_len (r : Int) (xs : List Int) (e : Int) (ys : List Int) : (wrStep r xs e ys).1.length ≤ xs.length + ys.length := by
  unfold wrStep
  split
  · exact Nat.le_add_right _ _
  · split
    · exact Nat.le_add_right _ _
    · rw [List.length_append]; exact Nat.le_refl _
theorem num_len (r : Int) (xs : List Int) (e N A : Int) : (wrNum r xs e N A).1.length ≤ xs.length + 8 := by
  unfold wrNum
  split
  · rename_i h
    refine Nat.le_trans (step_len _ _ _ _) ?_
    rw [beL_len]
    have := h.2.1
    omega
  · exact Nat.le_add_right _ _

def writerProg : WriterProg where
  Gl := fun _ => True
  N := 0
  gl_le := fun _ => Nat.zero_le _
  gl_keep := fun _ _ => trivial
  Wr := WrIn
  lt := fun h => h.1.lt
  keep := fun h hk hs => ⟨h.1.keep hk hs, h.2⟩
  new := fun r w _ _ h1 => (wNew_any r w h1).mono fun _ _ ⟨g, F, hq, hw, hF, hB⟩ => ⟨g, F, hq, ⟨hw, Nat.zero_le _⟩, hF, hB⟩
  num := fun _ _ _ _ _ N A _ _ h hm h0 _ _ _ => (wNum_any h.1 N A hm h0).mono fun _ _ ⟨F', hq, hw, hg, hM⟩ => ⟨F', hq, ⟨hw, Nat.le_trans (num_len _ _ _ _ _) (by omega)⟩, hg, hM⟩
  bytes := fun _ _ _ _ _ b m d ys _ _ h hI _ hb hm => (wBytes_any h.1 b m d ys hI hb hm).mono fun _ _ ⟨F', hq, hw, hg, hM⟩ => ⟨F', hq, ⟨hw, Nat.le_trans (step_len _ _ _ _) (by have := hI.len; omega)⟩, hg, hM⟩
  id := fun _ _ _ _ _ ys _ _ h hl _ hm => (wId_any h.1 ys hl hm).mono fun _ _ ⟨F', hq, hw, hg, hM⟩ => ⟨F', hq, ⟨hw, Nat.le_trans (step_len _ _ _ _) (by omega)⟩, hg, hM⟩
  hint := fun _ _ _ _ _ ys _ _ h hl _ hm => (wHint_any h.1 ys hl hm).mono fun _ _ ⟨F', hq, hw, hg, hM⟩ => ⟨F', hq, ⟨hw, Nat.le_trans (step_len _ _ _ _) (by omega)⟩, hg, hM⟩
  ids := fun _ _ _ _ _ b m d ys _ _ h hI _ hb hm => (wIds_any h.1 b m d ys hI hb hm).mono fun _ _ ⟨F', hq, hw, hg, hM⟩ => ⟨F', hq, ⟨hw, Nat.le_trans (step_len _ _ _ _) (by have := hI.1; omega)⟩, hg, hM⟩
  fail := fun _ _ _ _ _ x _ _ h => (wFail_any h.1 x h.2).mono fun _ _ ⟨F', hq, hw, hg, hM⟩ => ⟨F', hq, ⟨hw, h.2⟩, hg, hM⟩
  len := fun _ _ _ _ _ _ _ h => (wLen_any h.1).mono fun _ _ k => ⟨k.1, k.2 ▸ Below.refl _ _⟩
  err := fun _ _ _ _ _ _ _ h => (wErr_any h.1).mono fun _ _ k => ⟨k.1, k.2 ▸ Below.refl _ _⟩
  done := fun _ _ _ _ _ _ _ h => wDone_any h.1 (by have := h.2; omega)

end Go.Proofs.Ytlbhpicebefpnaa

/-
  Texts of stages that were proved on their own, joined: DkLike. Each begins with its own words.
-/
import Derived.Test.YtmnfagpbcllbgaaJDkLawD4

/-
  The law DiskDoes: its like tells that both disks hold the same. New memory alone is written. Conditions: a disk with fewer than 2^42 steps.
-/
namespace Go.Proofs.Ytmnfagpbcllbgaa
open Go.RowKit

/-- A slice that a conversion turns to this string, now and later. -/
def Conv (w : World) (v : Value) (s : ByteArray) : Prop := ∀ w', Below w.heap.size w w' → (convert 31 9 v).run Try.prog w' = .ok (.string s) w'
theorem Conv.keep {w w' : World} {v : Value} {s : ByteArray} (h : Conv w v s) (hb : Below w.heap.size w w') : Conv w' v s := fun w2 h2 => h w2 (chain hb h2)
theorem conv_of {w : World} {a : Option Addr} {n c : Nat} {xs : List Int} (h : Ints .u8 w a n c xs) : Conv w (.slice a n c) (strOfNums xs) := fun _ hb => h.string' 31 9 5 Try.underlying31 Try.underlying5 Try.underlying9 hb
theorem Tells.conv {w w' : World} {q : Ending} {xs : List Int} {s : ByteArray} {n : Nat} (h : Tells w q w' xs) (hs : strOfNums xs = s) (hn : xs.length = n) : ∃ b c, q = .returned (.slice b n c) ∧ Conv w' (.slice b n c) s ∧ Below w.heap.size w w' := by
  obtain ⟨b, c, e, ho, hb⟩ := h
  subst hs; subst hn
  exact ⟨b, c, e, conv_of (own_ints' ho), hb⟩
section
variable {E : Nat → Prop} {B : Nat} {w0 w : World} {g : Nat} {cs : List Value} {D D' : DkV} {T : Nat}
theorem l_read (h : Two E B w0 w g cs D D') (hO : D.Ok T) (i : Nat) (hi : i < 3) (z : Int) (hz : z = (i : Int)) (s : ByteArray) (hs : strOfNums (D.f i).held = s) (n : Nat) (hn : (D.f i).held.length = n) :
    Calls Try.prog 17 #[.pointer (some ⟨g, 0, none⟩), .int .i64 z] w fun q w' => ∃ b c, q = .returned (.slice b n c) ∧ Conv w' (.slice b n c) s ∧ Below w.heap.size w w' := by
  obtain ⟨L, P, R, h⟩ := h
  obtain ⟨x0, x1, x2, hk⟩ := h.k
  subst hz
  exact (dRead_any hk hO i hi).mono fun _ _ h => h.conv hs hn
theorem l_kept (h : Two E B w0 w g cs D D') (hO : D.Ok T) (i : Nat) (hi : i < 3) (z : Int) (hz : z = (i : Int)) (s : ByteArray) (hs : strOfNums (D.f i).K = s) (n : Nat) (hn : (D.f i).K.length = n) :
    Calls Try.prog 26 #[.pointer (some ⟨g, 0, none⟩), .int .i64 z] w fun q w' => ∃ b c, q = .returned (.slice b n c) ∧ Conv w' (.slice b n c) s ∧ Below w.heap.size w w' := by
  obtain ⟨L, P, R, h⟩ := h
  obtain ⟨x0, x1, x2, hk⟩ := h.k
  subst hz
  exact (dKept_any hk hO i hi).mono fun _ _ h => h.conv hs hn
theorem l_units (h : Two E B w0 w g cs D D') (hO : D.Ok T) (i : Nat) (hi : i < 3) (z : Int) (hz : z = (i : Int)) (n : Nat) (hn : (D.f i).units = n) :
    Calls Try.prog 27 #[.pointer (some ⟨g, 0, none⟩), .int .i64 z] w fun q w' => q = .returned (.int .i64 (n : Int)) ∧ Below w.heap.size w w' := by
  obtain ⟨L, P, R, h⟩ := h
  obtain ⟨x0, x1, x2, hk⟩ := h.k
  subst hz; subst hn
  exact dUnits_any hk hO i hi
theorem l_size (h : Two E B w0 w g cs D D') (hO : D.Ok T) (i : Nat) (hi : i < 3) (z : Int) (hz : z = (i : Int)) (n : Nat) (hn : (D.f i).held.length = n) :
    Calls Try.prog 14 #[.pointer (some ⟨g, 0, none⟩), .int .i64 z] w fun q w' => q = .returned (.int .i64 (n : Int)) ∧ Below w.heap.size w w' := by
  obtain ⟨L, P, R, h⟩ := h
  obtain ⟨x0, x1, x2, hk⟩ := h.k
  subst hz; subst hn
  exact dSize_any hk hO i hi
theorem Two.own (h : Two E B w0 w g cs D D') : DkOwn B w0 w g D := by
  obtain ⟨L, P, R, h⟩ := h
  exact ⟨⟨L, P, h.k, h.lb⟩, h.b, h.s⟩
theorem l_room (h : Two E B w0 w g cs D D') (hO : D.Ok T) (r : Int) (hr : D.room = r) :
    Calls Try.prog 30 #[.pointer (some ⟨g, 0, none⟩)] w fun q w' => q = .returned (.int .i64 r) ∧ Below w.heap.size w w' := by
  obtain ⟨L, P, R, h⟩ := h
  have := hO.room
  subst hr
  exact (dRoom_any h.k.cells.1 (by omega)).mono fun _ _ ⟨e, k⟩ => ⟨e, by rw [← k]; exact Below.refl _ _⟩
theorem l_fuse (h : Two E B w0 w g cs D D') (hO : D.Ok T) (r : Int) (hr : D.fuse = r) :
    Calls Try.prog 31 #[.pointer (some ⟨g, 0, none⟩)] w fun q w' => q = .returned (.int .i64 r) ∧ Below w.heap.size w w' := by
  obtain ⟨L, P, R, h⟩ := h
  have := hO.room
  subst hr
  exact (dFuse_any h.k.cells.1 (by omega) h.k.cells.2.1).mono fun _ _ ⟨e, k⟩ => ⟨e, by rw [← k]; exact Below.refl _ _⟩
theorem l_down (h : Two E B w0 w g cs D D') (hO : D.Ok T) (r : Bool) (hr : D.down = r) :
    Calls Try.prog 32 #[.pointer (some ⟨g, 0, none⟩)] w fun q w' => q = .returned (.bool r) ∧ Below w.heap.size w w' := by
  obtain ⟨L, P, R, h⟩ := h
  have := hO.room
  subst hr
  exact (dDown_any h.k.cells.1 (by omega) h.k.cells.2.2).mono fun _ _ ⟨e, k⟩ => ⟨e, by rw [← k]; exact Below.refl _ _⟩
theorem l_used (h : Two E B w0 w g cs D D') (hO : D'.Ok T) (hT : T ≤ 4398046511104) (n : Nat) (hn : D'.used = n) :
    Calls Try.prog 29 #[.agg cs.toArray] w fun q w' => q = .returned (.int .i64 (n : Int)) ∧ Below w.heap.size w w' := by
  obtain ⟨L, P, R, h⟩ := h
  subst hn
  exact fUsed_any h.r (hO.o0.fok hT) (hO.o1.fok hT) (hO.o2.fok hT)
/-- File i of the document's disk: its two cells, what they hold, and what its calls tell. -/
structure FileIs (w : World) (cs c : List Value) (i : Nat) (v : FlV) (ka : Option Addr) (kc : Nat) : Prop where
  at' : ∀ j u, c[j]? = some u → cs[i * 2 + j]? = some u
  l : c.length = 2
  k : cs[i * 2]? = some (.slice ka v.K.length kc)
  cv : Conv w (.slice ka v.K.length kc) (strOfNums v.K)
  r : ∃ R, RFile R w c v
theorem FileIs.keep {w w' : World} {cs c : List Value} {i : Nat} {v : FlV} {ka : Option Addr} {kc : Nat} (h : FileIs w cs c i v ka kc) (hb : Below w.heap.size w w') : FileIs w' cs c i v ka kc := by
  obtain ⟨R, hr⟩ := h.r
  exact ⟨h.at', h.l, h.k, h.cv.keep hb, R, hr.keep hb⟩
theorem Two.file (h : Two E B w0 w g cs D D') (i : Nat) (hi : i < 3) : ∃ c ka kc, FileIs w cs c i (D'.f i) ka kc := by
  obtain ⟨L, P, R, h⟩ := h
  obtain ⟨h1, h2⟩ := h.r.co i hi
  have h3 := h2
  have hl := h2.len
  obtain ⟨ka, kc, sa, sc, hc, hI, _, _⟩ := h2
  refine ⟨fileC cs i, ka, kc, h1, hl, ?_, conv_of hI, R, h3⟩
  have := h1 0 (.slice ka (D'.f i).K.length kc) (by rw [hc]; rfl)
  simpa using this
theorem l_holds {w : World} {cs c : List Value} {i : Nat} {v : FlV} {ka : Option Addr} {kc : Nat} (h : FileIs w cs c i v ka kc) (ho : FOk v) (s : ByteArray) (hs : strOfNums v.held = s) (n : Nat) (hn : v.held.length = n) :
    Calls Try.prog 25 #[.agg c.toArray] w fun q w' => ∃ b c, q = .returned (.slice b n c) ∧ Conv w' (.slice b n c) s ∧ Below w.heap.size w w' := by
  obtain ⟨R, hr⟩ := h.r
  exact (fHolds_any hr ho).mono fun _ _ h => h.conv hs hn
theorem l_funits {w : World} {cs c : List Value} {i : Nat} {v : FlV} {ka : Option Addr} {kc : Nat} (h : FileIs w cs c i v ka kc) (ho : FOk v) (n : Nat) (hn : v.units = n) :
    Calls Try.prog 28 #[.agg c.toArray] w fun q w' => q = .returned (.int .i64 (n : Int)) ∧ Below w.heap.size w w' := by
  obtain ⟨R, hr⟩ := h.r
  subst hn
  have h1 := ho.u
  have h2 := ho.l
  exact fUnits_any hr (by show ((v.units : Nat) : Int) < _; omega) (by omega)
end
/-- The condition moves along with memory. -/
theorem SeqS.mono {P : Program} {md : Region.Mode} {ops : Array Oper} {Q : Exit → Act → World → Prop} {S S' : World → Prop} {todo : List (Nat × Oper)} {listed : Array Bool} {a : Act} {w : World} (hS : ∀ w, S' w → S w) (h : SeqS P md ops Q S' todo listed a w) : SeqS P md ops Q S todo listed a w := fun hd => held_mono hS _ _ _ _ (h hd)

set_option maxRecDepth 100000 in
set_option maxHeartbeats 4000000 in
theorem like18_any {E : Nat → Prop} {B : Nat} {w0 w : World} {g : Nat} {cs : List Value} {D : DkV} {T : Nat} (h : Two E B w0 w g cs D D) (hO : D.Ok T) (hT : T ≤ 4398046511104) :
    Calls Try.prog 9 #[.pointer (some ⟨g, 0, none⟩), .agg cs.toArray] w fun q w' => q = .returned (.bool true) ∧ Below w.heap.size w w' := by
  have hdc := h.ddc
  have hl := hdc.l
  have hrow : IsRow Try.prog 37 cs.length := by rw [hl]; exact rowDd
  have b3 := Blk.new w 37 cs
  have q1 := below1 w (.cells cs.toArray 37)
  have h1 := h.keep q1
  obtain ⟨W, hW⟩ : ∃ W, w.alloc (.cells cs.toArray 37) = W := ⟨_, rfl⟩
  rw [hW] at b3 q1 h1
  have qH := Lib.hid q1
  have WH := Lib.hid hW
  have okH := Lib.hid hO
  have hTH := Lib.hid hT
  obtain ⟨G, hG⟩ : ∃ G, w.heap.size = G := ⟨_, rfl⟩
  rw [hG] at b3
  have GH := Lib.hid hG
  have lt3 := Lib.hid b3.lt
  have dcH := Lib.hid hdc
  clear h hW hG q1 hO hT hdc
  go_enter Try.func9, Try.ntmps9
  go_wp2_with ((with_reducible refine box_row rfl 37 (.tmp 1) rfl cs rfl ?_); refine RowKit.Hid.out ?_)
  refine Lib.hid ?_
  rw [WH.out, GH.out]
  have hB0 : Below W.heap.size W W := Below.refl _ _
  have h1H := Lib.hid h1
  have b3H := Lib.hid b3
  clear h1 b3
  go_wp2_with fail
  go_loopw [5] (fun i wr => ∃ z : Int, i = .int .i64 z ∧ (z = 0 ∨ z = 1 ∨ z = 2 ∨ z = 3) ∧ Below W.heap.size W wr) (fun i _ => 3 - (intOf i).toNat)
  case atStart => exact ⟨0, rfl, .inl rfl, hB0⟩
  case round =>
    clear hB0
    obtain ⟨z, rfl, hz, hB⟩ := hrel
    rcases hz with rfl | rfl | rfl | rfl
    · have hT0 := h1H.out.keep hB
      obtain ⟨c, ka, kc, hF⟩ := hT0.file 0 (by decide)
      have hfo := (okH.out.f 0).fok hTH.out
      have cl := hF.l
      have crow : IsRow Try.prog 34 c.length := by rw [cl]; exact rowRf
      have bk := b3H.out.keep hB lt3.out
      obtain ⟨s, hs⟩ : ∃ s, strOfNums (D.f 0).held = s := ⟨_, rfl⟩
      obtain ⟨n, hn⟩ : ∃ n, (D.f 0).held.length = n := ⟨_, rfl⟩
      obtain ⟨t, ht⟩ : ∃ s, strOfNums (D.f 0).K = s := ⟨_, rfl⟩
      obtain ⟨m, hm⟩ : ∃ n, (D.f 0).K.length = n := ⟨_, rfl⟩
      obtain ⟨u, hu⟩ : ∃ n, (D.f 0).units = n := ⟨_, rfl⟩
      have b4 : Below wr.heap.size wr wr.drew := (Below.refl _ _).drew
      have C1 := Lib.hid (fun w' (h : Below wr.heap.size wr w') => l_read (hT0.keep h) okH.out 0 (by decide) 0 rfl s hs n hn)
      have C2 := Lib.hid (fun w' (h : Below wr.heap.size wr w') => l_holds (hF.keep h) hfo s hs n hn)
      have C3 := Lib.hid (fun w' (h : Below wr.heap.size wr w') => l_kept (hT0.keep h) okH.out 0 (by decide) 0 rfl t ht m hm)
      have C4 := Lib.hid (fun w' (h : Below wr.heap.size wr w') => l_units (hT0.keep h) okH.out 0 (by decide) 0 rfl u hu)
      have C5 := Lib.hid (fun w' (h : Below wr.heap.size wr w') => l_funits (hF.keep h) hfo u hu)
      have C6 := Lib.hid (fun w' (h : Below wr.heap.size wr w') => l_size (hT0.keep h) okH.out 0 (by decide) 0 rfl n hn)
      have hk0 := hF.k
      have hcv := hF.cv
      rw [hm] at hk0 hcv
      rw [ht] at hcv
      have FK := Lib.hid (fun w' (h : Below wr.heap.size wr w') => show w'.cell? ⟨G, 0, none⟩ = some (.slice ka m kc) from ((bk.keep h bk.lt).cell 0).trans hk0)
      have FC := Lib.hid (fun w' (h : Below wr.heap.size wr w') => hcv w' h)
      have FR := Lib.hid (fun w' (h : Below wr.heap.size wr w') => show w'.rangeAt G 0 c from (bk.keep h bk.lt).range 0 c (fun j v hj => hF.at' j v hj))
      have hss : (s.toList == s.toList) = true := beq_self_eq_true _
      have htt : (t.toList == t.toList) = true := beq_self_eq_true _
      have hB5 := hB.trans (b4.mono hB.size)
      have hBH := Lib.hid hB
      clear hT0 hF hfo bk hs hn ht hm hu hk0 hcv hB cl
      go_wp2_with fail
      refine region_seqS (fun w' => Below wr.heap.size wr w') (by kernel_rfl) b4 ?_
      simp only [pairs, Nat.reduceAdd]
      repeat (first
        | (refine SeqS.take (v := .agg (c).toArray) (by first | assumption | trivial) (by kernel_rfl) (by decide +kernel) (by decide +kernel) (yields_part (by rfl) 34 (.tmp 16) rfl rfl (fun w' h => FR.out w' h) (crow)) ?_
           simp only [Act.put, List.setIfInBounds_toArray, List.set_cons_zero, List.set_cons_succ])
        | (refine SeqS.take (v := ?_) (by first | assumption | trivial) (by kernel_rfl) (by decide +kernel) (by decide +kernel) (Or.inl ⟨by rfl, ?_⟩) ?_
           rotate_left
           focus
             intro w' hb'
             go_simp
             with_reducible rfl
           simp only [Act.put, List.setIfInBounds_toArray, List.set_cons_zero, List.set_cons_succ])
        | (refine SeqS.take (v := undef) (by first | assumption | trivial) (by kernel_rfl) (by decide +kernel) (by decide +kernel) (Or.inr ⟨by rfl, rfl⟩) ?_
           simp only [Act.put, List.setIfInBounds_toArray, List.set_cons_zero, List.set_cons_succ])
        | (refine SeqS.take1 (v := .agg (c).toArray) (by first | assumption | trivial) (by kernel_rfl) (by decide +kernel) (by decide +kernel) (yields_part (by rfl) 34 (.tmp 16) rfl rfl (fun w' h => FR.out w' h) (crow)) ?_
           simp only [Act.put, List.setIfInBounds_toArray, List.set_cons_zero, List.set_cons_succ])
        | (refine SeqS.take1 (v := ?_) (by first | assumption | trivial) (by kernel_rfl) (by decide +kernel) (by decide +kernel) (Or.inl ⟨by rfl, ?_⟩) ?_
           rotate_left
           focus
             intro w' hb'
             go_simp
             with_reducible rfl
           simp only [Act.put, List.setIfInBounds_toArray, List.set_cons_zero, List.set_cons_succ])
        | (refine SeqS.take1 (v := undef) (by first | assumption | trivial) (by kernel_rfl) (by decide +kernel) (by decide +kernel) (Or.inr ⟨by rfl, rfl⟩) ?_
           simp only [Act.put, List.setIfInBounds_toArray, List.set_cons_zero, List.set_cons_succ])
        | (refine SeqS.take2 (v := .agg (c).toArray) (by first | assumption | trivial) (by kernel_rfl) (by decide +kernel) (by decide +kernel) (yields_part (by rfl) 34 (.tmp 16) rfl rfl (fun w' h => FR.out w' h) (crow)) ?_
           simp only [Act.put, List.setIfInBounds_toArray, List.set_cons_zero, List.set_cons_succ])
        | (refine SeqS.take2 (v := ?_) (by first | assumption | trivial) (by kernel_rfl) (by decide +kernel) (by decide +kernel) (Or.inl ⟨by rfl, ?_⟩) ?_
           rotate_left
           focus
             intro w' hb'
             go_simp
             with_reducible rfl
           simp only [Act.put, List.setIfInBounds_toArray, List.set_cons_zero, List.set_cons_succ])
        | (refine SeqS.take2 (v := undef) (by first | assumption | trivial) (by kernel_rfl) (by decide +kernel) (by decide +kernel) (Or.inr ⟨by rfl, rfl⟩) ?_
           simp only [Act.put, List.setIfInBounds_toArray, List.set_cons_zero, List.set_cons_succ]))
      refine SeqS.alone (by decide +kernel) (by rfl) (fun K hK => ?_)
      go_simp
      go_at_call 17
      refine (C1.out _ b4).mono ?_
      rintro q w1 ⟨a1, c1, rfl, v1, b1⟩
      go_simp
      have up1 : Below wr.heap.size wr w1 := chain b4 b1
      refine hK _ _ up1 ?_
      refine SeqS.mono (S' := fun w' => Below w1.heap.size w1 w') (fun w' h => chain up1 h) ?_
      have r1 : Below w1.heap.size w1 w1 := Below.refl _ _
      clear hK K b1
      repeat (first
        | (refine SeqS.take (v := ?_) (by first | assumption | trivial) (by kernel_rfl) (by decide +kernel) (by decide +kernel) (Or.inl ⟨by rfl, ?_⟩) ?_
           rotate_left
           focus
             intro w' hb'
             go_simp
             with_reducible rfl
           simp only [Act.put, List.setIfInBounds_toArray, List.set_cons_zero, List.set_cons_succ])
        | (refine SeqS.take (v := ?_) (by first | assumption | trivial) (by kernel_rfl) (by decide +kernel) (by decide +kernel) (Or.inl ⟨by rfl, ?_⟩) ?_
           rotate_left
           focus
             intro w' hb'
             have d0 := v1 w' hb'
             go_simp
             with_reducible rfl
           simp only [Act.put, List.setIfInBounds_toArray, List.set_cons_zero, List.set_cons_succ])
        | (refine SeqS.take (v := undef) (by first | assumption | trivial) (by kernel_rfl) (by decide +kernel) (by decide +kernel) (Or.inr ⟨by rfl, rfl⟩) ?_
           simp only [Act.put, List.setIfInBounds_toArray, List.set_cons_zero, List.set_cons_succ])
        | (refine SeqS.take1 (v := ?_) (by first | assumption | trivial) (by kernel_rfl) (by decide +kernel) (by decide +kernel) (Or.inl ⟨by rfl, ?_⟩) ?_
           rotate_left
           focus
             intro w' hb'
             go_simp
             with_reducible rfl
           simp only [Act.put, List.setIfInBounds_toArray, List.set_cons_zero, List.set_cons_succ])
        | (refine SeqS.take1 (v := ?_) (by first | assumption | trivial) (by kernel_rfl) (by decide +kernel) (by decide +kernel) (Or.inl ⟨by rfl, ?_⟩) ?_
           rotate_left
           focus
             intro w' hb'
             have d0 := v1 w' hb'
             go_simp
             with_reducible rfl
           simp only [Act.put, List.setIfInBounds_toArray, List.set_cons_zero, List.set_cons_succ])
        | (refine SeqS.take1 (v := undef) (by first | assumption | trivial) (by kernel_rfl) (by decide +kernel) (by decide +kernel) (Or.inr ⟨by rfl, rfl⟩) ?_
           simp only [Act.put, List.setIfInBounds_toArray, List.set_cons_zero, List.set_cons_succ])
        | (refine SeqS.take2 (v := ?_) (by first | assumption | trivial) (by kernel_rfl) (by decide +kernel) (by decide +kernel) (Or.inl ⟨by rfl, ?_⟩) ?_
           rotate_left
           focus
             intro w' hb'
             go_simp
             with_reducible rfl
           simp only [Act.put, List.setIfInBounds_toArray, List.set_cons_zero, List.set_cons_succ])
        | (refine SeqS.take2 (v := ?_) (by first | assumption | trivial) (by kernel_rfl) (by decide +kernel) (by decide +kernel) (Or.inl ⟨by rfl, ?_⟩) ?_
           rotate_left
           focus
             intro w' hb'
             have d0 := v1 w' hb'
             go_simp
             with_reducible rfl
           simp only [Act.put, List.setIfInBounds_toArray, List.set_cons_zero, List.set_cons_succ])
        | (refine SeqS.take2 (v := undef) (by first | assumption | trivial) (by kernel_rfl) (by decide +kernel) (by decide +kernel) (Or.inr ⟨by rfl, rfl⟩) ?_
           simp only [Act.put, List.setIfInBounds_toArray, List.set_cons_zero, List.set_cons_succ]))
      refine SeqS.alone (by decide +kernel) (by rfl) (fun K hK => ?_)
      go_simp
      go_at_call 25
      refine (C2.out _ up1).mono ?_
      rintro q w2 ⟨a2, c2, rfl, v2, b2⟩
      go_simp
      have up2 : Below wr.heap.size wr w2 := chain up1 b2
      refine hK _ _ b2 ?_
      refine SeqS.mono (S' := fun w' => Below w2.heap.size w2 w') (fun w' h => chain b2 h) ?_
      have r2 : Below w2.heap.size w2 w2 := Below.refl _ _
      clear hK K r1 v1 up1
      repeat (first
        | (refine SeqS.take (v := ?_) (by first | assumption | trivial) (by kernel_rfl) (by decide +kernel) (by decide +kernel) (Or.inl ⟨by rfl, ?_⟩) ?_
           rotate_left
           focus
             intro w' hb'
             go_simp
             with_reducible rfl
           simp only [Act.put, List.setIfInBounds_toArray, List.set_cons_zero, List.set_cons_succ])
        | (refine SeqS.take (v := ?_) (by first | assumption | trivial) (by kernel_rfl) (by decide +kernel) (by decide +kernel) (Or.inl ⟨by rfl, ?_⟩) ?_
           rotate_left
           focus
             intro w' hb'
             have d0 := v2 w' hb'
             go_simp
             with_reducible rfl
           simp only [Act.put, List.setIfInBounds_toArray, List.set_cons_zero, List.set_cons_succ])
        | (refine SeqS.take (v := ?_) (by first | assumption | trivial) (by kernel_rfl) (by decide +kernel) (by decide +kernel) (Or.inl ⟨by rfl, ?_⟩) ?_
           rotate_left
           focus
             intro w' hb'
             have d0 := FK.out w' (chain up2 hb')
             go_simp
             with_reducible rfl
           simp only [Act.put, List.setIfInBounds_toArray, List.set_cons_zero, List.set_cons_succ])
        | (refine SeqS.take (v := ?_) (by first | assumption | trivial) (by kernel_rfl) (by decide +kernel) (by decide +kernel) (Or.inl ⟨by rfl, ?_⟩) ?_
           rotate_left
           focus
             intro w' hb'
             have d0 := FC.out w' (chain up2 hb')
             go_simp
             with_reducible rfl
           simp only [Act.put, List.setIfInBounds_toArray, List.set_cons_zero, List.set_cons_succ])
        | (refine SeqS.take (v := undef) (by first | assumption | trivial) (by kernel_rfl) (by decide +kernel) (by decide +kernel) (Or.inr ⟨by rfl, rfl⟩) ?_
           simp only [Act.put, List.setIfInBounds_toArray, List.set_cons_zero, List.set_cons_succ])
        | (refine SeqS.take1 (v := ?_) (by first | assumption | trivial) (by kernel_rfl) (by decide +kernel) (by decide +kernel) (Or.inl ⟨by rfl, ?_⟩) ?_
           rotate_left
           focus
             intro w' hb'
             go_simp
             with_reducible rfl
           simp only [Act.put, List.setIfInBounds_toArray, List.set_cons_zero, List.set_cons_succ])
        | (refine SeqS.take1 (v := ?_) (by first | assumption | trivial) (by kernel_rfl) (by decide +kernel) (by decide +kernel) (Or.inl ⟨by rfl, ?_⟩) ?_
           rotate_left
           focus
             intro w' hb'
             have d0 := v2 w' hb'
             go_simp
             with_reducible rfl
           simp only [Act.put, List.setIfInBounds_toArray, List.set_cons_zero, List.set_cons_succ])
        | (refine SeqS.take1 (v := ?_) (by first | assumption | trivial) (by kernel_rfl) (by decide +kernel) (by decide +kernel) (Or.inl ⟨by rfl, ?_⟩) ?_
           rotate_left
           focus
             intro w' hb'
             have d0 := FK.out w' (chain up2 hb')
             go_simp
             with_reducible rfl
           simp only [Act.put, List.setIfInBounds_toArray, List.set_cons_zero, List.set_cons_succ])
        | (refine SeqS.take1 (v := ?_) (by first | assumption | trivial) (by kernel_rfl) (by decide +kernel) (by decide +kernel) (Or.inl ⟨by rfl, ?_⟩) ?_
           rotate_left
           focus
             intro w' hb'
             have d0 := FC.out w' (chain up2 hb')
             go_simp
             with_reducible rfl
           simp only [Act.put, List.setIfInBounds_toArray, List.set_cons_zero, List.set_cons_succ])
        | (refine SeqS.take1 (v := undef) (by first | assumption | trivial) (by kernel_rfl) (by decide +kernel) (by decide +kernel) (Or.inr ⟨by rfl, rfl⟩) ?_
           simp only [Act.put, List.setIfInBounds_toArray, List.set_cons_zero, List.set_cons_succ])
        | (refine SeqS.take2 (v := ?_) (by first | assumption | trivial) (by kernel_rfl) (by decide +kernel) (by decide +kernel) (Or.inl ⟨by rfl, ?_⟩) ?_
           rotate_left
           focus
             intro w' hb'
             go_simp
             with_reducible rfl
           simp only [Act.put, List.setIfInBounds_toArray, List.set_cons_zero, List.set_cons_succ])
        | (refine SeqS.take2 (v := ?_) (by first | assumption | trivial) (by kernel_rfl) (by decide +kernel) (by decide +kernel) (Or.inl ⟨by rfl, ?_⟩) ?_
           rotate_left
           focus
             intro w' hb'
             have d0 := v2 w' hb'
             go_simp
             with_reducible rfl
           simp only [Act.put, List.setIfInBounds_toArray, List.set_cons_zero, List.set_cons_succ])
        | (refine SeqS.take2 (v := ?_) (by first | assumption | trivial) (by kernel_rfl) (by decide +kernel) (by decide +kernel) (Or.inl ⟨by rfl, ?_⟩) ?_
           rotate_left
           focus
             intro w' hb'
             have d0 := FK.out w' (chain up2 hb')
             go_simp
             with_reducible rfl
           simp only [Act.put, List.setIfInBounds_toArray, List.set_cons_zero, List.set_cons_succ])
        | (refine SeqS.take2 (v := ?_) (by first | assumption | trivial) (by kernel_rfl) (by decide +kernel) (by decide +kernel) (Or.inl ⟨by rfl, ?_⟩) ?_
           rotate_left
           focus
             intro w' hb'
             have d0 := FC.out w' (chain up2 hb')
             go_simp
             with_reducible rfl
           simp only [Act.put, List.setIfInBounds_toArray, List.set_cons_zero, List.set_cons_succ])
        | (refine SeqS.take2 (v := undef) (by first | assumption | trivial) (by kernel_rfl) (by decide +kernel) (by decide +kernel) (Or.inr ⟨by rfl, rfl⟩) ?_
           simp only [Act.put, List.setIfInBounds_toArray, List.set_cons_zero, List.set_cons_succ]))
      refine SeqS.alone (by decide +kernel) (by rfl) (fun K hK => ?_)
      go_simp
      go_at_call 26
      refine (C3.out _ up2).mono ?_
      rintro q w3 ⟨a3, c3, rfl, v3, b3⟩
      go_simp
      have up3 : Below wr.heap.size wr w3 := chain up2 b3
      refine hK _ _ b3 ?_
      refine SeqS.mono (S' := fun w' => Below w3.heap.size w3 w') (fun w' h => chain b3 h) ?_
      have r3 : Below w3.heap.size w3 w3 := Below.refl _ _
      clear hK K r2 v2 up2 b2
      repeat (first
        | (refine SeqS.take (v := .agg (c).toArray) (by first | assumption | trivial) (by kernel_rfl) (by decide +kernel) (by decide +kernel) (yields_part (by rfl) 34 (.tmp 40) rfl rfl (fun w' h => FR.out w' (chain up3 h)) (crow)) ?_
           simp only [Act.put, List.setIfInBounds_toArray, List.set_cons_zero, List.set_cons_succ])
        | (refine SeqS.take (v := ?_) (by first | assumption | trivial) (by kernel_rfl) (by decide +kernel) (by decide +kernel) (Or.inl ⟨by rfl, ?_⟩) ?_
           rotate_left
           focus
             intro w' hb'
             go_simp
             with_reducible rfl
           simp only [Act.put, List.setIfInBounds_toArray, List.set_cons_zero, List.set_cons_succ])
        | (refine SeqS.take (v := ?_) (by first | assumption | trivial) (by kernel_rfl) (by decide +kernel) (by decide +kernel) (Or.inl ⟨by rfl, ?_⟩) ?_
           rotate_left
           focus
             intro w' hb'
             have d0 := v3 w' hb'
             go_simp
             with_reducible rfl
           simp only [Act.put, List.setIfInBounds_toArray, List.set_cons_zero, List.set_cons_succ])
        | (refine SeqS.take (v := undef) (by first | assumption | trivial) (by kernel_rfl) (by decide +kernel) (by decide +kernel) (Or.inr ⟨by rfl, rfl⟩) ?_
           simp only [Act.put, List.setIfInBounds_toArray, List.set_cons_zero, List.set_cons_succ])
        | (refine SeqS.take1 (v := .agg (c).toArray) (by first | assumption | trivial) (by kernel_rfl) (by decide +kernel) (by decide +kernel) (yields_part (by rfl) 34 (.tmp 40) rfl rfl (fun w' h => FR.out w' (chain up3 h)) (crow)) ?_
           simp only [Act.put, List.setIfInBounds_toArray, List.set_cons_zero, List.set_cons_succ])
        | (refine SeqS.take1 (v := ?_) (by first | assumption | trivial) (by kernel_rfl) (by decide +kernel) (by decide +kernel) (Or.inl ⟨by rfl, ?_⟩) ?_
           rotate_left
           focus
             intro w' hb'
             go_simp
             with_reducible rfl
           simp only [Act.put, List.setIfInBounds_toArray, List.set_cons_zero, List.set_cons_succ])
        | (refine SeqS.take1 (v := ?_) (by first | assumption | trivial) (by kernel_rfl) (by decide +kernel) (by decide +kernel) (Or.inl ⟨by rfl, ?_⟩) ?_
           rotate_left
           focus
             intro w' hb'
             have d0 := v3 w' hb'
             go_simp
             with_reducible rfl
           simp only [Act.put, List.setIfInBounds_toArray, List.set_cons_zero, List.set_cons_succ])
        | (refine SeqS.take1 (v := undef) (by first | assumption | trivial) (by kernel_rfl) (by decide +kernel) (by decide +kernel) (Or.inr ⟨by rfl, rfl⟩) ?_
           simp only [Act.put, List.setIfInBounds_toArray, List.set_cons_zero, List.set_cons_succ])
        | (refine SeqS.take2 (v := .agg (c).toArray) (by first | assumption | trivial) (by kernel_rfl) (by decide +kernel) (by decide +kernel) (yields_part (by rfl) 34 (.tmp 40) rfl rfl (fun w' h => FR.out w' (chain up3 h)) (crow)) ?_
           simp only [Act.put, List.setIfInBounds_toArray, List.set_cons_zero, List.set_cons_succ])
        | (refine SeqS.take2 (v := ?_) (by first | assumption | trivial) (by kernel_rfl) (by decide +kernel) (by decide +kernel) (Or.inl ⟨by rfl, ?_⟩) ?_
           rotate_left
           focus
             intro w' hb'
             go_simp
             with_reducible rfl
           simp only [Act.put, List.setIfInBounds_toArray, List.set_cons_zero, List.set_cons_succ])
        | (refine SeqS.take2 (v := ?_) (by first | assumption | trivial) (by kernel_rfl) (by decide +kernel) (by decide +kernel) (Or.inl ⟨by rfl, ?_⟩) ?_
           rotate_left
           focus
             intro w' hb'
             have d0 := v3 w' hb'
             go_simp
             with_reducible rfl
           simp only [Act.put, List.setIfInBounds_toArray, List.set_cons_zero, List.set_cons_succ])
        | (refine SeqS.take2 (v := undef) (by first | assumption | trivial) (by kernel_rfl) (by decide +kernel) (by decide +kernel) (Or.inr ⟨by rfl, rfl⟩) ?_
           simp only [Act.put, List.setIfInBounds_toArray, List.set_cons_zero, List.set_cons_succ]))
      refine SeqS.alone (by decide +kernel) (by rfl) (fun K hK => ?_)
      go_simp
      go_at_call 27
      refine (C4.out _ up3).mono ?_
      rintro e w4 ⟨rfl, b4⟩
      go_simp
      have S4 : Below w3.heap.size w3 w4 := r3.trans (b4.mono r3.size)
      refine hK _ _ S4 ?_
      clear hK K
      repeat (first
        | (refine SeqS.take (v := .agg (c).toArray) (by first | assumption | trivial) (by kernel_rfl) (by decide +kernel) (by decide +kernel) (yields_part (by rfl) 34 (.tmp 40) rfl rfl (fun w' h => FR.out w' (chain up3 h)) (crow)) ?_
           simp only [Act.put, List.setIfInBounds_toArray, List.set_cons_zero, List.set_cons_succ])
        | (refine SeqS.take (v := ?_) (by first | assumption | trivial) (by kernel_rfl) (by decide +kernel) (by decide +kernel) (Or.inl ⟨by rfl, ?_⟩) ?_
           rotate_left
           focus
             intro w' hb'
             go_simp
             with_reducible rfl
           simp only [Act.put, List.setIfInBounds_toArray, List.set_cons_zero, List.set_cons_succ])
        | (refine SeqS.take (v := undef) (by first | assumption | trivial) (by kernel_rfl) (by decide +kernel) (by decide +kernel) (Or.inr ⟨by rfl, rfl⟩) ?_
           simp only [Act.put, List.setIfInBounds_toArray, List.set_cons_zero, List.set_cons_succ])
        | (refine SeqS.take1 (v := .agg (c).toArray) (by first | assumption | trivial) (by kernel_rfl) (by decide +kernel) (by decide +kernel) (yields_part (by rfl) 34 (.tmp 40) rfl rfl (fun w' h => FR.out w' (chain up3 h)) (crow)) ?_
           simp only [Act.put, List.setIfInBounds_toArray, List.set_cons_zero, List.set_cons_succ])
        | (refine SeqS.take1 (v := ?_) (by first | assumption | trivial) (by kernel_rfl) (by decide +kernel) (by decide +kernel) (Or.inl ⟨by rfl, ?_⟩) ?_
           rotate_left
           focus
             intro w' hb'
             go_simp
             with_reducible rfl
           simp only [Act.put, List.setIfInBounds_toArray, List.set_cons_zero, List.set_cons_succ])
        | (refine SeqS.take1 (v := undef) (by first | assumption | trivial) (by kernel_rfl) (by decide +kernel) (by decide +kernel) (Or.inr ⟨by rfl, rfl⟩) ?_
           simp only [Act.put, List.setIfInBounds_toArray, List.set_cons_zero, List.set_cons_succ])
        | (refine SeqS.take2 (v := .agg (c).toArray) (by first | assumption | trivial) (by kernel_rfl) (by decide +kernel) (by decide +kernel) (yields_part (by rfl) 34 (.tmp 40) rfl rfl (fun w' h => FR.out w' (chain up3 h)) (crow)) ?_
           simp only [Act.put, List.setIfInBounds_toArray, List.set_cons_zero, List.set_cons_succ])
        | (refine SeqS.take2 (v := ?_) (by first | assumption | trivial) (by kernel_rfl) (by decide +kernel) (by decide +kernel) (Or.inl ⟨by rfl, ?_⟩) ?_
           rotate_left
           focus
             intro w' hb'
             go_simp
             with_reducible rfl
           simp only [Act.put, List.setIfInBounds_toArray, List.set_cons_zero, List.set_cons_succ])
        | (refine SeqS.take2 (v := undef) (by first | assumption | trivial) (by kernel_rfl) (by decide +kernel) (by decide +kernel) (Or.inr ⟨by rfl, rfl⟩) ?_
           simp only [Act.put, List.setIfInBounds_toArray, List.set_cons_zero, List.set_cons_succ]))
      refine SeqS.alone (by decide +kernel) (by rfl) (fun K hK => ?_)
      go_simp
      go_at_call 28
      refine (C5.out _ (chain up3 S4)).mono ?_
      rintro e w5 ⟨rfl, b5⟩
      go_simp
      have S5 : Below w3.heap.size w3 w5 := S4.trans (b5.mono S4.size)
      refine hK _ _ S5 ?_
      clear hK K
      repeat (first
        | (refine SeqS.take (v := .agg (c).toArray) (by first | assumption | trivial) (by kernel_rfl) (by decide +kernel) (by decide +kernel) (yields_part (by rfl) 34 (.tmp 51) rfl rfl (fun w' h => FR.out w' (chain up3 h)) (crow)) ?_
           simp only [Act.put, List.setIfInBounds_toArray, List.set_cons_zero, List.set_cons_succ])
        | (refine SeqS.take (v := ?_) (by first | assumption | trivial) (by kernel_rfl) (by decide +kernel) (by decide +kernel) (Or.inl ⟨by rfl, ?_⟩) ?_
           rotate_left
           focus
             intro w' hb'
             go_simp
             with_reducible rfl
           simp only [Act.put, List.setIfInBounds_toArray, List.set_cons_zero, List.set_cons_succ])
        | (refine SeqS.take (v := undef) (by first | assumption | trivial) (by kernel_rfl) (by decide +kernel) (by decide +kernel) (Or.inr ⟨by rfl, rfl⟩) ?_
           simp only [Act.put, List.setIfInBounds_toArray, List.set_cons_zero, List.set_cons_succ])
        | (refine SeqS.take1 (v := .agg (c).toArray) (by first | assumption | trivial) (by kernel_rfl) (by decide +kernel) (by decide +kernel) (yields_part (by rfl) 34 (.tmp 51) rfl rfl (fun w' h => FR.out w' (chain up3 h)) (crow)) ?_
           simp only [Act.put, List.setIfInBounds_toArray, List.set_cons_zero, List.set_cons_succ])
        | (refine SeqS.take1 (v := ?_) (by first | assumption | trivial) (by kernel_rfl) (by decide +kernel) (by decide +kernel) (Or.inl ⟨by rfl, ?_⟩) ?_
           rotate_left
           focus
             intro w' hb'
             go_simp
             with_reducible rfl
           simp only [Act.put, List.setIfInBounds_toArray, List.set_cons_zero, List.set_cons_succ])
        | (refine SeqS.take1 (v := undef) (by first | assumption | trivial) (by kernel_rfl) (by decide +kernel) (by decide +kernel) (Or.inr ⟨by rfl, rfl⟩) ?_
           simp only [Act.put, List.setIfInBounds_toArray, List.set_cons_zero, List.set_cons_succ])
        | (refine SeqS.take2 (v := .agg (c).toArray) (by first | assumption | trivial) (by kernel_rfl) (by decide +kernel) (by decide +kernel) (yields_part (by rfl) 34 (.tmp 51) rfl rfl (fun w' h => FR.out w' (chain up3 h)) (crow)) ?_
           simp only [Act.put, List.setIfInBounds_toArray, List.set_cons_zero, List.set_cons_succ])
        | (refine SeqS.take2 (v := ?_) (by first | assumption | trivial) (by kernel_rfl) (by decide +kernel) (by decide +kernel) (Or.inl ⟨by rfl, ?_⟩) ?_
           rotate_left
           focus
             intro w' hb'
             go_simp
             with_reducible rfl
           simp only [Act.put, List.setIfInBounds_toArray, List.set_cons_zero, List.set_cons_succ])
        | (refine SeqS.take2 (v := undef) (by first | assumption | trivial) (by kernel_rfl) (by decide +kernel) (by decide +kernel) (Or.inr ⟨by rfl, rfl⟩) ?_
           simp only [Act.put, List.setIfInBounds_toArray, List.set_cons_zero, List.set_cons_succ]))
      refine SeqS.alone (by decide +kernel) (by rfl) (fun K hK => ?_)
      go_simp
      go_at_call 14
      refine (C6.out _ (chain up3 S5)).mono ?_
      rintro e w6 ⟨rfl, b6⟩
      go_simp
      have S6 : Below w3.heap.size w3 w6 := S5.trans (b6.mono S5.size)
      refine hK _ _ S6 ?_
      clear hK K
      repeat (first
        | (refine SeqS.take (v := .agg (c).toArray) (by first | assumption | trivial) (by kernel_rfl) (by decide +kernel) (by decide +kernel) (yields_part (by rfl) 34 (.tmp 51) rfl rfl (fun w' h => FR.out w' (chain up3 h)) (crow)) ?_
           simp only [Act.put, List.setIfInBounds_toArray, List.set_cons_zero, List.set_cons_succ])
        | (refine SeqS.take (v := ?_) (by first | assumption | trivial) (by kernel_rfl) (by decide +kernel) (by decide +kernel) (Or.inl ⟨by rfl, ?_⟩) ?_
           rotate_left
           focus
             intro w' hb'
             go_simp
             with_reducible rfl
           simp only [Act.put, List.setIfInBounds_toArray, List.set_cons_zero, List.set_cons_succ])
        | (refine SeqS.take (v := undef) (by first | assumption | trivial) (by kernel_rfl) (by decide +kernel) (by decide +kernel) (Or.inr ⟨by rfl, rfl⟩) ?_
           simp only [Act.put, List.setIfInBounds_toArray, List.set_cons_zero, List.set_cons_succ])
        | (refine SeqS.take1 (v := .agg (c).toArray) (by first | assumption | trivial) (by kernel_rfl) (by decide +kernel) (by decide +kernel) (yields_part (by rfl) 34 (.tmp 51) rfl rfl (fun w' h => FR.out w' (chain up3 h)) (crow)) ?_
           simp only [Act.put, List.setIfInBounds_toArray, List.set_cons_zero, List.set_cons_succ])
        | (refine SeqS.take1 (v := ?_) (by first | assumption | trivial) (by kernel_rfl) (by decide +kernel) (by decide +kernel) (Or.inl ⟨by rfl, ?_⟩) ?_
           rotate_left
           focus
             intro w' hb'
             go_simp
             with_reducible rfl
           simp only [Act.put, List.setIfInBounds_toArray, List.set_cons_zero, List.set_cons_succ])
        | (refine SeqS.take1 (v := undef) (by first | assumption | trivial) (by kernel_rfl) (by decide +kernel) (by decide +kernel) (Or.inr ⟨by rfl, rfl⟩) ?_
           simp only [Act.put, List.setIfInBounds_toArray, List.set_cons_zero, List.set_cons_succ])
        | (refine SeqS.take2 (v := .agg (c).toArray) (by first | assumption | trivial) (by kernel_rfl) (by decide +kernel) (by decide +kernel) (yields_part (by rfl) 34 (.tmp 51) rfl rfl (fun w' h => FR.out w' (chain up3 h)) (crow)) ?_
           simp only [Act.put, List.setIfInBounds_toArray, List.set_cons_zero, List.set_cons_succ])
        | (refine SeqS.take2 (v := ?_) (by first | assumption | trivial) (by kernel_rfl) (by decide +kernel) (by decide +kernel) (Or.inl ⟨by rfl, ?_⟩) ?_
           rotate_left
           focus
             intro w' hb'
             go_simp
             with_reducible rfl
           simp only [Act.put, List.setIfInBounds_toArray, List.set_cons_zero, List.set_cons_succ])
        | (refine SeqS.take2 (v := undef) (by first | assumption | trivial) (by kernel_rfl) (by decide +kernel) (by decide +kernel) (Or.inr ⟨by rfl, rfl⟩) ?_
           simp only [Act.put, List.setIfInBounds_toArray, List.set_cons_zero, List.set_cons_succ]))
      refine SeqS.alone (by decide +kernel) (by rfl) (fun K hK => ?_)
      go_simp
      go_at_call 25
      refine (C2.out _ (chain up3 S6)).mono ?_
      rintro e w7 ⟨a7, c7, rfl, _, b7⟩
      go_simp
      have S7 : Below w3.heap.size w3 w7 := S6.trans (b7.mono S6.size)
      refine hK _ _ S7 ?_
      clear hK K
      repeat (first
        | (refine SeqS.take (v := ?_) (by first | assumption | trivial) (by kernel_rfl) (by decide +kernel) (by decide +kernel) (Or.inl ⟨by rfl, ?_⟩) ?_
           rotate_left
           focus
             intro w' hb'
             go_simp
             with_reducible rfl
           simp only [Act.put, List.setIfInBounds_toArray, List.set_cons_zero, List.set_cons_succ])
        | (refine SeqS.take (v := undef) (by first | assumption | trivial) (by kernel_rfl) (by decide +kernel) (by decide +kernel) (Or.inr ⟨by rfl, rfl⟩) ?_
           simp only [Act.put, List.setIfInBounds_toArray, List.set_cons_zero, List.set_cons_succ])
        | (refine SeqS.take1 (v := ?_) (by first | assumption | trivial) (by kernel_rfl) (by decide +kernel) (by decide +kernel) (Or.inl ⟨by rfl, ?_⟩) ?_
           rotate_left
           focus
             intro w' hb'
             go_simp
             with_reducible rfl
           simp only [Act.put, List.setIfInBounds_toArray, List.set_cons_zero, List.set_cons_succ])
        | (refine SeqS.take1 (v := undef) (by first | assumption | trivial) (by kernel_rfl) (by decide +kernel) (by decide +kernel) (Or.inr ⟨by rfl, rfl⟩) ?_
           simp only [Act.put, List.setIfInBounds_toArray, List.set_cons_zero, List.set_cons_succ])
        | (refine SeqS.take2 (v := ?_) (by first | assumption | trivial) (by kernel_rfl) (by decide +kernel) (by decide +kernel) (Or.inl ⟨by rfl, ?_⟩) ?_
           rotate_left
           focus
             intro w' hb'
             go_simp
             with_reducible rfl
           simp only [Act.put, List.setIfInBounds_toArray, List.set_cons_zero, List.set_cons_succ])
        | (refine SeqS.take2 (v := undef) (by first | assumption | trivial) (by kernel_rfl) (by decide +kernel) (by decide +kernel) (Or.inr ⟨by rfl, rfl⟩) ?_
           simp only [Act.put, List.setIfInBounds_toArray, List.set_cons_zero, List.set_cons_succ]))
      refine SeqS.done (by decide +kernel) ?_
      have hBz := hBH.out.trans ((chain up3 S7).mono hBH.out.size)
      clear b4 b5 b6 b7 S4 S5 S6 S7 r3 up3 C1 C2 C3 C4 C5 C6 FK FC FR
      go_wp2_with fail
      exact ⟨⟨0 + 1, rfl, by decide, hBz⟩, by decide⟩
    · have hT0 := h1H.out.keep hB
      obtain ⟨c, ka, kc, hF⟩ := hT0.file 1 (by decide)
      have hfo := (okH.out.f 1).fok hTH.out
      have cl := hF.l
      have crow : IsRow Try.prog 34 c.length := by rw [cl]; exact rowRf
      have bk := b3H.out.keep hB lt3.out
      obtain ⟨s, hs⟩ : ∃ s, strOfNums (D.f 1).held = s := ⟨_, rfl⟩
      obtain ⟨n, hn⟩ : ∃ n, (D.f 1).held.length = n := ⟨_, rfl⟩
      obtain ⟨t, ht⟩ : ∃ s, strOfNums (D.f 1).K = s := ⟨_, rfl⟩
      obtain ⟨m, hm⟩ : ∃ n, (D.f 1).K.length = n := ⟨_, rfl⟩
      obtain ⟨u, hu⟩ : ∃ n, (D.f 1).units = n := ⟨_, rfl⟩
      have b4 : Below wr.heap.size wr wr.drew := (Below.refl _ _).drew
      have C1 := Lib.hid (fun w' (h : Below wr.heap.size wr w') => l_read (hT0.keep h) okH.out 1 (by decide) 1 rfl s hs n hn)
      have C2 := Lib.hid (fun w' (h : Below wr.heap.size wr w') => l_holds (hF.keep h) hfo s hs n hn)
      have C3 := Lib.hid (fun w' (h : Below wr.heap.size wr w') => l_kept (hT0.keep h) okH.out 1 (by decide) 1 rfl t ht m hm)
      have C4 := Lib.hid (fun w' (h : Below wr.heap.size wr w') => l_units (hT0.keep h) okH.out 1 (by decide) 1 rfl u hu)
      have C5 := Lib.hid (fun w' (h : Below wr.heap.size wr w') => l_funits (hF.keep h) hfo u hu)
      have C6 := Lib.hid (fun w' (h : Below wr.heap.size wr w') => l_size (hT0.keep h) okH.out 1 (by decide) 1 rfl n hn)
      have hk0 := hF.k
      have hcv := hF.cv
      rw [hm] at hk0 hcv
      rw [ht] at hcv
      have FK := Lib.hid (fun w' (h : Below wr.heap.size wr w') => show w'.cell? ⟨G, 2, none⟩ = some (.slice ka m kc) from ((bk.keep h bk.lt).cell 2).trans hk0)
      have FC := Lib.hid (fun w' (h : Below wr.heap.size wr w') => hcv w' h)
      have FR := Lib.hid (fun w' (h : Below wr.heap.size wr w') => show w'.rangeAt G 2 c from (bk.keep h bk.lt).range 2 c (fun j v hj => hF.at' j v hj))
      have hss : (s.toList == s.toList) = true := beq_self_eq_true _
      have htt : (t.toList == t.toList) = true := beq_self_eq_true _
      have hB5 := hB.trans (b4.mono hB.size)
      have hBH := Lib.hid hB
      clear hT0 hF hfo bk hs hn ht hm hu hk0 hcv hB cl
      go_wp2_with fail
      refine region_seqS (fun w' => Below wr.heap.size wr w') (by kernel_rfl) b4 ?_
      simp only [pairs, Nat.reduceAdd]
      repeat (first
        | (refine SeqS.take (v := .agg (c).toArray) (by first | assumption | trivial) (by kernel_rfl) (by decide +kernel) (by decide +kernel) (yields_part (by rfl) 34 (.tmp 16) rfl rfl (fun w' h => FR.out w' h) (crow)) ?_
           simp only [Act.put, List.setIfInBounds_toArray, List.set_cons_zero, List.set_cons_succ])
        | (refine SeqS.take (v := ?_) (by first | assumption | trivial) (by kernel_rfl) (by decide +kernel) (by decide +kernel) (Or.inl ⟨by rfl, ?_⟩) ?_
           rotate_left
           focus
             intro w' hb'
             go_simp
             with_reducible rfl
           simp only [Act.put, List.setIfInBounds_toArray, List.set_cons_zero, List.set_cons_succ])
        | (refine SeqS.take (v := undef) (by first | assumption | trivial) (by kernel_rfl) (by decide +kernel) (by decide +kernel) (Or.inr ⟨by rfl, rfl⟩) ?_
           simp only [Act.put, List.setIfInBounds_toArray, List.set_cons_zero, List.set_cons_succ])
        | (refine SeqS.take1 (v := .agg (c).toArray) (by first | assumption | trivial) (by kernel_rfl) (by decide +kernel) (by decide +kernel) (yields_part (by rfl) 34 (.tmp 16) rfl rfl (fun w' h => FR.out w' h) (crow)) ?_
           simp only [Act.put, List.setIfInBounds_toArray, List.set_cons_zero, List.set_cons_succ])
        | (refine SeqS.take1 (v := ?_) (by first | assumption | trivial) (by kernel_rfl) (by decide +kernel) (by decide +kernel) (Or.inl ⟨by rfl, ?_⟩) ?_
           rotate_left
           focus
             intro w' hb'
             go_simp
             with_reducible rfl
           simp only [Act.put, List.setIfInBounds_toArray, List.set_cons_zero, List.set_cons_succ])
        | (refine SeqS.take1 (v := undef) (by first | assumption | trivial) (by kernel_rfl) (by decide +kernel) (by decide +kernel) (Or.inr ⟨by rfl, rfl⟩) ?_
           simp only [Act.put, List.setIfInBounds_toArray, List.set_cons_zero, List.set_cons_succ])
        | (refine SeqS.take2 (v := .agg (c).toArray) (by first | assumption | trivial) (by kernel_rfl) (by decide +kernel) (by decide +kernel) (yields_part (by rfl) 34 (.tmp 16) rfl rfl (fun w' h => FR.out w' h) (crow)) ?_
           simp only [Act.put, List.setIfInBounds_toArray, List.set_cons_zero, List.set_cons_succ])
        | (refine SeqS.take2 (v := ?_) (by first | assumption | trivial) (by kernel_rfl) (by decide +kernel) (by decide +kernel) (Or.inl ⟨by rfl, ?_⟩) ?_
           rotate_left
           focus
             intro w' hb'
             go_simp
             with_reducible rfl
           simp only [Act.put, List.setIfInBounds_toArray, List.set_cons_zero, List.set_cons_succ])
        | (refine SeqS.take2 (v := undef) (by first | assumption | trivial) (by kernel_rfl) (by decide +kernel) (by decide +kernel) (Or.inr ⟨by rfl, rfl⟩) ?_
           simp only [Act.put, List.setIfInBounds_toArray, List.set_cons_zero, List.set_cons_succ]))
      refine SeqS.alone (by decide +kernel) (by rfl) (fun K hK => ?_)
      go_simp
      go_at_call 17
      refine (C1.out _ b4).mono ?_
      rintro q w1 ⟨a1, c1, rfl, v1, b1⟩
      go_simp
      have up1 : Below wr.heap.size wr w1 := chain b4 b1
      refine hK _ _ up1 ?_
      refine SeqS.mono (S' := fun w' => Below w1.heap.size w1 w') (fun w' h => chain up1 h) ?_
      have r1 : Below w1.heap.size w1 w1 := Below.refl _ _
      clear hK K b1
      repeat (first
        | (refine SeqS.take (v := ?_) (by first | assumption | trivial) (by kernel_rfl) (by decide +kernel) (by decide +kernel) (Or.inl ⟨by rfl, ?_⟩) ?_
           rotate_left
           focus
             intro w' hb'
             go_simp
             with_reducible rfl
           simp only [Act.put, List.setIfInBounds_toArray, List.set_cons_zero, List.set_cons_succ])
        | (refine SeqS.take (v := ?_) (by first | assumption | trivial) (by kernel_rfl) (by decide +kernel) (by decide +kernel) (Or.inl ⟨by rfl, ?_⟩) ?_
           rotate_left
           focus
             intro w' hb'
             have d0 := v1 w' hb'
             go_simp
             with_reducible rfl
           simp only [Act.put, List.setIfInBounds_toArray, List.set_cons_zero, List.set_cons_succ])
        | (refine SeqS.take (v := undef) (by first | assumption | trivial) (by kernel_rfl) (by decide +kernel) (by decide +kernel) (Or.inr ⟨by rfl, rfl⟩) ?_
           simp only [Act.put, List.setIfInBounds_toArray, List.set_cons_zero, List.set_cons_succ])
        | (refine SeqS.take1 (v := ?_) (by first | assumption | trivial) (by kernel_rfl) (by decide +kernel) (by decide +kernel) (Or.inl ⟨by rfl, ?_⟩) ?_
           rotate_left
           focus
             intro w' hb'
             go_simp
             with_reducible rfl
           simp only [Act.put, List.setIfInBounds_toArray, List.set_cons_zero, List.set_cons_succ])
        | (refine SeqS.take1 (v := ?_) (by first | assumption | trivial) (by kernel_rfl) (by decide +kernel) (by decide +kernel) (Or.inl ⟨by rfl, ?_⟩) ?_
           rotate_left
           focus
             intro w' hb'
             have d0 := v1 w' hb'
             go_simp
             with_reducible rfl
           simp only [Act.put, List.setIfInBounds_toArray, List.set_cons_zero, List.set_cons_succ])
        | (refine SeqS.take1 (v := undef) (by first | assumption | trivial) (by kernel_rfl) (by decide +kernel) (by decide +kernel) (Or.inr ⟨by rfl, rfl⟩) ?_
           simp only [Act.put, List.setIfInBounds_toArray, List.set_cons_zero, List.set_cons_succ])
        | (refine SeqS.take2 (v := ?_) (by first | assumption | trivial) (by kernel_rfl) (by decide +kernel) (by decide +kernel) (Or.inl ⟨by rfl, ?_⟩) ?_
           rotate_left
           focus
             intro w' hb'
             go_simp
             with_reducible rfl
           simp only [Act.put, List.setIfInBounds_toArray, List.set_cons_zero, List.set_cons_succ])
        | (refine SeqS.take2 (v := ?_) (by first | assumption | trivial) (by kernel_rfl) (by decide +kernel) (by decide +kernel) (Or.inl ⟨by rfl, ?_⟩) ?_
           rotate_left
           focus
             intro w' hb'
             have d0 := v1 w' hb'
             go_simp
             with_reducible rfl
           simp only [Act.put, List.setIfInBounds_toArray, List.set_cons_zero, List.set_cons_succ])
        | (refine SeqS.take2 (v := undef) (by first | assumption | trivial) (by kernel_rfl) (by decide +kernel) (by decide +kernel) (Or.inr ⟨by rfl, rfl⟩) ?_
           simp only [Act.put, List.setIfInBounds_toArray, List.set_cons_zero, List.set_cons_succ]))
      refine SeqS.alone (by decide +kernel) (by rfl) (fun K hK => ?_)
      go_simp
      go_at_call 25
      refine (C2.out _ up1).mono ?_
      rintro q w2 ⟨a2, c2, rfl, v2, b2⟩
      go_simp
      have up2 : Below wr.heap.size wr w2 := chain up1 b2
      refine hK _ _ b2 ?_
      refine SeqS.mono (S' := fun w' => Below w2.heap.size w2 w') (fun w' h => chain b2 h) ?_
      have r2 : Below w2.heap.size w2 w2 := Below.refl _ _
      clear hK K r1 v1 up1
      repeat (first
        | (refine SeqS.take (v := ?_) (by first | assumption | trivial) (by kernel_rfl) (by decide +kernel) (by decide +kernel) (Or.inl ⟨by rfl, ?_⟩) ?_
           rotate_left
           focus
             intro w' hb'
             go_simp
             with_reducible rfl
           simp only [Act.put, List.setIfInBounds_toArray, List.set_cons_zero, List.set_cons_succ])
        | (refine SeqS.take (v := ?_) (by first | assumption | trivial) (by kernel_rfl) (by decide +kernel) (by decide +kernel) (Or.inl ⟨by rfl, ?_⟩) ?_
           rotate_left
           focus
             intro w' hb'
             have d0 := v2 w' hb'
             go_simp
             with_reducible rfl
           simp only [Act.put, List.setIfInBounds_toArray, List.set_cons_zero, List.set_cons_succ])
        | (refine SeqS.take (v := ?_) (by first | assumption | trivial) (by kernel_rfl) (by decide +kernel) (by decide +kernel) (Or.inl ⟨by rfl, ?_⟩) ?_
           rotate_left
           focus
             intro w' hb'
             have d0 := FK.out w' (chain up2 hb')
             go_simp
             with_reducible rfl
           simp only [Act.put, List.setIfInBounds_toArray, List.set_cons_zero, List.set_cons_succ])
        | (refine SeqS.take (v := ?_) (by first | assumption | trivial) (by kernel_rfl) (by decide +kernel) (by decide +kernel) (Or.inl ⟨by rfl, ?_⟩) ?_
           rotate_left
           focus
             intro w' hb'
             have d0 := FC.out w' (chain up2 hb')
             go_simp
             with_reducible rfl
           simp only [Act.put, List.setIfInBounds_toArray, List.set_cons_zero, List.set_cons_succ])
        | (refine SeqS.take (v := undef) (by first | assumption | trivial) (by kernel_rfl) (by decide +kernel) (by decide +kernel) (Or.inr ⟨by rfl, rfl⟩) ?_
           simp only [Act.put, List.setIfInBounds_toArray, List.set_cons_zero, List.set_cons_succ])
        | (refine SeqS.take1 (v := ?_) (by first | assumption | trivial) (by kernel_rfl) (by decide +kernel) (by decide +kernel) (Or.inl ⟨by rfl, ?_⟩) ?_
           rotate_left
           focus
             intro w' hb'
             go_simp
             with_reducible rfl
           simp only [Act.put, List.setIfInBounds_toArray, List.set_cons_zero, List.set_cons_succ])
        | (refine SeqS.take1 (v := ?_) (by first | assumption | trivial) (by kernel_rfl) (by decide +kernel) (by decide +kernel) (Or.inl ⟨by rfl, ?_⟩) ?_
           rotate_left
           focus
             intro w' hb'
             have d0 := v2 w' hb'
             go_simp
             with_reducible rfl
           simp only [Act.put, List.setIfInBounds_toArray, List.set_cons_zero, List.set_cons_succ])
        | (refine SeqS.take1 (v := ?_) (by first | assumption | trivial) (by kernel_rfl) (by decide +kernel) (by decide +kernel) (Or.inl ⟨by rfl, ?_⟩) ?_
           rotate_left
           focus
             intro w' hb'
             have d0 := FK.out w' (chain up2 hb')
             go_simp
             with_reducible rfl
           simp only [Act.put, List.setIfInBounds_toArray, List.set_cons_zero, List.set_cons_succ])
        | (refine SeqS.take1 (v := ?_) (by first | assumption | trivial) (by kernel_rfl) (by decide +kernel) (by decide +kernel) (Or.inl ⟨by rfl, ?_⟩) ?_
           rotate_left
           focus
             intro w' hb'
             have d0 := FC.out w' (chain up2 hb')
             go_simp
             with_reducible rfl
           simp only [Act.put, List.setIfInBounds_toArray, List.set_cons_zero, List.set_cons_succ])
        | (refine SeqS.take1 (v := undef) (by first | assumption | trivial) (by kernel_rfl) (by decide +kernel) (by decide +kernel) (Or.inr ⟨by rfl, rfl⟩) ?_
           simp only [Act.put, List.setIfInBounds_toArray, List.set_cons_zero, List.set_cons_succ])
        | (refine SeqS.take2 (v := ?_) (by first | assumption | trivial) (by kernel_rfl) (by decide +kernel) (by decide +kernel) (Or.inl ⟨by rfl, ?_⟩) ?_
           rotate_left
           focus
             intro w' hb'
             go_simp
             with_reducible rfl
           simp only [Act.put, List.setIfInBounds_toArray, List.set_cons_zero, List.set_cons_succ])
        | (refine SeqS.take2 (v := ?_) (by first | assumption | trivial) (by kernel_rfl) (by decide +kernel) (by decide +kernel) (Or.inl ⟨by rfl, ?_⟩) ?_
           rotate_left
           focus
             intro w' hb'
             have d0 := v2 w' hb'
             go_simp
             with_reducible rfl
           simp only [Act.put, List.setIfInBounds_toArray, List.set_cons_zero, List.set_cons_succ])
        | (refine SeqS.take2 (v := ?_) (by first | assumption | trivial) (by kernel_rfl) (by decide +kernel) (by decide +kernel) (Or.inl ⟨by rfl, ?_⟩) ?_
           rotate_left
           focus
             intro w' hb'
             have d0 := FK.out w' (chain up2 hb')
             go_simp
             with_reducible rfl
           simp only [Act.put, List.setIfInBounds_toArray, List.set_cons_zero, List.set_cons_succ])
        | (refine SeqS.take2 (v := ?_) (by first | assumption | trivial) (by kernel_rfl) (by decide +kernel) (by decide +kernel) (Or.inl ⟨by rfl, ?_⟩) ?_
           rotate_left
           focus
             intro w' hb'
             have d0 := FC.out w' (chain up2 hb')
             go_simp
             with_reducible rfl
           simp only [Act.put, List.setIfInBounds_toArray, List.set_cons_zero, List.set_cons_succ])
        | (refine SeqS.take2 (v := undef) (by first | assumption | trivial) (by kernel_rfl) (by decide +kernel) (by decide +kernel) (Or.inr ⟨by rfl, rfl⟩) ?_
           simp only [Act.put, List.setIfInBounds_toArray, List.set_cons_zero, List.set_cons_succ]))
      refine SeqS.alone (by decide +kernel) (by rfl) (fun K hK => ?_)
      go_simp
      go_at_call 26
      refine (C3.out _ up2).mono ?_
      rintro q w3 ⟨a3, c3, rfl, v3, b3⟩
      go_simp
      have up3 : Below wr.heap.size wr w3 := chain up2 b3
      refine hK _ _ b3 ?_
      refine SeqS.mono (S' := fun w' => Below w3.heap.size w3 w') (fun w' h => chain b3 h) ?_
      have r3 : Below w3.heap.size w3 w3 := Below.refl _ _
      clear hK K r2 v2 up2 b2
      repeat (first
        | (refine SeqS.take (v := .agg (c).toArray) (by first | assumption | trivial) (by kernel_rfl) (by decide +kernel) (by decide +kernel) (yields_part (by rfl) 34 (.tmp 40) rfl rfl (fun w' h => FR.out w' (chain up3 h)) (crow)) ?_
           simp only [Act.put, List.setIfInBounds_toArray, List.set_cons_zero, List.set_cons_succ])
        | (refine SeqS.take (v := ?_) (by first | assumption | trivial) (by kernel_rfl) (by decide +kernel) (by decide +kernel) (Or.inl ⟨by rfl, ?_⟩) ?_
           rotate_left
           focus
             intro w' hb'
             go_simp
             with_reducible rfl
           simp only [Act.put, List.setIfInBounds_toArray, List.set_cons_zero, List.set_cons_succ])
        | (refine SeqS.take (v := ?_) (by first | assumption | trivial) (by kernel_rfl) (by decide +kernel) (by decide +kernel) (Or.inl ⟨by rfl, ?_⟩) ?_
           rotate_left
           focus
             intro w' hb'
             have d0 := v3 w' hb'
             go_simp
             with_reducible rfl
           simp only [Act.put, List.setIfInBounds_toArray, List.set_cons_zero, List.set_cons_succ])
        | (refine SeqS.take (v := undef) (by first | assumption | trivial) (by kernel_rfl) (by decide +kernel) (by decide +kernel) (Or.inr ⟨by rfl, rfl⟩) ?_
           simp only [Act.put, List.setIfInBounds_toArray, List.set_cons_zero, List.set_cons_succ])
        | (refine SeqS.take1 (v := .agg (c).toArray) (by first | assumption | trivial) (by kernel_rfl) (by decide +kernel) (by decide +kernel) (yields_part (by rfl) 34 (.tmp 40) rfl rfl (fun w' h => FR.out w' (chain up3 h)) (crow)) ?_
           simp only [Act.put, List.setIfInBounds_toArray, List.set_cons_zero, List.set_cons_succ])
        | (refine SeqS.take1 (v := ?_) (by first | assumption | trivial) (by kernel_rfl) (by decide +kernel) (by decide +kernel) (Or.inl ⟨by rfl, ?_⟩) ?_
           rotate_left
           focus
             intro w' hb'
             go_simp
             with_reducible rfl
           simp only [Act.put, List.setIfInBounds_toArray, List.set_cons_zero, List.set_cons_succ])
        | (refine SeqS.take1 (v := ?_) (by first | assumption | trivial) (by kernel_rfl) (by decide +kernel) (by decide +kernel) (Or.inl ⟨by rfl, ?_⟩) ?_
           rotate_left
           focus
             intro w' hb'
             have d0 := v3 w' hb'
             go_simp
             with_reducible rfl
           simp only [Act.put, List.setIfInBounds_toArray, List.set_cons_zero, List.set_cons_succ])
        | (refine SeqS.take1 (v := undef) (by first | assumption | trivial) (by kernel_rfl) (by decide +kernel) (by decide +kernel) (Or.inr ⟨by rfl, rfl⟩) ?_
           simp only [Act.put, List.setIfInBounds_toArray, List.set_cons_zero, List.set_cons_succ])
        | (refine SeqS.take2 (v := .agg (c).toArray) (by first | assumption | trivial) (by kernel_rfl) (by decide +kernel) (by decide +kernel) (yields_part (by rfl) 34 (.tmp 40) rfl rfl (fun w' h => FR.out w' (chain up3 h)) (crow)) ?_
           simp only [Act.put, List.setIfInBounds_toArray, List.set_cons_zero, List.set_cons_succ])
        | (refine SeqS.take2 (v := ?_) (by first | assumption | trivial) (by kernel_rfl) (by decide +kernel) (by decide +kernel) (Or.inl ⟨by rfl, ?_⟩) ?_
           rotate_left
           focus
             intro w' hb'
             go_simp
             with_reducible rfl
           simp only [Act.put, List.setIfInBounds_toArray, List.set_cons_zero, List.set_cons_succ])
        | (refine SeqS.take2 (v := ?_) (by first | assumption | trivial) (by kernel_rfl) (by decide +kernel) (by decide +kernel) (Or.inl ⟨by rfl, ?_⟩) ?_
           rotate_left
           focus
             intro w' hb'
             have d0 := v3 w' hb'
             go_simp
             with_reducible rfl
           simp only [Act.put, List.setIfInBounds_toArray, List.set_cons_zero, List.set_cons_succ])
        | (refine SeqS.take2 (v := undef) (by first | assumption | trivial) (by kernel_rfl) (by decide +kernel) (by decide +kernel) (Or.inr ⟨by rfl, rfl⟩) ?_
           simp only [Act.put, List.setIfInBounds_toArray, List.set_cons_zero, List.set_cons_succ]))
      refine SeqS.alone (by decide +kernel) (by rfl) (fun K hK => ?_)
      go_simp
      go_at_call 27
      refine (C4.out _ up3).mono ?_
      rintro e w4 ⟨rfl, b4⟩
      go_simp
      have S4 : Below w3.heap.size w3 w4 := r3.trans (b4.mono r3.size)
      refine hK _ _ S4 ?_
      clear hK K
      repeat (first
        | (refine SeqS.take (v := .agg (c).toArray) (by first | assumption | trivial) (by kernel_rfl) (by decide +kernel) (by decide +kernel) (yields_part (by rfl) 34 (.tmp 40) rfl rfl (fun w' h => FR.out w' (chain up3 h)) (crow)) ?_
           simp only [Act.put, List.setIfInBounds_toArray, List.set_cons_zero, List.set_cons_succ])
        | (refine SeqS.take (v := ?_) (by first | assumption | trivial) (by kernel_rfl) (by decide +kernel) (by decide +kernel) (Or.inl ⟨by rfl, ?_⟩) ?_
           rotate_left
           focus
             intro w' hb'
             go_simp
             with_reducible rfl
           simp only [Act.put, List.setIfInBounds_toArray, List.set_cons_zero, List.set_cons_succ])
        | (refine SeqS.take (v := undef) (by first | assumption | trivial) (by kernel_rfl) (by decide +kernel) (by decide +kernel) (Or.inr ⟨by rfl, rfl⟩) ?_
           simp only [Act.put, List.setIfInBounds_toArray, List.set_cons_zero, List.set_cons_succ])
        | (refine SeqS.take1 (v := .agg (c).toArray) (by first | assumption | trivial) (by kernel_rfl) (by decide +kernel) (by decide +kernel) (yields_part (by rfl) 34 (.tmp 40) rfl rfl (fun w' h => FR.out w' (chain up3 h)) (crow)) ?_
           simp only [Act.put, List.setIfInBounds_toArray, List.set_cons_zero, List.set_cons_succ])
        | (refine SeqS.take1 (v := ?_) (by first | assumption | trivial) (by kernel_rfl) (by decide +kernel) (by decide +kernel) (Or.inl ⟨by rfl, ?_⟩) ?_
           rotate_left
           focus
             intro w' hb'
             go_simp
             with_reducible rfl
           simp only [Act.put, List.setIfInBounds_toArray, List.set_cons_zero, List.set_cons_succ])
        | (refine SeqS.take1 (v := undef) (by first | assumption | trivial) (by kernel_rfl) (by decide +kernel) (by decide +kernel) (Or.inr ⟨by rfl, rfl⟩) ?_
           simp only [Act.put, List.setIfInBounds_toArray, List.set_cons_zero, List.set_cons_succ])
        | (refine SeqS.take2 (v := .agg (c).toArray) (by first | assumption | trivial) (by kernel_rfl) (by decide +kernel) (by decide +kernel) (yields_part (by rfl) 34 (.tmp 40) rfl rfl (fun w' h => FR.out w' (chain up3 h)) (crow)) ?_
           simp only [Act.put, List.setIfInBounds_toArray, List.set_cons_zero, List.set_cons_succ])
        | (refine SeqS.take2 (v := ?_) (by first | assumption | trivial) (by kernel_rfl) (by decide +kernel) (by decide +kernel) (Or.inl ⟨by rfl, ?_⟩) ?_
           rotate_left
           focus
             intro w' hb'
             go_simp
             with_reducible rfl
           simp only [Act.put, List.setIfInBounds_toArray, List.set_cons_zero, List.set_cons_succ])
        | (refine SeqS.take2 (v := undef) (by first | assumption | trivial) (by kernel_rfl) (by decide +kernel) (by decide +kernel) (Or.inr ⟨by rfl, rfl⟩) ?_
           simp only [Act.put, List.setIfInBounds_toArray, List.set_cons_zero, List.set_cons_succ]))
      refine SeqS.alone (by decide +kernel) (by rfl) (fun K hK => ?_)
      go_simp
      go_at_call 28
      refine (C5.out _ (chain up3 S4)).mono ?_
      rintro e w5 ⟨rfl, b5⟩
      go_simp
      have S5 : Below w3.heap.size w3 w5 := S4.trans (b5.mono S4.size)
      refine hK _ _ S5 ?_
      clear hK K
      repeat (first
        | (refine SeqS.take (v := .agg (c).toArray) (by first | assumption | trivial) (by kernel_rfl) (by decide +kernel) (by decide +kernel) (yields_part (by rfl) 34 (.tmp 51) rfl rfl (fun w' h => FR.out w' (chain up3 h)) (crow)) ?_
           simp only [Act.put, List.setIfInBounds_toArray, List.set_cons_zero, List.set_cons_succ])
        | (refine SeqS.take (v := ?_) (by first | assumption | trivial) (by kernel_rfl) (by decide +kernel) (by decide +kernel) (Or.inl ⟨by rfl, ?_⟩) ?_
           rotate_left
           focus
             intro w' hb'
             go_simp
             with_reducible rfl
           simp only [Act.put, List.setIfInBounds_toArray, List.set_cons_zero, List.set_cons_succ])
        | (refine SeqS.take (v := undef) (by first | assumption | trivial) (by kernel_rfl) (by decide +kernel) (by decide +kernel) (Or.inr ⟨by rfl, rfl⟩) ?_
           simp only [Act.put, List.setIfInBounds_toArray, List.set_cons_zero, List.set_cons_succ])
        | (refine SeqS.take1 (v := .agg (c).toArray) (by first | assumption | trivial) (by kernel_rfl) (by decide +kernel) (by decide +kernel) (yields_part (by rfl) 34 (.tmp 51) rfl rfl (fun w' h => FR.out w' (chain up3 h)) (crow)) ?_
           simp only [Act.put, List.setIfInBounds_toArray, List.set_cons_zero, List.set_cons_succ])
        | (refine SeqS.take1 (v := ?_) (by first | assumption | trivial) (by kernel_rfl) (by decide +kernel) (by decide +kernel) (Or.inl ⟨by rfl, ?_⟩) ?_
           rotate_left
           focus
             intro w' hb'
             go_simp
             with_reducible rfl
           simp only [Act.put, List.setIfInBounds_toArray, List.set_cons_zero, List.set_cons_succ])
        | (refine SeqS.take1 (v := undef) (by first | assumption | trivial) (by kernel_rfl) (by decide +kernel) (by decide +kernel) (Or.inr ⟨by rfl, rfl⟩) ?_
           simp only [Act.put, List.setIfInBounds_toArray, List.set_cons_zero, List.set_cons_succ])
        | (refine SeqS.take2 (v := .agg (c).toArray) (by first | assumption | trivial) (by kernel_rfl) (by decide +kernel) (by decide +kernel) (yields_part (by rfl) 34 (.tmp 51) rfl rfl (fun w' h => FR.out w' (chain up3 h)) (crow)) ?_
           simp only [Act.put, List.setIfInBounds_toArray, List.set_cons_zero, List.set_cons_succ])
        | (refine SeqS.take2 (v := ?_) (by first | assumption | trivial) (by kernel_rfl) (by decide +kernel) (by decide +kernel) (Or.inl ⟨by rfl, ?_⟩) ?_
           rotate_left
           focus
             intro w' hb'
             go_simp
             with_reducible rfl
           simp only [Act.put, List.setIfInBounds_toArray, List.set_cons_zero, List.set_cons_succ])
        | (refine SeqS.take2 (v := undef) (by first | assumption | trivial) (by kernel_rfl) (by decide +kernel) (by decide +kernel) (Or.inr ⟨by rfl, rfl⟩) ?_
           simp only [Act.put, List.setIfInBounds_toArray, List.set_cons_zero, List.set_cons_succ]))
      refine SeqS.alone (by decide +kernel) (by rfl) (fun K hK => ?_)
      go_simp
      go_at_call 14
      refine (C6.out _ (chain up3 S5)).mono ?_
      rintro e w6 ⟨rfl, b6⟩
      go_simp
      have S6 : Below w3.heap.size w3 w6 := S5.trans (b6.mono S5.size)
      refine hK _ _ S6 ?_
      clear hK K
      repeat (first
        | (refine SeqS.take (v := .agg (c).toArray) (by first | assumption | trivial) (by kernel_rfl) (by decide +kernel) (by decide +kernel) (yields_part (by rfl) 34 (.tmp 51) rfl rfl (fun w' h => FR.out w' (chain up3 h)) (crow)) ?_
           simp only [Act.put, List.setIfInBounds_toArray, List.set_cons_zero, List.set_cons_succ])
        | (refine SeqS.take (v := ?_) (by first | assumption | trivial) (by kernel_rfl) (by decide +kernel) (by decide +kernel) (Or.inl ⟨by rfl, ?_⟩) ?_
           rotate_left
           focus
             intro w' hb'
             go_simp
             with_reducible rfl
           simp only [Act.put, List.setIfInBounds_toArray, List.set_cons_zero, List.set_cons_succ])
        | (refine SeqS.take (v := undef) (by first | assumption | trivial) (by kernel_rfl) (by decide +kernel) (by decide +kernel) (Or.inr ⟨by rfl, rfl⟩) ?_
           simp only [Act.put, List.setIfInBounds_toArray, List.set_cons_zero, List.set_cons_succ])
        | (refine SeqS.take1 (v := .agg (c).toArray) (by first | assumption | trivial) (by kernel_rfl) (by decide +kernel) (by decide +kernel) (yields_part (by rfl) 34 (.tmp 51) rfl rfl (fun w' h => FR.out w' (chain up3 h)) (crow)) ?_
           simp only [Act.put, List.setIfInBounds_toArray, List.set_cons_zero, List.set_cons_succ])
        | (refine SeqS.take1 (v := ?_) (by first | assumption | trivial) (by kernel_rfl) (by decide +kernel) (by decide +kernel) (Or.inl ⟨by rfl, ?_⟩) ?_
           rotate_left
           focus
             intro w' hb'
             go_simp
             with_reducible rfl
           simp only [Act.put, List.setIfInBounds_toArray, List.set_cons_zero, List.set_cons_succ])
        | (refine SeqS.take1 (v := undef) (by first | assumption | trivial) (by kernel_rfl) (by decide +kernel) (by decide +kernel) (Or.inr ⟨by rfl, rfl⟩) ?_
           simp only [Act.put, List.setIfInBounds_toArray, List.set_cons_zero, List.set_cons_succ])
        | (refine SeqS.take2 (v := .agg (c).toArray) (by first | assumption | trivial) (by kernel_rfl) (by decide +kernel) (by decide +kernel) (yields_part (by rfl) 34 (.tmp 51) rfl rfl (fun w' h => FR.out w' (chain up3 h)) (crow)) ?_
           simp only [Act.put, List.setIfInBounds_toArray, List.set_cons_zero, List.set_cons_succ])
        | (refine SeqS.take2 (v := ?_) (by first | assumption | trivial) (by kernel_rfl) (by decide +kernel) (by decide +kernel) (Or.inl ⟨by rfl, ?_⟩) ?_
           rotate_left
           focus
             intro w' hb'
             go_simp
             with_reducible rfl
           simp only [Act.put, List.setIfInBounds_toArray, List.set_cons_zero, List.set_cons_succ])
        | (refine SeqS.take2 (v := undef) (by first | assumption | trivial) (by kernel_rfl) (by decide +kernel) (by decide +kernel) (Or.inr ⟨by rfl, rfl⟩) ?_
           simp only [Act.put, List.setIfInBounds_toArray, List.set_cons_zero, List.set_cons_succ]))
      refine SeqS.alone (by decide +kernel) (by rfl) (fun K hK => ?_)
      go_simp
      go_at_call 25
      refine (C2.out _ (chain up3 S6)).mono ?_
      rintro e w7 ⟨a7, c7, rfl, _, b7⟩
      go_simp
      have S7 : Below w3.heap.size w3 w7 := S6.trans (b7.mono S6.size)
      refine hK _ _ S7 ?_
      clear hK K
      repeat (first
        | (refine SeqS.take (v := ?_) (by first | assumption | trivial) (by kernel_rfl) (by decide +kernel) (by decide +kernel) (Or.inl ⟨by rfl, ?_⟩) ?_
           rotate_left
           focus
             intro w' hb'
             go_simp
             with_reducible rfl
           simp only [Act.put, List.setIfInBounds_toArray, List.set_cons_zero, List.set_cons_succ])
        | (refine SeqS.take (v := undef) (by first | assumption | trivial) (by kernel_rfl) (by decide +kernel) (by decide +kernel) (Or.inr ⟨by rfl, rfl⟩) ?_
           simp only [Act.put, List.setIfInBounds_toArray, List.set_cons_zero, List.set_cons_succ])
        | (refine SeqS.take1 (v := ?_) (by first | assumption | trivial) (by kernel_rfl) (by decide +kernel) (by decide +kernel) (Or.inl ⟨by rfl, ?_⟩) ?_
           rotate_left
           focus
             intro w' hb'
             go_simp
             with_reducible rfl
           simp only [Act.put, List.setIfInBounds_toArray, List.set_cons_zero, List.set_cons_succ])
        | (refine SeqS.take1 (v := undef) (by first | assumption | trivial) (by kernel_rfl) (by decide +kernel) (by decide +kernel) (Or.inr ⟨by rfl, rfl⟩) ?_
           simp only [Act.put, List.setIfInBounds_toArray, List.set_cons_zero, List.set_cons_succ])
        | (refine SeqS.take2 (v := ?_) (by first | assumption | trivial) (by kernel_rfl) (by decide +kernel) (by decide +kernel) (Or.inl ⟨by rfl, ?_⟩) ?_
           rotate_left
           focus
             intro w' hb'
             go_simp
             with_reducible rfl
           simp only [Act.put, List.setIfInBounds_toArray, List.set_cons_zero, List.set_cons_succ])
        | (refine SeqS.take2 (v := undef) (by first | assumption | trivial) (by kernel_rfl) (by decide +kernel) (by decide +kernel) (Or.inr ⟨by rfl, rfl⟩) ?_
           simp only [Act.put, List.setIfInBounds_toArray, List.set_cons_zero, List.set_cons_succ]))
      refine SeqS.done (by decide +kernel) ?_
      have hBz := hBH.out.trans ((chain up3 S7).mono hBH.out.size)
      clear b4 b5 b6 b7 S4 S5 S6 S7 r3 up3 C1 C2 C3 C4 C5 C6 FK FC FR
      go_wp2_with fail
      exact ⟨⟨1 + 1, rfl, by decide, hBz⟩, by decide⟩
    · have hT0 := h1H.out.keep hB
      obtain ⟨c, ka, kc, hF⟩ := hT0.file 2 (by decide)
      have hfo := (okH.out.f 2).fok hTH.out
      have cl := hF.l
      have crow : IsRow Try.prog 34 c.length := by rw [cl]; exact rowRf
      have bk := b3H.out.keep hB lt3.out
      obtain ⟨s, hs⟩ : ∃ s, strOfNums (D.f 2).held = s := ⟨_, rfl⟩
      obtain ⟨n, hn⟩ : ∃ n, (D.f 2).held.length = n := ⟨_, rfl⟩
      obtain ⟨t, ht⟩ : ∃ s, strOfNums (D.f 2).K = s := ⟨_, rfl⟩
      obtain ⟨m, hm⟩ : ∃ n, (D.f 2).K.length = n := ⟨_, rfl⟩
      obtain ⟨u, hu⟩ : ∃ n, (D.f 2).units = n := ⟨_, rfl⟩
      have b4 : Below wr.heap.size wr wr.drew := (Below.refl _ _).drew
      have C1 := Lib.hid (fun w' (h : Below wr.heap.size wr w') => l_read (hT0.keep h) okH.out 2 (by decide) 2 rfl s hs n hn)
      have C2 := Lib.hid (fun w' (h : Below wr.heap.size wr w') => l_holds (hF.keep h) hfo s hs n hn)
      have C3 := Lib.hid (fun w' (h : Below wr.heap.size wr w') => l_kept (hT0.keep h) okH.out 2 (by decide) 2 rfl t ht m hm)
      have C4 := Lib.hid (fun w' (h : Below wr.heap.size wr w') => l_units (hT0.keep h) okH.out 2 (by decide) 2 rfl u hu)
      have C5 := Lib.hid (fun w' (h : Below wr.heap.size wr w') => l_funits (hF.keep h) hfo u hu)
      have C6 := Lib.hid (fun w' (h : Below wr.heap.size wr w') => l_size (hT0.keep h) okH.out 2 (by decide) 2 rfl n hn)
      have hk0 := hF.k
      have hcv := hF.cv
      rw [hm] at hk0 hcv
      rw [ht] at hcv
      have FK := Lib.hid (fun w' (h : Below wr.heap.size wr w') => show w'.cell? ⟨G, 4, none⟩ = some (.slice ka m kc) from ((bk.keep h bk.lt).cell 4).trans hk0)
      have FC := Lib.hid (fun w' (h : Below wr.heap.size wr w') => hcv w' h)
      have FR := Lib.hid (fun w' (h : Below wr.heap.size wr w') => show w'.rangeAt G 4 c from (bk.keep h bk.lt).range 4 c (fun j v hj => hF.at' j v hj))
      have hss : (s.toList == s.toList) = true := beq_self_eq_true _
      have htt : (t.toList == t.toList) = true := beq_self_eq_true _
      have hB5 := hB.trans (b4.mono hB.size)
      have hBH := Lib.hid hB
      clear hT0 hF hfo bk hs hn ht hm hu hk0 hcv hB cl
      go_wp2_with fail
      refine region_seqS (fun w' => Below wr.heap.size wr w') (by kernel_rfl) b4 ?_
      simp only [pairs, Nat.reduceAdd]
      repeat (first
        | (refine SeqS.take (v := .agg (c).toArray) (by first | assumption | trivial) (by kernel_rfl) (by decide +kernel) (by decide +kernel) (yields_part (by rfl) 34 (.tmp 16) rfl rfl (fun w' h => FR.out w' h) (crow)) ?_
           simp only [Act.put, List.setIfInBounds_toArray, List.set_cons_zero, List.set_cons_succ])
        | (refine SeqS.take (v := ?_) (by first | assumption | trivial) (by kernel_rfl) (by decide +kernel) (by decide +kernel) (Or.inl ⟨by rfl, ?_⟩) ?_
           rotate_left
           focus
             intro w' hb'
             go_simp
             with_reducible rfl
           simp only [Act.put, List.setIfInBounds_toArray, List.set_cons_zero, List.set_cons_succ])
        | (refine SeqS.take (v := undef) (by first | assumption | trivial) (by kernel_rfl) (by decide +kernel) (by decide +kernel) (Or.inr ⟨by rfl, rfl⟩) ?_
           simp only [Act.put, List.setIfInBounds_toArray, List.set_cons_zero, List.set_cons_succ])
        | (refine SeqS.take1 (v := .agg (c).toArray) (by first | assumption | trivial) (by kernel_rfl) (by decide +kernel) (by decide +kernel) (yields_part (by rfl) 34 (.tmp 16) rfl rfl (fun w' h => FR.out w' h) (crow)) ?_
           simp only [Act.put, List.setIfInBounds_toArray, List.set_cons_zero, List.set_cons_succ])
        | (refine SeqS.take1 (v := ?_) (by first | assumption | trivial) (by kernel_rfl) (by decide +kernel) (by decide +kernel) (Or.inl ⟨by rfl, ?_⟩) ?_
           rotate_left
           focus
             intro w' hb'
             go_simp
             with_reducible rfl
           simp only [Act.put, List.setIfInBounds_toArray, List.set_cons_zero, List.set_cons_succ])
        | (refine SeqS.take1 (v := undef) (by first | assumption | trivial) (by kernel_rfl) (by decide +kernel) (by decide +kernel) (Or.inr ⟨by rfl, rfl⟩) ?_
           simp only [Act.put, List.setIfInBounds_toArray, List.set_cons_zero, List.set_cons_succ])
        | (refine SeqS.take2 (v := .agg (c).toArray) (by first | assumption | trivial) (by kernel_rfl) (by decide +kernel) (by decide +kernel) (yields_part (by rfl) 34 (.tmp 16) rfl rfl (fun w' h => FR.out w' h) (crow)) ?_
           simp only [Act.put, List.setIfInBounds_toArray, List.set_cons_zero, List.set_cons_succ])
        | (refine SeqS.take2 (v := ?_) (by first | assumption | trivial) (by kernel_rfl) (by decide +kernel) (by decide +kernel) (Or.inl ⟨by rfl, ?_⟩) ?_
           rotate_left
           focus
             intro w' hb'
             go_simp
             with_reducible rfl
           simp only [Act.put, List.setIfInBounds_toArray, List.set_cons_zero, List.set_cons_succ])
        | (refine SeqS.take2 (v := undef) (by first | assumption | trivial) (by kernel_rfl) (by decide +kernel) (by decide +kernel) (Or.inr ⟨by rfl, rfl⟩) ?_
           simp only [Act.put, List.setIfInBounds_toArray, List.set_cons_zero, List.set_cons_succ]))
      refine SeqS.alone (by decide +kernel) (by rfl) (fun K hK => ?_)
      go_simp
      go_at_call 17
      refine (C1.out _ b4).mono ?_
      rintro q w1 ⟨a1, c1, rfl, v1, b1⟩
      go_simp
      have up1 : Below wr.heap.size wr w1 := chain b4 b1
      refine hK _ _ up1 ?_
      refine SeqS.mono (S' := fun w' => Below w1.heap.size w1 w') (fun w' h => chain up1 h) ?_
      have r1 : Below w1.heap.size w1 w1 := Below.refl _ _
      clear hK K b1
      repeat (first
        | (refine SeqS.take (v := ?_) (by first | assumption | trivial) (by kernel_rfl) (by decide +kernel) (by decide +kernel) (Or.inl ⟨by rfl, ?_⟩) ?_
           rotate_left
           focus
             intro w' hb'
             go_simp
             with_reducible rfl
           simp only [Act.put, List.setIfInBounds_toArray, List.set_cons_zero, List.set_cons_succ])
        | (refine SeqS.take (v := ?_) (by first | assumption | trivial) (by kernel_rfl) (by decide +kernel) (by decide +kernel) (Or.inl ⟨by rfl, ?_⟩) ?_
           rotate_left
           focus
             intro w' hb'
             have d0 := v1 w' hb'
             go_simp
             with_reducible rfl
           simp only [Act.put, List.setIfInBounds_toArray, List.set_cons_zero, List.set_cons_succ])
        | (refine SeqS.take (v := undef) (by first | assumption | trivial) (by kernel_rfl) (by decide +kernel) (by decide +kernel) (Or.inr ⟨by rfl, rfl⟩) ?_
           simp only [Act.put, List.setIfInBounds_toArray, List.set_cons_zero, List.set_cons_succ])
        | (refine SeqS.take1 (v := ?_) (by first | assumption | trivial) (by kernel_rfl) (by decide +kernel) (by decide +kernel) (Or.inl ⟨by rfl, ?_⟩) ?_
           rotate_left
           focus
             intro w' hb'
             go_simp
             with_reducible rfl
           simp only [Act.put, List.setIfInBounds_toArray, List.set_cons_zero, List.set_cons_succ])
        | (refine SeqS.take1 (v := ?_) (by first | assumption | trivial) (by kernel_rfl) (by decide +kernel) (by decide +kernel) (Or.inl ⟨by rfl, ?_⟩) ?_
           rotate_left
           focus
             intro w' hb'
             have d0 := v1 w' hb'
             go_simp
             with_reducible rfl
           simp only [Act.put, List.setIfInBounds_toArray, List.set_cons_zero, List.set_cons_succ])
        | (refine SeqS.take1 (v := undef) (by first | assumption | trivial) (by kernel_rfl) (by decide +kernel) (by decide +kernel) (Or.inr ⟨by rfl, rfl⟩) ?_
           simp only [Act.put, List.setIfInBounds_toArray, List.set_cons_zero, List.set_cons_succ])
        | (refine SeqS.take2 (v := ?_) (by first | assumption | trivial) (by kernel_rfl) (by decide +kernel) (by decide +kernel) (Or.inl ⟨by rfl, ?_⟩) ?_
           rotate_left
           focus
             intro w' hb'
             go_simp
             with_reducible rfl
           simp only [Act.put, List.setIfInBounds_toArray, List.set_cons_zero, List.set_cons_succ])
        | (refine SeqS.take2 (v := ?_) (by first | assumption | trivial) (by kernel_rfl) (by decide +kernel) (by decide +kernel) (Or.inl ⟨by rfl, ?_⟩) ?_
           rotate_left
           focus
             intro w' hb'
             have d0 := v1 w' hb'
             go_simp
             with_reducible rfl
           simp only [Act.put, List.setIfInBounds_toArray, List.set_cons_zero, List.set_cons_succ])
        | (refine SeqS.take2 (v := undef) (by first | assumption | trivial) (by kernel_rfl) (by decide +kernel) (by decide +kernel) (Or.inr ⟨by rfl, rfl⟩) ?_
           simp only [Act.put, List.setIfInBounds_toArray, List.set_cons_zero, List.set_cons_succ]))
      refine SeqS.alone (by decide +kernel) (by rfl) (fun K hK => ?_)
      go_simp
      go_at_call 25
      refine (C2.out _ up1).mono ?_
      rintro q w2 ⟨a2, c2, rfl, v2, b2⟩
      go_simp
      have up2 : Below wr.heap.size wr w2 := chain up1 b2
      refine hK _ _ b2 ?_
      refine SeqS.mono (S' := fun w' => Below w2.heap.size w2 w') (fun w' h => chain b2 h) ?_
      have r2 : Below w2.heap.size w2 w2 := Below.refl _ _
      clear hK K r1 v1 up1
      repeat (first
        | (refine SeqS.take (v := ?_) (by first | assumption | trivial) (by kernel_rfl) (by decide +kernel) (by decide +kernel) (Or.inl ⟨by rfl, ?_⟩) ?_
           rotate_left
           focus
             intro w' hb'
             go_simp
             with_reducible rfl
           simp only [Act.put, List.setIfInBounds_toArray, List.set_cons_zero, List.set_cons_succ])
        | (refine SeqS.take (v := ?_) (by first | assumption | trivial) (by kernel_rfl) (by decide +kernel) (by decide +kernel) (Or.inl ⟨by rfl, ?_⟩) ?_
           rotate_left
           focus
             intro w' hb'
             have d0 := v2 w' hb'
             go_simp
             with_reducible rfl
           simp only [Act.put, List.setIfInBounds_toArray, List.set_cons_zero, List.set_cons_succ])
        | (refine SeqS.take (v := ?_) (by first | assumption | trivial) (by kernel_rfl) (by decide +kernel) (by decide +kernel) (Or.inl ⟨by rfl, ?_⟩) ?_
           rotate_left
           focus
             intro w' hb'
             have d0 := FK.out w' (chain up2 hb')
             go_simp
             with_reducible rfl
           simp only [Act.put, List.setIfInBounds_toArray, List.set_cons_zero, List.set_cons_succ])
        | (refine SeqS.take (v := ?_) (by first | assumption | trivial) (by kernel_rfl) (by decide +kernel) (by decide +kernel) (Or.inl ⟨by rfl, ?_⟩) ?_
           rotate_left
           focus
             intro w' hb'
             have d0 := FC.out w' (chain up2 hb')
             go_simp
             with_reducible rfl
           simp only [Act.put, List.setIfInBounds_toArray, List.set_cons_zero, List.set_cons_succ])
        | (refine SeqS.take (v := undef) (by first | assumption | trivial) (by kernel_rfl) (by decide +kernel) (by decide +kernel) (Or.inr ⟨by rfl, rfl⟩) ?_
           simp only [Act.put, List.setIfInBounds_toArray, List.set_cons_zero, List.set_cons_succ])
        | (refine SeqS.take1 (v := ?_) (by first | assumption | trivial) (by kernel_rfl) (by decide +kernel) (by decide +kernel) (Or.inl ⟨by rfl, ?_⟩) ?_
           rotate_left
           focus
             intro w' hb'
             go_simp
             with_reducible rfl
           simp only [Act.put, List.setIfInBounds_toArray, List.set_cons_zero, List.set_cons_succ])
        | (refine SeqS.take1 (v := ?_) (by first | assumption | trivial) (by kernel_rfl) (by decide +kernel) (by decide +kernel) (Or.inl ⟨by rfl, ?_⟩) ?_
           rotate_left
           focus
             intro w' hb'
             have d0 := v2 w' hb'
             go_simp
             with_reducible rfl
           simp only [Act.put, List.setIfInBounds_toArray, List.set_cons_zero, List.set_cons_succ])
        | (refine SeqS.take1 (v := ?_) (by first | assumption | trivial) (by kernel_rfl) (by decide +kernel) (by decide +kernel) (Or.inl ⟨by rfl, ?_⟩) ?_
           rotate_left
           focus
             intro w' hb'
             have d0 := FK.out w' (chain up2 hb')
             go_simp
             with_reducible rfl
           simp only [Act.put, List.setIfInBounds_toArray, List.set_cons_zero, List.set_cons_succ])
        | (refine SeqS.take1 (v := ?_) (by first | assumption | trivial) (by kernel_rfl) (by decide +kernel) (by decide +kernel) (Or.inl ⟨by rfl, ?_⟩) ?_
           rotate_left
           focus
             intro w' hb'
             have d0 := FC.out w' (chain up2 hb')
             go_simp
             with_reducible rfl
           simp only [Act.put, List.setIfInBounds_toArray, List.set_cons_zero, List.set_cons_succ])
        | (refine SeqS.take1 (v := undef) (by first | assumption | trivial) (by kernel_rfl) (by decide +kernel) (by decide +kernel) (Or.inr ⟨by rfl, rfl⟩) ?_
           simp only [Act.put, List.setIfInBounds_toArray, List.set_cons_zero, List.set_cons_succ])
        | (refine SeqS.take2 (v := ?_) (by first | assumption | trivial) (by kernel_rfl) (by decide +kernel) (by decide +kernel) (Or.inl ⟨by rfl, ?_⟩) ?_
           rotate_left
           focus
             intro w' hb'
             go_simp
             with_reducible rfl
           simp only [Act.put, List.setIfInBounds_toArray, List.set_cons_zero, List.set_cons_succ])
        | (refine SeqS.take2 (v := ?_) (by first | assumption | trivial) (by kernel_rfl) (by decide +kernel) (by decide +kernel) (Or.inl ⟨by rfl, ?_⟩) ?_
           rotate_left
           focus
             intro w' hb'
             have d0 := v2 w' hb'
             go_simp
             with_reducible rfl
           simp only [Act.put, List.setIfInBounds_toArray, List.set_cons_zero, List.set_cons_succ])
        | (refine SeqS.take2 (v := ?_) (by first | assumption | trivial) (by kernel_rfl) (by decide +kernel) (by decide +kernel) (Or.inl ⟨by rfl, ?_⟩) ?_
           rotate_left
           focus
             intro w' hb'
             have d0 := FK.out w' (chain up2 hb')
             go_simp
             with_reducible rfl
           simp only [Act.put, List.setIfInBounds_toArray, List.set_cons_zero, List.set_cons_succ])
        | (refine SeqS.take2 (v := ?_) (by first | assumption | trivial) (by kernel_rfl) (by decide +kernel) (by decide +kernel) (Or.inl ⟨by rfl, ?_⟩) ?_
           rotate_left
           focus
             intro w' hb'
             have d0 := FC.out w' (chain up2 hb')
             go_simp
             with_reducible rfl
           simp only [Act.put, List.setIfInBounds_toArray, List.set_cons_zero, List.set_cons_succ])
        | (refine SeqS.take2 (v := undef) (by first | assumption | trivial) (by kernel_rfl) (by decide +kernel) (by decide +kernel) (Or.inr ⟨by rfl, rfl⟩) ?_
           simp only [Act.put, List.setIfInBounds_toArray, List.set_cons_zero, List.set_cons_succ]))
      refine SeqS.alone (by decide +kernel) (by rfl) (fun K hK => ?_)
      go_simp
      go_at_call 26
      refine (C3.out _ up2).mono ?_
      rintro q w3 ⟨a3, c3, rfl, v3, b3⟩
      go_simp
      have up3 : Below wr.heap.size wr w3 := chain up2 b3
      refine hK _ _ b3 ?_
      refine SeqS.mono (S' := fun w' => Below w3.heap.size w3 w') (fun w' h => chain b3 h) ?_
      have r3 : Below w3.heap.size w3 w3 := Below.refl _ _
      clear hK K r2 v2 up2 b2
      repeat (first
        | (refine SeqS.take (v := .agg (c).toArray) (by first | assumption | trivial) (by kernel_rfl) (by decide +kernel) (by decide +kernel) (yields_part (by rfl) 34 (.tmp 40) rfl rfl (fun w' h => FR.out w' (chain up3 h)) (crow)) ?_
           simp only [Act.put, List.setIfInBounds_toArray, List.set_cons_zero, List.set_cons_succ])
        | (refine SeqS.take (v := ?_) (by first | assumption | trivial) (by kernel_rfl) (by decide +kernel) (by decide +kernel) (Or.inl ⟨by rfl, ?_⟩) ?_
           rotate_left
           focus
             intro w' hb'
             go_simp
             with_reducible rfl
           simp only [Act.put, List.setIfInBounds_toArray, List.set_cons_zero, List.set_cons_succ])
        | (refine SeqS.take (v := ?_) (by first | assumption | trivial) (by kernel_rfl) (by decide +kernel) (by decide +kernel) (Or.inl ⟨by rfl, ?_⟩) ?_
           rotate_left
           focus
             intro w' hb'
             have d0 := v3 w' hb'
             go_simp
             with_reducible rfl
           simp only [Act.put, List.setIfInBounds_toArray, List.set_cons_zero, List.set_cons_succ])
        | (refine SeqS.take (v := undef) (by first | assumption | trivial) (by kernel_rfl) (by decide +kernel) (by decide +kernel) (Or.inr ⟨by rfl, rfl⟩) ?_
           simp only [Act.put, List.setIfInBounds_toArray, List.set_cons_zero, List.set_cons_succ])
        | (refine SeqS.take1 (v := .agg (c).toArray) (by first | assumption | trivial) (by kernel_rfl) (by decide +kernel) (by decide +kernel) (yields_part (by rfl) 34 (.tmp 40) rfl rfl (fun w' h => FR.out w' (chain up3 h)) (crow)) ?_
           simp only [Act.put, List.setIfInBounds_toArray, List.set_cons_zero, List.set_cons_succ])
        | (refine SeqS.take1 (v := ?_) (by first | assumption | trivial) (by kernel_rfl) (by decide +kernel) (by decide +kernel) (Or.inl ⟨by rfl, ?_⟩) ?_
           rotate_left
           focus
             intro w' hb'
             go_simp
             with_reducible rfl
           simp only [Act.put, List.setIfInBounds_toArray, List.set_cons_zero, List.set_cons_succ])
        | (refine SeqS.take1 (v := ?_) (by first | assumption | trivial) (by kernel_rfl) (by decide +kernel) (by decide +kernel) (Or.inl ⟨by rfl, ?_⟩) ?_
           rotate_left
           focus
             intro w' hb'
             have d0 := v3 w' hb'
             go_simp
             with_reducible rfl
           simp only [Act.put, List.setIfInBounds_toArray, List.set_cons_zero, List.set_cons_succ])
        | (refine SeqS.take1 (v := undef) (by first | assumption | trivial) (by kernel_rfl) (by decide +kernel) (by decide +kernel) (Or.inr ⟨by rfl, rfl⟩) ?_
           simp only [Act.put, List.setIfInBounds_toArray, List.set_cons_zero, List.set_cons_succ])
        | (refine SeqS.take2 (v := .agg (c).toArray) (by first | assumption | trivial) (by kernel_rfl) (by decide +kernel) (by decide +kernel) (yields_part (by rfl) 34 (.tmp 40) rfl rfl (fun w' h => FR.out w' (chain up3 h)) (crow)) ?_
           simp only [Act.put, List.setIfInBounds_toArray, List.set_cons_zero, List.set_cons_succ])
        | (refine SeqS.take2 (v := ?_) (by first | assumption | trivial) (by kernel_rfl) (by decide +kernel) (by decide +kernel) (Or.inl ⟨by rfl, ?_⟩) ?_
           rotate_left
           focus
             intro w' hb'
             go_simp
             with_reducible rfl
           simp only [Act.put, List.setIfInBounds_toArray, List.set_cons_zero, List.set_cons_succ])
        | (refine SeqS.take2 (v := ?_) (by first | assumption | trivial) (by kernel_rfl) (by decide +kernel) (by decide +kernel) (Or.inl ⟨by rfl, ?_⟩) ?_
           rotate_left
           focus
             intro w' hb'
             have d0 := v3 w' hb'
             go_simp
             with_reducible rfl
           simp only [Act.put, List.setIfInBounds_toArray, List.set_cons_zero, List.set_cons_succ])
        | (refine SeqS.take2 (v := undef) (by first | assumption | trivial) (by kernel_rfl) (by decide +kernel) (by decide +kernel) (Or.inr ⟨by rfl, rfl⟩) ?_
           simp only [Act.put, List.setIfInBounds_toArray, List.set_cons_zero, List.set_cons_succ]))
      refine SeqS.alone (by decide +kernel) (by rfl) (fun K hK => ?_)
      go_simp
      go_at_call 27
      refine (C4.out _ up3).mono ?_
      rintro e w4 ⟨rfl, b4⟩
      go_simp
      have S4 : Below w3.heap.size w3 w4 := r3.trans (b4.mono r3.size)
      refine hK _ _ S4 ?_
      clear hK K
      repeat (first
        | (refine SeqS.take (v := .agg (c).toArray) (by first | assumption | trivial) (by kernel_rfl) (by decide +kernel) (by decide +kernel) (yields_part (by rfl) 34 (.tmp 40) rfl rfl (fun w' h => FR.out w' (chain up3 h)) (crow)) ?_
           simp only [Act.put, List.setIfInBounds_toArray, List.set_cons_zero, List.set_cons_succ])
        | (refine SeqS.take (v := ?_) (by first | assumption | trivial) (by kernel_rfl) (by decide +kernel) (by decide +kernel) (Or.inl ⟨by rfl, ?_⟩) ?_
           rotate_left
           focus
             intro w' hb'
             go_simp
             with_reducible rfl
           simp only [Act.put, List.setIfInBounds_toArray, List.set_cons_zero, List.set_cons_succ])
        | (refine SeqS.take (v := undef) (by first | assumption | trivial) (by kernel_rfl) (by decide +kernel) (by decide +kernel) (Or.inr ⟨by rfl, rfl⟩) ?_
           simp only [Act.put, List.setIfInBounds_toArray, List.set_cons_zero, List.set_cons_succ])
        | (refine SeqS.take1 (v := .agg (c).toArray) (by first | assumption | trivial) (by kernel_rfl) (by decide +kernel) (by decide +kernel) (yields_part (by rfl) 34 (.tmp 40) rfl rfl (fun w' h => FR.out w' (chain up3 h)) (crow)) ?_
           simp only [Act.put, List.setIfInBounds_toArray, List.set_cons_zero, List.set_cons_succ])
        | (refine SeqS.take1 (v := ?_) (by first | assumption | trivial) (by kernel_rfl) (by decide +kernel) (by decide +kernel) (Or.inl ⟨by rfl, ?_⟩) ?_
           rotate_left
           focus
             intro w' hb'
             go_simp
             with_reducible rfl
           simp only [Act.put, List.setIfInBounds_toArray, List.set_cons_zero, List.set_cons_succ])
        | (refine SeqS.take1 (v := undef) (by first | assumption | trivial) (by kernel_rfl) (by decide +kernel) (by decide +kernel) (Or.inr ⟨by rfl, rfl⟩) ?_
           simp only [Act.put, List.setIfInBounds_toArray, List.set_cons_zero, List.set_cons_succ])
        | (refine SeqS.take2 (v := .agg (c).toArray) (by first | assumption | trivial) (by kernel_rfl) (by decide +kernel) (by decide +kernel) (yields_part (by rfl) 34 (.tmp 40) rfl rfl (fun w' h => FR.out w' (chain up3 h)) (crow)) ?_
           simp only [Act.put, List.setIfInBounds_toArray, List.set_cons_zero, List.set_cons_succ])
        | (refine SeqS.take2 (v := ?_) (by first | assumption | trivial) (by kernel_rfl) (by decide +kernel) (by decide +kernel) (Or.inl ⟨by rfl, ?_⟩) ?_
           rotate_left
           focus
             intro w' hb'
             go_simp
             with_reducible rfl
           simp only [Act.put, List.setIfInBounds_toArray, List.set_cons_zero, List.set_cons_succ])
        | (refine SeqS.take2 (v := undef) (by first | assumption | trivial) (by kernel_rfl) (by decide +kernel) (by decide +kernel) (Or.inr ⟨by rfl, rfl⟩) ?_
           simp only [Act.put, List.setIfInBounds_toArray, List.set_cons_zero, List.set_cons_succ]))
      refine SeqS.alone (by decide +kernel) (by rfl) (fun K hK => ?_)
      go_simp
      go_at_call 28
      refine (C5.out _ (chain up3 S4)).mono ?_
      rintro e w5 ⟨rfl, b5⟩
      go_simp
      have S5 : Below w3.heap.size w3 w5 := S4.trans (b5.mono S4.size)
      refine hK _ _ S5 ?_
      clear hK K
      repeat (first
        | (refine SeqS.take (v := .agg (c).toArray) (by first | assumption | trivial) (by kernel_rfl) (by decide +kernel) (by decide +kernel) (yields_part (by rfl) 34 (.tmp 51) rfl rfl (fun w' h => FR.out w' (chain up3 h)) (crow)) ?_
           simp only [Act.put, List.setIfInBounds_toArray, List.set_cons_zero, List.set_cons_succ])
        | (refine SeqS.take (v := ?_) (by first | assumption | trivial) (by kernel_rfl) (by decide +kernel) (by decide +kernel) (Or.inl ⟨by rfl, ?_⟩) ?_
           rotate_left
           focus
             intro w' hb'
             go_simp
             with_reducible rfl
           simp only [Act.put, List.setIfInBounds_toArray, List.set_cons_zero, List.set_cons_succ])
        | (refine SeqS.take (v := undef) (by first | assumption | trivial) (by kernel_rfl) (by decide +kernel) (by decide +kernel) (Or.inr ⟨by rfl, rfl⟩) ?_
           simp only [Act.put, List.setIfInBounds_toArray, List.set_cons_zero, List.set_cons_succ])
        | (refine SeqS.take1 (v := .agg (c).toArray) (by first | assumption | trivial) (by kernel_rfl) (by decide +kernel) (by decide +kernel) (yields_part (by rfl) 34 (.tmp 51) rfl rfl (fun w' h => FR.out w' (chain up3 h)) (crow)) ?_
           simp only [Act.put, List.setIfInBounds_toArray, List.set_cons_zero, List.set_cons_succ])
        | (refine SeqS.take1 (v := ?_) (by first | assumption | trivial) (by kernel_rfl) (by decide +kernel) (by decide +kernel) (Or.inl ⟨by rfl, ?_⟩) ?_
           rotate_left
           focus
             intro w' hb'
             go_simp
             with_reducible rfl
           simp only [Act.put, List.setIfInBounds_toArray, List.set_cons_zero, List.set_cons_succ])
        | (refine SeqS.take1 (v := undef) (by first | assumption | trivial) (by kernel_rfl) (by decide +kernel) (by decide +kernel) (Or.inr ⟨by rfl, rfl⟩) ?_
           simp only [Act.put, List.setIfInBounds_toArray, List.set_cons_zero, List.set_cons_succ])
        | (refine SeqS.take2 (v := .agg (c).toArray) (by first | assumption | trivial) (by kernel_rfl) (by decide +kernel) (by decide +kernel) (yields_part (by rfl) 34 (.tmp 51) rfl rfl (fun w' h => FR.out w' (chain up3 h)) (crow)) ?_
           simp only [Act.put, List.setIfInBounds_toArray, List.set_cons_zero, List.set_cons_succ])
        | (refine SeqS.take2 (v := ?_) (by first | assumption | trivial) (by kernel_rfl) (by decide +kernel) (by decide +kernel) (Or.inl ⟨by rfl, ?_⟩) ?_
           rotate_left
           focus
             intro w' hb'
             go_simp
             with_reducible rfl
           simp only [Act.put, List.setIfInBounds_toArray, List.set_cons_zero, List.set_cons_succ])
        | (refine SeqS.take2 (v := undef) (by first | assumption | trivial) (by kernel_rfl) (by decide +kernel) (by decide +kernel) (Or.inr ⟨by rfl, rfl⟩) ?_
           simp only [Act.put, List.setIfInBounds_toArray, List.set_cons_zero, List.set_cons_succ]))
      refine SeqS.alone (by decide +kernel) (by rfl) (fun K hK => ?_)
      go_simp
      go_at_call 14
      refine (C6.out _ (chain up3 S5)).mono ?_
      rintro e w6 ⟨rfl, b6⟩
      go_simp
      have S6 : Below w3.heap.size w3 w6 := S5.trans (b6.mono S5.size)
      refine hK _ _ S6 ?_
      clear hK K
      repeat (first
        | (refine SeqS.take (v := .agg (c).toArray) (by first | assumption | trivial) (by kernel_rfl) (by decide +kernel) (by decide +kernel) (yields_part (by rfl) 34 (.tmp 51) rfl rfl (fun w' h => FR.out w' (chain up3 h)) (crow)) ?_
           simp only [Act.put, List.setIfInBounds_toArray, List.set_cons_zero, List.set_cons_succ])
        | (refine SeqS.take (v := ?_) (by first | assumption | trivial) (by kernel_rfl) (by decide +kernel) (by decide +kernel) (Or.inl ⟨by rfl, ?_⟩) ?_
           rotate_left
           focus
             intro w' hb'
             go_simp
             with_reducible rfl
           simp only [Act.put, List.setIfInBounds_toArray, List.set_cons_zero, List.set_cons_succ])
        | (refine SeqS.take (v := undef) (by first | assumption | trivial) (by kernel_rfl) (by decide +kernel) (by decide +kernel) (Or.inr ⟨by rfl, rfl⟩) ?_
           simp only [Act.put, List.setIfInBounds_toArray, List.set_cons_zero, List.set_cons_succ])
        | (refine SeqS.take1 (v := .agg (c).toArray) (by first | assumption | trivial) (by kernel_rfl) (by decide +kernel) (by decide +kernel) (yields_part (by rfl) 34 (.tmp 51) rfl rfl (fun w' h => FR.out w' (chain up3 h)) (crow)) ?_
           simp only [Act.put, List.setIfInBounds_toArray, List.set_cons_zero, List.set_cons_succ])
        | (refine SeqS.take1 (v := ?_) (by first | assumption | trivial) (by kernel_rfl) (by decide +kernel) (by decide +kernel) (Or.inl ⟨by rfl, ?_⟩) ?_
           rotate_left
           focus
             intro w' hb'
             go_simp
             with_reducible rfl
           simp only [Act.put, List.setIfInBounds_toArray, List.set_cons_zero, List.set_cons_succ])
        | (refine SeqS.take1 (v := undef) (by first | assumption | trivial) (by kernel_rfl) (by decide +kernel) (by decide +kernel) (Or.inr ⟨by rfl, rfl⟩) ?_
           simp only [Act.put, List.setIfInBounds_toArray, List.set_cons_zero, List.set_cons_succ])
        | (refine SeqS.take2 (v := .agg (c).toArray) (by first | assumption | trivial) (by kernel_rfl) (by decide +kernel) (by decide +kernel) (yields_part (by rfl) 34 (.tmp 51) rfl rfl (fun w' h => FR.out w' (chain up3 h)) (crow)) ?_
           simp only [Act.put, List.setIfInBounds_toArray, List.set_cons_zero, List.set_cons_succ])
        | (refine SeqS.take2 (v := ?_) (by first | assumption | trivial) (by kernel_rfl) (by decide +kernel) (by decide +kernel) (Or.inl ⟨by rfl, ?_⟩) ?_
           rotate_left
           focus
             intro w' hb'
             go_simp
             with_reducible rfl
           simp only [Act.put, List.setIfInBounds_toArray, List.set_cons_zero, List.set_cons_succ])
        | (refine SeqS.take2 (v := undef) (by first | assumption | trivial) (by kernel_rfl) (by decide +kernel) (by decide +kernel) (Or.inr ⟨by rfl, rfl⟩) ?_
           simp only [Act.put, List.setIfInBounds_toArray, List.set_cons_zero, List.set_cons_succ]))
      refine SeqS.alone (by decide +kernel) (by rfl) (fun K hK => ?_)
      go_simp
      go_at_call 25
      refine (C2.out _ (chain up3 S6)).mono ?_
      rintro e w7 ⟨a7, c7, rfl, _, b7⟩
      go_simp
      have S7 : Below w3.heap.size w3 w7 := S6.trans (b7.mono S6.size)
      refine hK _ _ S7 ?_
      clear hK K
      repeat (first
        | (refine SeqS.take (v := ?_) (by first | assumption | trivial) (by kernel_rfl) (by decide +kernel) (by decide +kernel) (Or.inl ⟨by rfl, ?_⟩) ?_
           rotate_left
           focus
             intro w' hb'
             go_simp
             with_reducible rfl
           simp only [Act.put, List.setIfInBounds_toArray, List.set_cons_zero, List.set_cons_succ])
        | (refine SeqS.take (v := undef) (by first | assumption | trivial) (by kernel_rfl) (by decide +kernel) (by decide +kernel) (Or.inr ⟨by rfl, rfl⟩) ?_
           simp only [Act.put, List.setIfInBounds_toArray, List.set_cons_zero, List.set_cons_succ])
        | (refine SeqS.take1 (v := ?_) (by first | assumption | trivial) (by kernel_rfl) (by decide +kernel) (by decide +kernel) (Or.inl ⟨by rfl, ?_⟩) ?_
           rotate_left
           focus
             intro w' hb'
             go_simp
             with_reducible rfl
           simp only [Act.put, List.setIfInBounds_toArray, List.set_cons_zero, List.set_cons_succ])
        | (refine SeqS.take1 (v := undef) (by first | assumption | trivial) (by kernel_rfl) (by decide +kernel) (by decide +kernel) (Or.inr ⟨by rfl, rfl⟩) ?_
           simp only [Act.put, List.setIfInBounds_toArray, List.set_cons_zero, List.set_cons_succ])
        | (refine SeqS.take2 (v := ?_) (by first | assumption | trivial) (by kernel_rfl) (by decide +kernel) (by decide +kernel) (Or.inl ⟨by rfl, ?_⟩) ?_
           rotate_left
           focus
             intro w' hb'
             go_simp
             with_reducible rfl
           simp only [Act.put, List.setIfInBounds_toArray, List.set_cons_zero, List.set_cons_succ])
        | (refine SeqS.take2 (v := undef) (by first | assumption | trivial) (by kernel_rfl) (by decide +kernel) (by decide +kernel) (Or.inr ⟨by rfl, rfl⟩) ?_
           simp only [Act.put, List.setIfInBounds_toArray, List.set_cons_zero, List.set_cons_succ]))
      refine SeqS.done (by decide +kernel) ?_
      have hBz := hBH.out.trans ((chain up3 S7).mono hBH.out.size)
      clear b4 b5 b6 b7 S4 S5 S6 S7 r3 up3 C1 C2 C3 C4 C5 C6 FK FC FR
      go_wp2_with fail
      exact ⟨⟨2 + 1, rfl, by decide, hBz⟩, by decide⟩
    · have hT0 := h1H.out.keep hB
      have bk := b3H.out.keep hB lt3.out
      obtain ⟨n, hn⟩ : ∃ n, D.used = n := ⟨_, rfl⟩
      obtain ⟨r, hr⟩ : ∃ r, D.room = r := ⟨_, rfl⟩
      obtain ⟨f, hf⟩ : ∃ r, D.fuse = r := ⟨_, rfl⟩
      obtain ⟨d, hd⟩ : ∃ r, D.down = r := ⟨_, rfl⟩
      have b4 : Below wr.heap.size wr wr.drew := (Below.refl _ _).drew
      have U := Lib.hid (fun w' (h : Below wr.heap.size wr w') => own_usedL (hT0.keep h).own okH.out n hn)
      have V := Lib.hid (fun w' (h : Below wr.heap.size wr w') => l_used (hT0.keep h) okH.out hTH.out n hn)
      have CR := Lib.hid (fun w' (h : Below wr.heap.size wr w') => l_room (hT0.keep h) okH.out r hr)
      have CF := Lib.hid (fun w' (h : Below wr.heap.size wr w') => l_fuse (hT0.keep h) okH.out f hf)
      have CD := Lib.hid (fun w' (h : Below wr.heap.size wr w') => l_down (hT0.keep h) okH.out d hd)
      have e6 := dcH.out.r
      have e7 := dcH.out.f
      have e8 := dcH.out.d
      rw [hr] at e6
      rw [hf] at e7
      rw [hd] at e8
      have X6 := Lib.hid (fun w' (h : Below wr.heap.size wr w') => ((bk.keep h bk.lt).cell 6).trans e6)
      have X7 := Lib.hid (fun w' (h : Below wr.heap.size wr w') => ((bk.keep h bk.lt).cell 7).trans e7)
      have X8 := Lib.hid (fun w' (h : Below wr.heap.size wr w') => ((bk.keep h bk.lt).cell 8).trans e8)
      have XB := Lib.hid (fun w' (h : Below wr.heap.size wr w') => bk.keep h bk.lt)
      have hBH := Lib.hid hB
      clear hT0 bk hn hr hf hd e6 e7 e8 hB
      go_wp2_with fail
      refine region_seqS (fun w' => Below wr.heap.size wr w') (by kernel_rfl) b4 ?_
      simp only [pairs, Nat.reduceAdd]
      repeat (first
        | (refine SeqS.take (v := .agg (cs).toArray) (by first | assumption | trivial) (by kernel_rfl) (by decide +kernel) (by decide +kernel) (yields_blk (by rfl) 37 (.tmp 3) rfl rfl (fun w' h => XB.out w' h) (hrow)) ?_
           simp only [Act.put, List.setIfInBounds_toArray, List.set_cons_zero, List.set_cons_succ])
        | (refine SeqS.take (v := ?_) (by first | assumption | trivial) (by kernel_rfl) (by decide +kernel) (by decide +kernel) (Or.inl ⟨by rfl, ?_⟩) ?_
           rotate_left
           focus
             intro w' hb'
             go_simp
             with_reducible rfl
           simp only [Act.put, List.setIfInBounds_toArray, List.set_cons_zero, List.set_cons_succ])
        | (refine SeqS.take (v := undef) (by first | assumption | trivial) (by kernel_rfl) (by decide +kernel) (by decide +kernel) (Or.inr ⟨by rfl, rfl⟩) ?_
           simp only [Act.put, List.setIfInBounds_toArray, List.set_cons_zero, List.set_cons_succ])
        | (refine SeqS.take1 (v := .agg (cs).toArray) (by first | assumption | trivial) (by kernel_rfl) (by decide +kernel) (by decide +kernel) (yields_blk (by rfl) 37 (.tmp 3) rfl rfl (fun w' h => XB.out w' h) (hrow)) ?_
           simp only [Act.put, List.setIfInBounds_toArray, List.set_cons_zero, List.set_cons_succ])
        | (refine SeqS.take1 (v := ?_) (by first | assumption | trivial) (by kernel_rfl) (by decide +kernel) (by decide +kernel) (Or.inl ⟨by rfl, ?_⟩) ?_
           rotate_left
           focus
             intro w' hb'
             go_simp
             with_reducible rfl
           simp only [Act.put, List.setIfInBounds_toArray, List.set_cons_zero, List.set_cons_succ])
        | (refine SeqS.take1 (v := undef) (by first | assumption | trivial) (by kernel_rfl) (by decide +kernel) (by decide +kernel) (Or.inr ⟨by rfl, rfl⟩) ?_
           simp only [Act.put, List.setIfInBounds_toArray, List.set_cons_zero, List.set_cons_succ])
        | (refine SeqS.take2 (v := .agg (cs).toArray) (by first | assumption | trivial) (by kernel_rfl) (by decide +kernel) (by decide +kernel) (yields_blk (by rfl) 37 (.tmp 3) rfl rfl (fun w' h => XB.out w' h) (hrow)) ?_
           simp only [Act.put, List.setIfInBounds_toArray, List.set_cons_zero, List.set_cons_succ])
        | (refine SeqS.take2 (v := ?_) (by first | assumption | trivial) (by kernel_rfl) (by decide +kernel) (by decide +kernel) (Or.inl ⟨by rfl, ?_⟩) ?_
           rotate_left
           focus
             intro w' hb'
             go_simp
             with_reducible rfl
           simp only [Act.put, List.setIfInBounds_toArray, List.set_cons_zero, List.set_cons_succ])
        | (refine SeqS.take2 (v := undef) (by first | assumption | trivial) (by kernel_rfl) (by decide +kernel) (by decide +kernel) (Or.inr ⟨by rfl, rfl⟩) ?_
           simp only [Act.put, List.setIfInBounds_toArray, List.set_cons_zero, List.set_cons_succ]))
      refine SeqS.alone (by decide +kernel) (by rfl) (fun K hK => ?_)
      go_simp
      go_at_call 13
      refine (U.out _ b4).mono ?_
      rintro e w1 ⟨rfl, b1⟩
      go_simp
      have S1 : Below wr.heap.size wr w1 := b4.trans (b1.mono b4.size)
      refine hK _ _ S1 ?_
      clear hK K
      repeat (first
        | (refine SeqS.take (v := .agg (cs).toArray) (by first | assumption | trivial) (by kernel_rfl) (by decide +kernel) (by decide +kernel) (yields_blk (by rfl) 37 (.tmp 3) rfl rfl (fun w' h => XB.out w' h) (hrow)) ?_
           simp only [Act.put, List.setIfInBounds_toArray, List.set_cons_zero, List.set_cons_succ])
        | (refine SeqS.take (v := ?_) (by first | assumption | trivial) (by kernel_rfl) (by decide +kernel) (by decide +kernel) (Or.inl ⟨by rfl, ?_⟩) ?_
           rotate_left
           focus
             intro w' hb'
             go_simp
             with_reducible rfl
           simp only [Act.put, List.setIfInBounds_toArray, List.set_cons_zero, List.set_cons_succ])
        | (refine SeqS.take (v := undef) (by first | assumption | trivial) (by kernel_rfl) (by decide +kernel) (by decide +kernel) (Or.inr ⟨by rfl, rfl⟩) ?_
           simp only [Act.put, List.setIfInBounds_toArray, List.set_cons_zero, List.set_cons_succ])
        | (refine SeqS.take1 (v := .agg (cs).toArray) (by first | assumption | trivial) (by kernel_rfl) (by decide +kernel) (by decide +kernel) (yields_blk (by rfl) 37 (.tmp 3) rfl rfl (fun w' h => XB.out w' h) (hrow)) ?_
           simp only [Act.put, List.setIfInBounds_toArray, List.set_cons_zero, List.set_cons_succ])
        | (refine SeqS.take1 (v := ?_) (by first | assumption | trivial) (by kernel_rfl) (by decide +kernel) (by decide +kernel) (Or.inl ⟨by rfl, ?_⟩) ?_
           rotate_left
           focus
             intro w' hb'
             go_simp
             with_reducible rfl
           simp only [Act.put, List.setIfInBounds_toArray, List.set_cons_zero, List.set_cons_succ])
        | (refine SeqS.take1 (v := undef) (by first | assumption | trivial) (by kernel_rfl) (by decide +kernel) (by decide +kernel) (Or.inr ⟨by rfl, rfl⟩) ?_
           simp only [Act.put, List.setIfInBounds_toArray, List.set_cons_zero, List.set_cons_succ])
        | (refine SeqS.take2 (v := .agg (cs).toArray) (by first | assumption | trivial) (by kernel_rfl) (by decide +kernel) (by decide +kernel) (yields_blk (by rfl) 37 (.tmp 3) rfl rfl (fun w' h => XB.out w' h) (hrow)) ?_
           simp only [Act.put, List.setIfInBounds_toArray, List.set_cons_zero, List.set_cons_succ])
        | (refine SeqS.take2 (v := ?_) (by first | assumption | trivial) (by kernel_rfl) (by decide +kernel) (by decide +kernel) (Or.inl ⟨by rfl, ?_⟩) ?_
           rotate_left
           focus
             intro w' hb'
             go_simp
             with_reducible rfl
           simp only [Act.put, List.setIfInBounds_toArray, List.set_cons_zero, List.set_cons_succ])
        | (refine SeqS.take2 (v := undef) (by first | assumption | trivial) (by kernel_rfl) (by decide +kernel) (by decide +kernel) (Or.inr ⟨by rfl, rfl⟩) ?_
           simp only [Act.put, List.setIfInBounds_toArray, List.set_cons_zero, List.set_cons_succ]))
      refine SeqS.alone (by decide +kernel) (by rfl) (fun K hK => ?_)
      go_simp
      go_at_call 29
      refine (V.out _ S1).mono ?_
      rintro e w2 ⟨rfl, b2⟩
      go_simp
      have S2 : Below wr.heap.size wr w2 := S1.trans (b2.mono S1.size)
      refine hK _ _ S2 ?_
      clear hK K
      repeat (first
        | (refine SeqS.take (v := ?_) (by first | assumption | trivial) (by kernel_rfl) (by decide +kernel) (by decide +kernel) (Or.inl ⟨by rfl, ?_⟩) ?_
           rotate_left
           focus
             intro w' hb'
             go_simp
             with_reducible rfl
           simp only [Act.put, List.setIfInBounds_toArray, List.set_cons_zero, List.set_cons_succ])
        | (refine SeqS.take (v := ?_) (by first | assumption | trivial) (by kernel_rfl) (by decide +kernel) (by decide +kernel) (Or.inl ⟨by rfl, ?_⟩) ?_
           rotate_left
           focus
             intro w' hb'
             have d0 := X6.out w' hb'
             go_simp
             with_reducible rfl
           simp only [Act.put, List.setIfInBounds_toArray, List.set_cons_zero, List.set_cons_succ])
        | (refine SeqS.take (v := undef) (by first | assumption | trivial) (by kernel_rfl) (by decide +kernel) (by decide +kernel) (Or.inr ⟨by rfl, rfl⟩) ?_
           simp only [Act.put, List.setIfInBounds_toArray, List.set_cons_zero, List.set_cons_succ])
        | (refine SeqS.take1 (v := ?_) (by first | assumption | trivial) (by kernel_rfl) (by decide +kernel) (by decide +kernel) (Or.inl ⟨by rfl, ?_⟩) ?_
           rotate_left
           focus
             intro w' hb'
             go_simp
             with_reducible rfl
           simp only [Act.put, List.setIfInBounds_toArray, List.set_cons_zero, List.set_cons_succ])
        | (refine SeqS.take1 (v := ?_) (by first | assumption | trivial) (by kernel_rfl) (by decide +kernel) (by decide +kernel) (Or.inl ⟨by rfl, ?_⟩) ?_
           rotate_left
           focus
             intro w' hb'
             have d0 := X6.out w' hb'
             go_simp
             with_reducible rfl
           simp only [Act.put, List.setIfInBounds_toArray, List.set_cons_zero, List.set_cons_succ])
        | (refine SeqS.take1 (v := undef) (by first | assumption | trivial) (by kernel_rfl) (by decide +kernel) (by decide +kernel) (Or.inr ⟨by rfl, rfl⟩) ?_
           simp only [Act.put, List.setIfInBounds_toArray, List.set_cons_zero, List.set_cons_succ])
        | (refine SeqS.take2 (v := ?_) (by first | assumption | trivial) (by kernel_rfl) (by decide +kernel) (by decide +kernel) (Or.inl ⟨by rfl, ?_⟩) ?_
           rotate_left
           focus
             intro w' hb'
             go_simp
             with_reducible rfl
           simp only [Act.put, List.setIfInBounds_toArray, List.set_cons_zero, List.set_cons_succ])
        | (refine SeqS.take2 (v := ?_) (by first | assumption | trivial) (by kernel_rfl) (by decide +kernel) (by decide +kernel) (Or.inl ⟨by rfl, ?_⟩) ?_
           rotate_left
           focus
             intro w' hb'
             have d0 := X6.out w' hb'
             go_simp
             with_reducible rfl
           simp only [Act.put, List.setIfInBounds_toArray, List.set_cons_zero, List.set_cons_succ])
        | (refine SeqS.take2 (v := undef) (by first | assumption | trivial) (by kernel_rfl) (by decide +kernel) (by decide +kernel) (Or.inr ⟨by rfl, rfl⟩) ?_
           simp only [Act.put, List.setIfInBounds_toArray, List.set_cons_zero, List.set_cons_succ]))
      refine SeqS.alone (by decide +kernel) (by rfl) (fun K hK => ?_)
      go_simp
      go_at_call 30
      refine (CR.out _ S2).mono ?_
      rintro e w3 ⟨rfl, b3⟩
      go_simp
      have S3 : Below wr.heap.size wr w3 := S2.trans (b3.mono S2.size)
      refine hK _ _ S3 ?_
      clear hK K
      repeat (first
        | (refine SeqS.take (v := ?_) (by first | assumption | trivial) (by kernel_rfl) (by decide +kernel) (by decide +kernel) (Or.inl ⟨by rfl, ?_⟩) ?_
           rotate_left
           focus
             intro w' hb'
             go_simp
             with_reducible rfl
           simp only [Act.put, List.setIfInBounds_toArray, List.set_cons_zero, List.set_cons_succ])
        | (refine SeqS.take (v := ?_) (by first | assumption | trivial) (by kernel_rfl) (by decide +kernel) (by decide +kernel) (Or.inl ⟨by rfl, ?_⟩) ?_
           rotate_left
           focus
             intro w' hb'
             have d0 := X6.out w' hb'
             go_simp
             with_reducible rfl
           simp only [Act.put, List.setIfInBounds_toArray, List.set_cons_zero, List.set_cons_succ])
        | (refine SeqS.take (v := ?_) (by first | assumption | trivial) (by kernel_rfl) (by decide +kernel) (by decide +kernel) (Or.inl ⟨by rfl, ?_⟩) ?_
           rotate_left
           focus
             intro w' hb'
             have d0 := X7.out w' hb'
             go_simp
             with_reducible rfl
           simp only [Act.put, List.setIfInBounds_toArray, List.set_cons_zero, List.set_cons_succ])
        | (refine SeqS.take (v := undef) (by first | assumption | trivial) (by kernel_rfl) (by decide +kernel) (by decide +kernel) (Or.inr ⟨by rfl, rfl⟩) ?_
           simp only [Act.put, List.setIfInBounds_toArray, List.set_cons_zero, List.set_cons_succ])
        | (refine SeqS.take1 (v := ?_) (by first | assumption | trivial) (by kernel_rfl) (by decide +kernel) (by decide +kernel) (Or.inl ⟨by rfl, ?_⟩) ?_
           rotate_left
           focus
             intro w' hb'
             go_simp
             with_reducible rfl
           simp only [Act.put, List.setIfInBounds_toArray, List.set_cons_zero, List.set_cons_succ])
        | (refine SeqS.take1 (v := ?_) (by first | assumption | trivial) (by kernel_rfl) (by decide +kernel) (by decide +kernel) (Or.inl ⟨by rfl, ?_⟩) ?_
           rotate_left
           focus
             intro w' hb'
             have d0 := X6.out w' hb'
             go_simp
             with_reducible rfl
           simp only [Act.put, List.setIfInBounds_toArray, List.set_cons_zero, List.set_cons_succ])
        | (refine SeqS.take1 (v := ?_) (by first | assumption | trivial) (by kernel_rfl) (by decide +kernel) (by decide +kernel) (Or.inl ⟨by rfl, ?_⟩) ?_
           rotate_left
           focus
             intro w' hb'
             have d0 := X7.out w' hb'
             go_simp
             with_reducible rfl
           simp only [Act.put, List.setIfInBounds_toArray, List.set_cons_zero, List.set_cons_succ])
        | (refine SeqS.take1 (v := undef) (by first | assumption | trivial) (by kernel_rfl) (by decide +kernel) (by decide +kernel) (Or.inr ⟨by rfl, rfl⟩) ?_
           simp only [Act.put, List.setIfInBounds_toArray, List.set_cons_zero, List.set_cons_succ])
        | (refine SeqS.take2 (v := ?_) (by first | assumption | trivial) (by kernel_rfl) (by decide +kernel) (by decide +kernel) (Or.inl ⟨by rfl, ?_⟩) ?_
           rotate_left
           focus
             intro w' hb'
             go_simp
             with_reducible rfl
           simp only [Act.put, List.setIfInBounds_toArray, List.set_cons_zero, List.set_cons_succ])
        | (refine SeqS.take2 (v := ?_) (by first | assumption | trivial) (by kernel_rfl) (by decide +kernel) (by decide +kernel) (Or.inl ⟨by rfl, ?_⟩) ?_
           rotate_left
           focus
             intro w' hb'
             have d0 := X6.out w' hb'
             go_simp
             with_reducible rfl
           simp only [Act.put, List.setIfInBounds_toArray, List.set_cons_zero, List.set_cons_succ])
        | (refine SeqS.take2 (v := ?_) (by first | assumption | trivial) (by kernel_rfl) (by decide +kernel) (by decide +kernel) (Or.inl ⟨by rfl, ?_⟩) ?_
           rotate_left
           focus
             intro w' hb'
             have d0 := X7.out w' hb'
             go_simp
             with_reducible rfl
           simp only [Act.put, List.setIfInBounds_toArray, List.set_cons_zero, List.set_cons_succ])
        | (refine SeqS.take2 (v := undef) (by first | assumption | trivial) (by kernel_rfl) (by decide +kernel) (by decide +kernel) (Or.inr ⟨by rfl, rfl⟩) ?_
           simp only [Act.put, List.setIfInBounds_toArray, List.set_cons_zero, List.set_cons_succ]))
      refine SeqS.alone (by decide +kernel) (by rfl) (fun K hK => ?_)
      go_simp
      go_at_call 31
      refine (CF.out _ S3).mono ?_
      rintro e w4 ⟨rfl, b4⟩
      go_simp
      have S4 : Below wr.heap.size wr w4 := S3.trans (b4.mono S3.size)
      refine hK _ _ S4 ?_
      clear hK K
      repeat (first
        | (refine SeqS.take (v := ?_) (by first | assumption | trivial) (by kernel_rfl) (by decide +kernel) (by decide +kernel) (Or.inl ⟨by rfl, ?_⟩) ?_
           rotate_left
           focus
             intro w' hb'
             go_simp
             with_reducible rfl
           simp only [Act.put, List.setIfInBounds_toArray, List.set_cons_zero, List.set_cons_succ])
        | (refine SeqS.take (v := ?_) (by first | assumption | trivial) (by kernel_rfl) (by decide +kernel) (by decide +kernel) (Or.inl ⟨by rfl, ?_⟩) ?_
           rotate_left
           focus
             intro w' hb'
             have d0 := X7.out w' hb'
             go_simp
             with_reducible rfl
           simp only [Act.put, List.setIfInBounds_toArray, List.set_cons_zero, List.set_cons_succ])
        | (refine SeqS.take (v := ?_) (by first | assumption | trivial) (by kernel_rfl) (by decide +kernel) (by decide +kernel) (Or.inl ⟨by rfl, ?_⟩) ?_
           rotate_left
           focus
             intro w' hb'
             have d0 := X8.out w' hb'
             go_simp
             with_reducible rfl
           simp only [Act.put, List.setIfInBounds_toArray, List.set_cons_zero, List.set_cons_succ])
        | (refine SeqS.take (v := undef) (by first | assumption | trivial) (by kernel_rfl) (by decide +kernel) (by decide +kernel) (Or.inr ⟨by rfl, rfl⟩) ?_
           simp only [Act.put, List.setIfInBounds_toArray, List.set_cons_zero, List.set_cons_succ])
        | (refine SeqS.take1 (v := ?_) (by first | assumption | trivial) (by kernel_rfl) (by decide +kernel) (by decide +kernel) (Or.inl ⟨by rfl, ?_⟩) ?_
           rotate_left
           focus
             intro w' hb'
             go_simp
             with_reducible rfl
           simp only [Act.put, List.setIfInBounds_toArray, List.set_cons_zero, List.set_cons_succ])
        | (refine SeqS.take1 (v := ?_) (by first | assumption | trivial) (by kernel_rfl) (by decide +kernel) (by decide +kernel) (Or.inl ⟨by rfl, ?_⟩) ?_
           rotate_left
           focus
             intro w' hb'
             have d0 := X7.out w' hb'
             go_simp
             with_reducible rfl
           simp only [Act.put, List.setIfInBounds_toArray, List.set_cons_zero, List.set_cons_succ])
        | (refine SeqS.take1 (v := ?_) (by first | assumption | trivial) (by kernel_rfl) (by decide +kernel) (by decide +kernel) (Or.inl ⟨by rfl, ?_⟩) ?_
           rotate_left
           focus
             intro w' hb'
             have d0 := X8.out w' hb'
             go_simp
             with_reducible rfl
           simp only [Act.put, List.setIfInBounds_toArray, List.set_cons_zero, List.set_cons_succ])
        | (refine SeqS.take1 (v := undef) (by first | assumption | trivial) (by kernel_rfl) (by decide +kernel) (by decide +kernel) (Or.inr ⟨by rfl, rfl⟩) ?_
           simp only [Act.put, List.setIfInBounds_toArray, List.set_cons_zero, List.set_cons_succ])
        | (refine SeqS.take2 (v := ?_) (by first | assumption | trivial) (by kernel_rfl) (by decide +kernel) (by decide +kernel) (Or.inl ⟨by rfl, ?_⟩) ?_
           rotate_left
           focus
             intro w' hb'
             go_simp
             with_reducible rfl
           simp only [Act.put, List.setIfInBounds_toArray, List.set_cons_zero, List.set_cons_succ])
        | (refine SeqS.take2 (v := ?_) (by first | assumption | trivial) (by kernel_rfl) (by decide +kernel) (by decide +kernel) (Or.inl ⟨by rfl, ?_⟩) ?_
           rotate_left
           focus
             intro w' hb'
             have d0 := X7.out w' hb'
             go_simp
             with_reducible rfl
           simp only [Act.put, List.setIfInBounds_toArray, List.set_cons_zero, List.set_cons_succ])
        | (refine SeqS.take2 (v := ?_) (by first | assumption | trivial) (by kernel_rfl) (by decide +kernel) (by decide +kernel) (Or.inl ⟨by rfl, ?_⟩) ?_
           rotate_left
           focus
             intro w' hb'
             have d0 := X8.out w' hb'
             go_simp
             with_reducible rfl
           simp only [Act.put, List.setIfInBounds_toArray, List.set_cons_zero, List.set_cons_succ])
        | (refine SeqS.take2 (v := undef) (by first | assumption | trivial) (by kernel_rfl) (by decide +kernel) (by decide +kernel) (Or.inr ⟨by rfl, rfl⟩) ?_
           simp only [Act.put, List.setIfInBounds_toArray, List.set_cons_zero, List.set_cons_succ]))
      refine SeqS.alone (by decide +kernel) (by rfl) (fun K hK => ?_)
      go_simp
      go_at_call 32
      refine (CD.out _ S4).mono ?_
      rintro e w5 ⟨rfl, b5⟩
      go_simp
      have S5 : Below wr.heap.size wr w5 := S4.trans (b5.mono S4.size)
      refine hK _ _ S5 ?_
      clear hK K
      repeat (first
        | (refine SeqS.take (v := ?_) (by first | assumption | trivial) (by kernel_rfl) (by decide +kernel) (by decide +kernel) (Or.inl ⟨by rfl, ?_⟩) ?_
           rotate_left
           focus
             intro w' hb'
             go_simp
             with_reducible rfl
           simp only [Act.put, List.setIfInBounds_toArray, List.set_cons_zero, List.set_cons_succ])
        | (refine SeqS.take (v := ?_) (by first | assumption | trivial) (by kernel_rfl) (by decide +kernel) (by decide +kernel) (Or.inl ⟨by rfl, ?_⟩) ?_
           rotate_left
           focus
             intro w' hb'
             have d0 := X8.out w' hb'
             go_simp
             with_reducible rfl
           simp only [Act.put, List.setIfInBounds_toArray, List.set_cons_zero, List.set_cons_succ])
        | (refine SeqS.take (v := undef) (by first | assumption | trivial) (by kernel_rfl) (by decide +kernel) (by decide +kernel) (Or.inr ⟨by rfl, rfl⟩) ?_
           simp only [Act.put, List.setIfInBounds_toArray, List.set_cons_zero, List.set_cons_succ])
        | (refine SeqS.take1 (v := ?_) (by first | assumption | trivial) (by kernel_rfl) (by decide +kernel) (by decide +kernel) (Or.inl ⟨by rfl, ?_⟩) ?_
           rotate_left
           focus
             intro w' hb'
             go_simp
             with_reducible rfl
           simp only [Act.put, List.setIfInBounds_toArray, List.set_cons_zero, List.set_cons_succ])
        | (refine SeqS.take1 (v := ?_) (by first | assumption | trivial) (by kernel_rfl) (by decide +kernel) (by decide +kernel) (Or.inl ⟨by rfl, ?_⟩) ?_
           rotate_left
           focus
             intro w' hb'
             have d0 := X8.out w' hb'
             go_simp
             with_reducible rfl
           simp only [Act.put, List.setIfInBounds_toArray, List.set_cons_zero, List.set_cons_succ])
        | (refine SeqS.take1 (v := undef) (by first | assumption | trivial) (by kernel_rfl) (by decide +kernel) (by decide +kernel) (Or.inr ⟨by rfl, rfl⟩) ?_
           simp only [Act.put, List.setIfInBounds_toArray, List.set_cons_zero, List.set_cons_succ])
        | (refine SeqS.take2 (v := ?_) (by first | assumption | trivial) (by kernel_rfl) (by decide +kernel) (by decide +kernel) (Or.inl ⟨by rfl, ?_⟩) ?_
           rotate_left
           focus
             intro w' hb'
             go_simp
             with_reducible rfl
           simp only [Act.put, List.setIfInBounds_toArray, List.set_cons_zero, List.set_cons_succ])
        | (refine SeqS.take2 (v := ?_) (by first | assumption | trivial) (by kernel_rfl) (by decide +kernel) (by decide +kernel) (Or.inl ⟨by rfl, ?_⟩) ?_
           rotate_left
           focus
             intro w' hb'
             have d0 := X8.out w' hb'
             go_simp
             with_reducible rfl
           simp only [Act.put, List.setIfInBounds_toArray, List.set_cons_zero, List.set_cons_succ])
        | (refine SeqS.take2 (v := undef) (by first | assumption | trivial) (by kernel_rfl) (by decide +kernel) (by decide +kernel) (Or.inr ⟨by rfl, rfl⟩) ?_
           simp only [Act.put, List.setIfInBounds_toArray, List.set_cons_zero, List.set_cons_succ]))
      refine SeqS.done (by decide +kernel) ?_
      have hBz := qH.out.trans ((hBH.out.trans (S5.mono hBH.out.size)).mono qH.out.size)
      clear b1 b2 b3 b4 b5 S1 S2 S3 S4 S5 U V CR CF CD X6 X7 X8 XB
      go_wp2
      go_ret
      exact ⟨rfl, hBz⟩
end Go.Proofs.Ytmnfagpbcllbgaa

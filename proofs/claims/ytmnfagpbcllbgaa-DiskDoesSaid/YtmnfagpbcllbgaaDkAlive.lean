/-
  The document's example (layer 18): what alive comes to. New memory alone is written. No conditions.
-/
import Derived.Test.YtmnfagpbcllbgaaDkClone
namespace Go.Proofs.Ytmnfagpbcllbgaa
open Go.RowKit

theorem DkTo.is {L : Nat → Nat} {P : Nat → Prop} {w w' : World} {g : Nat} {D : DkV} (h : DkTo L P w g w' D) : ∃ L' P', DkIs L' P' w' g D ∧ Went L P w L' P' w' := h
theorem row_ints (w : World) (t : TypeId) (k : IntKind) (xs : List Int) : Ints k (w.alloc (.cells (xs.map (Value.int k)).toArray t)) (some ⟨w.heap.size, 0, none⟩) xs.length xs.length xs :=
  Ints.of_blk (Blk.new w t (xs.map (Value.int k))) rfl (Nat.le_refl _) (fun i hi => by rw [Nat.zero_add]; exact getElem?_mapInt k xs i hi)
/-- New memory, and a new disk's own. -/
theorem below_new {B : Nat} {L L' : Nat → Nat} {P P' : Nat → Prop} {w0 w w' : World} (h : Went L P w L' P' w') (hb : Below B w0 w) (hB : B ≤ w.heap.size) (hl : ∀ b, L b ≠ 0 → B ≤ b) : Below B w0 w' :=
  hb.trans ⟨h.m.1.os, h.m.1.tape, h.m.1.output, h.m.1.size, fun i hi => h.m.2 i (Nat.lt_of_lt_of_le hi hB) (fun hn => absurd (hl i hn) (Nat.not_le.2 hi))⟩
theorem Went.low {B : Nat} {L L' : Nat → Nat} {P P' : Nat → Prop} {w w' : World} (h : Went L P w L' P' w') (hl : ∀ b, L b ≠ 0 → B ≤ b) (hB : B ≤ w.heap.size) : ∀ b, L' b ≠ 0 → B ≤ b := fun b hb => by
  by_cases hlt : b < w.heap.size
  · rw [h.l b hlt] at hb
    exact hl b hb
  · omega
/-- A disk of the call's own: its blocks are no lower than B. -/
structure DkOwn (B : Nat) (w0 w : World) (g : Nat) (D : DkV) : Prop where
  is : ∃ L P, DkIs L P w g D ∧ ∀ b, L b ≠ 0 → B ≤ b
  b : Below B w0 w
  s : B ≤ w.heap.size
theorem DkOwn.to {B : Nat} {w0 w w' : World} {g : Nat} {D' : DkV} {L : Nat → Nat} {P : Nat → Prop} (hb : Below B w0 w) (hs : B ≤ w.heap.size) (hl : ∀ b, L b ≠ 0 → B ≤ b) (h : DkTo L P w g w' D') : DkOwn B w0 w' g D' := by
  obtain ⟨L', P', h1, h2⟩ := h
  exact ⟨⟨L', P', h1, h2.low hl hs⟩, below_new h2 hb hs hl, Nat.le_trans hs h2.m.size⟩
theorem DkOwn.keep {B : Nat} {w0 w w' : World} {g : Nat} {D : DkV} (h : DkOwn B w0 w g D) (hb : Below w.heap.size w w') : DkOwn B w0 w' g D := by
  obtain ⟨L, P, h1, h2⟩ := h.is
  exact ⟨⟨L, P, h1.keep hb, h2⟩, h.b.trans (hb.mono h.s), Nat.le_trans h.s hb.size⟩
theorem own_append {B : Nat} {w0 w : World} {g : Nat} {D : DkV} {T : Nat} {file : Int} {a : Option Addr} {n c : Nat} {bs : List Int} (h : DkOwn B w0 w g D) (hO : D.Ok T) (hT : T < 4398046511104) (hI : Ints .u8 w a n c bs) :
    Calls Try.prog 15 #[.pointer (some ⟨g, 0, none⟩), .int .i64 file, .slice a n c] w fun q w' => q = .returned (.int .i64 (apD D file bs).2) ∧ DkOwn B w0 w' g (apD D file bs).1 := by
  obtain ⟨L, P, h1, h2⟩ := h.is
  exact (dAppend_any h1 hO hT hI).mono fun q w' ⟨e, k⟩ => ⟨e, DkOwn.to h.b h.s h2 k⟩
theorem own_cut {B : Nat} {w0 w : World} {g : Nat} {D : DkV} {T : Nat} {file n : Int} (h : DkOwn B w0 w g D) (hO : D.Ok T) (hT : T < 4398046511104) :
    Calls Try.prog 20 #[.pointer (some ⟨g, 0, none⟩), .int .i64 file, .int .i64 n] w fun q w' => q = .returned (.int .i64 (ctD D file n).2) ∧ DkOwn B w0 w' g (ctD D file n).1 := by
  obtain ⟨L, P, h1, h2⟩ := h.is
  exact (dCut_any h1 hO hT).mono fun q w' ⟨e, k⟩ => ⟨e, DkOwn.to h.b h.s h2 k⟩
theorem own_sync {B : Nat} {w0 w : World} {g : Nat} {D : DkV} {T : Nat} {file : Int} (h : DkOwn B w0 w g D) (hO : D.Ok T) (hT : T < 4398046511104) :
    Calls Try.prog 16 #[.pointer (some ⟨g, 0, none⟩), .int .i64 file] w fun q w' => q = .returned (.int .i64 (syD D file).2) ∧ DkOwn B w0 w' g (syD D file).1 := by
  obtain ⟨L, P, h1, h2⟩ := h.is
  exact (dSync_any h1 hO (by omega)).mono fun q w' ⟨e, k⟩ => ⟨e, DkOwn.to h.b h.s h2 k⟩
theorem own_arm {B : Nat} {w0 w : World} {g : Nat} {D : DkV} {T : Nat} {n : Int} (h : DkOwn B w0 w g D) (hO : D.Ok T) :
    Calls Try.prog 22 #[.pointer (some ⟨g, 0, none⟩), .int .i64 n] w fun q w' => q = .returned (.tuple #[]) ∧ DkOwn B w0 w' g (armD D n) := by
  obtain ⟨L, P, h1, h2⟩ := h.is
  exact (dArmD h1 hO n).mono fun q w' ⟨e, k⟩ => ⟨e, DkOwn.to h.b h.s h2 k⟩
/-- The numbers lie in new memory, or below the disk's own. -/
theorem own_crash {B : Nat} {w0 w1 w : World} {g : Nat} {D : DkV} {T : Nat} {a : Option Addr} {n c : Nat} {us : List Int} (h : DkOwn B w0 w1 g D) (hk : Below w1.heap.size w1 w) (hO : D.Ok T) (hT : T < 4398046511104) (hI : Ints .i64 w a n c us) (ho : ∀ x, a = some x → 0 < n → w1.heap.size ≤ x.block ∨ x.block < B) :
    Calls Try.prog 12 #[.pointer (some ⟨g, 0, none⟩), .slice a n c] w fun q w' => q = .returned (.tuple #[]) ∧ DkOwn B w0 w' g (crD D us) := by
  obtain ⟨L, P, h1, h2⟩ := h.is
  have hO2 : OutOf L a n := fun x hx hn => by
    by_cases h0 : L x.block = 0
    · exact h0
    · have k1 := h2 _ h0
      obtain ⟨x0, x1, x2, hd⟩ := h1
      have k2 := hd.lab.l _ h0
      rcases ho x hx hn with h | h <;> omega
  exact (dCrash_any (h1.keep hk) hO (by omega) hI hO2).mono fun q w' ⟨e, k⟩ => ⟨e, DkOwn.to (h.b.trans (hk.mono h.s)) (Nat.le_trans h.s hk.size) h2 k⟩
theorem own_read {B : Nat} {w0 w : World} {g : Nat} {D : DkV} {T : Nat} (h : DkOwn B w0 w g D) (hO : D.Ok T) (i : Nat) (hi : i < 3) :
    Calls Try.prog 17 #[.pointer (some ⟨g, 0, none⟩), .int .i64 (i : Int)] w fun q w' => Tells w q w' (D.f i).held := by
  obtain ⟨L, P, ⟨x0, x1, x2, h1⟩, h2⟩ := h.is
  exact dRead_any h1 hO i hi
theorem new_own {w : World} (r : Int) (h : 1 ≤ r ∧ r ≤ 65536) :
    Calls Try.prog 7 #[.int .i64 r] w fun q w' => ∃ g, q = .returned (.tuple #[.pointer (some ⟨g, 0, none⟩), .int .i64 0]) ∧ DkOwn w.heap.size w w' g (dk0 r) := by
  refine (dNew_any r h).mono ?_
  rintro q w' ⟨g, L, e, k, hl, hb⟩
  exact ⟨g, e, ⟨⟨L, _, ⟨_, _, _, k⟩, hl⟩, hb, hb.size⟩⟩

def exB : DkV := ⟨10, 0, false, ⟨[1, 2, 3], []⟩, ⟨[], []⟩, ⟨[], []⟩⟩
theorem ex1 : apD (dk0 10) 0 [1, 2, 3] = (⟨10, 0, false, ⟨[], [.put [1, 2, 3]]⟩, ⟨[], []⟩, ⟨[], []⟩⟩, 0) := by rfl
theorem ex2 : syD ⟨10, 0, false, ⟨[], [.put [1, 2, 3]]⟩, ⟨[], []⟩, ⟨[], []⟩⟩ 0 = (exB, 0) := by rfl
theorem ex3 : apD exB 0 [4, 5] = (⟨10, 0, false, ⟨[1, 2, 3], [.put [4, 5]]⟩, ⟨[], []⟩, ⟨[], []⟩⟩, 0) := by rfl
theorem ex4 : crD ⟨10, 0, false, ⟨[1, 2, 3], [.put [4, 5]]⟩, ⟨[], []⟩, ⟨[], []⟩⟩ [1] = ⟨10, 0, false, ⟨[1, 2, 3, 4], []⟩, ⟨[], []⟩, ⟨[], []⟩⟩ := by rfl

set_option maxRecDepth 100000 in
set_option maxHeartbeats 2000000 in
theorem alive18_any (w : World) : Calls Try.prog 6 #[] w fun q w' => q = .returned (.bool true) ∧ Below w.heap.size w w' := by
  have hN := new_own (w := w) 10 (by decide)
  have o0 := dk0_ok 10 (by decide)
  have o1 := apD_ok o0 0 [1, 2, 3]
  rw [ex1] at o1
  have o2 := syD_ok o1 0
  have o2 : exB.Ok 1 := by rw [ex2] at o2; exact o2
  have o3 := apD_ok o2 0 [4, 5]
  rw [ex3] at o3
  have o4 := crD_ok o3 [1]
  rw [ex4] at o4
  have o0H := Lib.hid o0
  have o1H := Lib.hid o1
  have o2H := Lib.hid o2
  have o3H := Lib.hid o3
  have o4H := Lib.hid o4
  clear o0 o1 o2 o3 o4
  go_enter Try.func6, Try.ntmps6
  go_wp2_with fail
  refine hN.mono ?_
  rintro q w1 ⟨g, rfl, h1⟩
  go_wp2_with fail
  have b1 := below1 w1 (.cells #[.int .u8 1, .int .u8 2, .int .u8 3] 5)
  have I1 := row_ints w1 5 .u8 [1, 2, 3]
  have c1 := own_append (file := 0) (h1.keep b1) o0H.out (by decide) I1
  rw [ex1] at c1
  refine c1.mono ?_
  rintro q w2 ⟨rfl, h2⟩
  have c2 := own_sync (file := 0) h2 o1H.out (by decide)
  rw [ex2] at c2
  clear c1 I1 b1 h1
  go_wp2_with fail
  refine c2.mono ?_
  rintro q w3 ⟨rfl, h3⟩
  clear c2 h2
  go_wp2_with fail
  have b3 := below1 w3 (.cells #[.int .u8 4, .int .u8 5] 5)
  have I3 := row_ints w3 5 .u8 [4, 5]
  have c3 := own_append (file := 0) (h3.keep b3) o2H.out (by decide) I3
  rw [ex3] at c3
  refine c3.mono ?_
  rintro q w4 ⟨rfl, h4⟩
  clear c3 I3 b3 h3
  go_wp2_with fail
  have b4 := below1 w4 (.cells #[.int .i64 1] 3)
  have I4 := row_ints w4 3 .i64 [1]
  have c4 := own_crash h4 b4 o3H.out (by decide) I4 (fun x hx _ => .inl (by injection hx with hx; rw [← hx]; exact Nat.le_refl _))
  rw [ex4] at c4
  refine c4.mono ?_
  rintro q w5 ⟨rfl, h5⟩
  have c5 := own_read h5 o4H.out 0 (by decide)
  have hb5 := h5.b
  have hs5 := h5.s
  clear c4 I4 b4 h4 h5
  go_wp2_with fail
  refine c5.mono ?_
  rintro q w6 ⟨b, c, rfl, ho, hB6⟩
  have hI6 := own_ints' ho
  have hstr := hI6.string (P := Try.prog) 31 9 5 Try.underlying31 Try.underlying5 Try.underlying9
  have hst2 : strOfNums (DkV.f ⟨10, 0, false, ⟨[1, 2, 3, 4], []⟩, ⟨[], []⟩, ⟨[], []⟩⟩ 0).held = { data := #[1, 2, 3, 4] } := by rfl
  rw [hst2] at hstr
  have hBE := hb5.trans (hB6.mono hs5)
  clear ho hI6 hst2 c5 hb5 hs5
  go_wp2
  go_ret
  exact ⟨rfl, hBE⟩
end Go.Proofs.Ytmnfagpbcllbgaa

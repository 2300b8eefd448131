/-
  Texts of stages that were proved on their own, joined: SlTwo, SlLike, SlStepM, SlSt0, SlSt2, SlSt3. Each begins with its own words.
-/
import Derived.Test.YtcohbhimhacedaaGreatDoorSeqK
import Derived.Test.YtcohbhimhacedaaGreatDoorJSzAll15
import Derived.Test.YtcohbhimhacedaaGreatDoorJSzAll33
import Derived.Test.YtcohbhimhacedaaGreatDoorJSzAll35
import Derived.Test.YtcohbhimhacedaaGreatDoorJSzAll6
import Derived.Test.YtcohbhimhacedaaGreatDoorJSzAll8
import Derived.Test.YtcohbhimhacedaaGreatDoorSteps

/-
  The law SlotDoes: the landed slots and the document's, over both disks side by side. New memory is written, the landed disk's own and the landed slots'. Conditions: the disks have at most 3518437208880 steps; the files hold bytes.
-/
namespace Go.Proofs.YtcohbhimhacedaaGreatDoor
open Go.RowKit

theorem SlAt.inR {w w' : World} {R : Nat → Prop} {cs : List Value} {s : SlV} (h : SlAt w R cs s) (hk : ∀ b, R b → b < w.heap.size → w'.heap[b]? = w.heap[b]?) : SlAt w' R cs s := by
  obtain ⟨a, n, c, e, hI, hn⟩ := h
  exact ⟨a, n, c, e, ints_inR hI hn hk, hn⟩
theorem SlAt.wide {w : World} {Q Q' : Nat → Prop} {cs : List Value} {s : SlV} (h : SlAt w Q cs s) (hq : ∀ b, b < w.heap.size → Q b → Q' b) : SlAt w Q' cs s := by
  obtain ⟨a, n, c, e, hI, hn⟩ := h
  exact ⟨a, n, c, e, hI, fun y hy h0 => hq _ (hI.isIn.2 y hy h0) (hn y hy h0)⟩
section
variable {L : Nat → Nat} {P R E E' : Nat → Prop} {B : Nat} {w0 w w' : World} {g : Nat} {cs cs' : List Value} {D D' D2 : DkV}
theorem TwoAt.keepE (h : TwoAt L P R E B w0 w g cs D D') (hb : Below w.heap.size w w') (hE : ∀ b, E' b → E b ∨ (w.heap.size ≤ b ∧ b < w'.heap.size)) : TwoAt L P R E' B w0 w' g cs D D' := by
  have hs := hb.size
  refine ⟨h.k.keep hb, h.r.keep hb, fun b hb => ⟨Nat.lt_of_lt_of_le (h.rl b hb).1 hs, (h.rl b hb).2⟩, h.lb, fun b he => ?_, h.b.trans (hb.mono h.s), Nat.le_trans h.s hs⟩
  rcases hE b he with he | he
  · exact ⟨Nat.lt_of_lt_of_le (h.e b he).1 hs, (h.e b he).2⟩
  · refine ⟨he.2, ?_, fun hr => absurd (h.rl b hr).1 (Nat.not_lt.2 he.1), fun hp => absurd (h.k.plt b hp) (Nat.not_lt.2 he.1)⟩
    by_cases h0 : L b = 0
    · exact h0
    · have := h.k.lt b h0
      omega
theorem TwoAt.grown (h : TwoAt L P R E B w0 w g cs D D') {G : Nat} (hg : w.grownBy w' (some G)) (hG : E G) (hB : B ≤ G) : TwoAt L P R E B w0 w' g cs D D' ∧ ∀ b, R b → b < w.heap.size → w'.heap[b]? = w.heap[b]? := by
  have hs := hg.size
  obtain ⟨e1, e2, e3, e4⟩ := h.e G hG
  have hm : Moved (fun b => b = G) w w' := moved_set rfl hg
  have hr : ∀ b, R b → b < w.heap.size → w'.heap[b]? = w.heap[b]? := fun b hb hl => hm.2 b hl (fun e => e3 (e ▸ hb))
  refine ⟨⟨h.k.far hm (fun b hb e => ?_), h.r.same hr (fun _ h => h), fun b hb => ⟨Nat.lt_of_lt_of_le (h.rl b hb).1 hs, (h.rl b hb).2⟩, h.lb, fun b he => ⟨Nat.lt_of_lt_of_le (h.e b he).1 hs, (h.e b he).2⟩, h.b.grown hg h.s (fun q hq => by injection hq with hq; rw [← hq]; exact hB), Nat.le_trans h.s hs⟩, hr⟩
  subst e
  exact hb.elim (fun h => h e2) e4
theorem TwoAt.docR (h : TwoAt L P R E B w0 w g cs D D') (hr : RDisk (fun b => R b ∨ w.heap.size ≤ b) w' cs' D2) (hb : Below w.heap.size w w') : TwoAt L P (fun b => (R b ∨ w.heap.size ≤ b) ∧ b < w'.heap.size) E B w0 w' g cs' D D2 := by
  have hs := hb.size
  refine ⟨h.k.keep hb, hr.lt, fun b hb => ⟨hb.2, ?_⟩, h.lb, fun b he => ?_, h.b.trans (hb.mono h.s), Nat.le_trans h.s hs⟩
  · rcases hb.1 with h1 | h1
    · exact (h.rl b h1).2
    · by_cases h0 : L b = 0
      · exact h0
      · have := h.k.lt b h0
        omega
  · obtain ⟨e1, e2, e3, e4⟩ := h.e b he
    exact ⟨Nat.lt_of_lt_of_le e1 hs, e2, fun hn => hn.1.elim e3 (fun h => by omega), e4⟩
theorem TwoAt.progR {L' : Nat → Nat} {P' : Nat → Prop} (h : TwoAt L P R E B w0 w g cs D D') (h1 : DkIs L' P' w' g D2) (h2 : Went L P w L' P' w') : TwoAt L' P' R E B w0 w' g cs D2 D' ∧ (∀ b, E b → w'.heap[b]? = w.heap[b]?) ∧ ∀ b, R b → b < w.heap.size → w'.heap[b]? = w.heap[b]? := by
  have hs : w.heap.size ≤ w'.heap.size := h2.m.size
  have hmv : ∀ b, b < w.heap.size → L b = 0 → w'.heap[b]? = w.heap[b]? := fun b hb h0 => h2.m.2 b hb (fun hn => hn h0)
  have hr : ∀ b, R b → b < w.heap.size → w'.heap[b]? = w.heap[b]? := fun b hb _ => hmv b (h.rl b hb).1 (h.rl b hb).2
  refine ⟨⟨h1, h.r.same hr (fun _ h => h), fun b hb => ⟨Nat.lt_of_lt_of_le (h.rl b hb).1 hs, (h2.l b (h.rl b hb).1).trans (h.rl b hb).2⟩, h2.low h.lb h.s, fun b he => ?_, below_new h2 h.b h.s h.lb, Nat.le_trans h.s hs⟩, fun b he => hmv b (h.e b he).1 (h.e b he).2.1, hr⟩
  obtain ⟨e1, e2, e3, e4⟩ := h.e b he
  exact ⟨Nat.lt_of_lt_of_le e1 hs, (h2.l b e1).trans e2, e3, fun hp => (h2.q b hp).elim e4 (fun h => by omega)⟩
theorem TwoAt.lessE (h : TwoAt L P R E B w0 w g cs D D') (hE : ∀ b, E' b → E b) : TwoAt L P R E' B w0 w g cs D D' := ⟨h.k, h.r, h.rl, h.lb, fun b hb => h.e b (hE b hb), h.b, h.s⟩
end

/-- Both disks, and the document's slots sc, whose snapshot is written by neither. -/
def T21 (E : Nat → Prop) (B : Nat) (w0 w : World) (g : Nat) (cs sc : List Value) (D D' : DkV) (s : SlV) : Prop := ∃ L P R, TwoAt L P R E B w0 w g cs D D' ∧ SlAt w R sc s
section
variable {E E' : Nat → Prop} {B : Nat} {w0 w w' : World} {g : Nat} {cs cs' sc : List Value} {D D' D2 : DkV} {s s2 : SlV} {T : Nat} {e : Int} {so fb : Nat}
theorem T21.two (h : T21 E B w0 w g cs sc D D' s) : Two E B w0 w g cs D D' := by
  obtain ⟨L, P, R, h, _⟩ := h
  exact ⟨L, P, R, h⟩
theorem T21.b (h : T21 E B w0 w g cs sc D D' s) : Below B w0 w := h.two.b
theorem T21.sz (h : T21 E B w0 w g cs sc D D' s) : B ≤ w.heap.size := h.two.s
theorem T21.lt (h : T21 E B w0 w g cs sc D D' s) : ∀ b, E b → b < w.heap.size := h.two.elt
theorem T21.keepE (h : T21 E B w0 w g cs sc D D' s) (hb : Below w.heap.size w w') (hE : ∀ b, E' b → E b ∨ (w.heap.size ≤ b ∧ b < w'.heap.size)) : T21 E' B w0 w' g cs sc D D' s := by
  obtain ⟨L, P, R, h, hs⟩ := h
  exact ⟨L, P, R, h.keepE hb hE, hs.keep hb⟩
theorem T21.keep (h : T21 E B w0 w g cs sc D D' s) (hb : Below w.heap.size w w') : T21 E B w0 w' g cs sc D D' s := h.keepE hb (fun _ h => .inl h)
theorem T21.grown (h : T21 E B w0 w g cs sc D D' s) {G : Nat} (hg : w.grownBy w' (some G)) (hG : E G) (hB : B ≤ G) : T21 E B w0 w' g cs sc D D' s := by
  obtain ⟨L, P, R, h, hs⟩ := h
  obtain ⟨h1, h2⟩ := h.grown hg hG hB
  exact ⟨L, P, R, h1, hs.inR h2⟩
theorem T21.less (h : T21 E B w0 w g cs sc D D' s) (hE : ∀ b, E' b → E b) : T21 E' B w0 w g cs sc D D' s := by
  obtain ⟨L, P, R, h, hs⟩ := h
  exact ⟨L, P, R, h.lessE hE, hs⟩
/-- Behind a call of the document's disk. -/
theorem T21.doc {L : Nat → Nat} {P R : Nat → Prop} (h : TwoAt L P R E B w0 w g cs D D') (hs : SlAt w R sc s) (hr : RDisk (fun b => R b ∨ w.heap.size ≤ b) w' cs' D2) (hb : Below w.heap.size w w') : T21 E B w0 w' g cs' sc D D2 s :=
  ⟨L, P, _, h.docR hr hb, (hs.keep hb).wide (fun _ hl hq => ⟨.inl hq, hl⟩)⟩
/-- Behind a call of the landed disk. -/
theorem T21.prog {L : Nat → Nat} {P R : Nat → Prop} (h : TwoAt L P R E B w0 w g cs D D') (hs : SlAt w R sc s) (hk : DkTo L P w g w' D2) : T21 E B w0 w' g cs sc D2 D' s ∧ Same E w w' := by
  obtain ⟨L', P', h1, h2⟩ := hk
  obtain ⟨k1, k2, k3⟩ := h.progR h1 h2
  exact ⟨⟨L', P', R, k1, hs.inR k3⟩, k2⟩

/-! ### The landed disk's calls, and the document's -/

theorem u_append {a : Option Addr} {n c : Nat} {bs : List Int} (file : Int) (h : T21 E B w0 w g cs sc D D' s) (hO : D.Ok T) (hT : T < 4398046511104) (hI : Ints .u8 w a n c bs) (he : apD D file bs = (D2, e)) :
    Calls Tryz.prog 7 #[.pointer (some ⟨g, 0, none⟩), .int .i64 file, .slice a n c] w fun q w' => q = .returned (.int .i64 e) ∧ T21 E B w0 w' g cs sc D2 D' s ∧ Same E w w' := by
  obtain ⟨L, P, R, h, hs⟩ := h
  have hc := dAppend_any (file := file) h.k hO hT hI
  rw [he] at hc
  exact hc.mono fun q w' ⟨e, k⟩ => ⟨e, T21.prog h hs k⟩

theorem u_sync (file : Int) (h : T21 E B w0 w g cs sc D D' s) (hO : D.Ok T) (hT : T < 4398046511104) (he : syD D file = (D2, e)) :
    Calls Tryz.prog 38 #[.pointer (some ⟨g, 0, none⟩), .int .i64 file] w fun q w' => q = .returned (.int .i64 e) ∧ T21 E B w0 w' g cs sc D2 D' s ∧ Same E w w' := by
  obtain ⟨L, P, R, h, hs⟩ := h
  have hc := dSync_any (file := file) h.k hO (Nat.le_of_lt hT)
  rw [he] at hc
  exact hc.mono fun q w' ⟨e, k⟩ => ⟨e, T21.prog h hs k⟩

theorem u_arm (n : Int) (h : T21 E B w0 w g cs sc D D' s) (hO : D.Ok T) (he : armD D n = D2) :
    Calls Tryz.prog 34 #[.pointer (some ⟨g, 0, none⟩), .int .i64 n] w fun q w' => q = .returned (.tuple #[]) ∧ T21 E B w0 w' g cs sc D2 D' s ∧ Same E w w' := by
  obtain ⟨L, P, R, h, hs⟩ := h
  have hc := dArmD h.k hO n
  rw [he] at hc
  exact hc.mono fun q w' ⟨e, k⟩ => ⟨e, T21.prog h hs k⟩

theorem u_crash {a : Option Addr} {n c : Nat} {us : List Int} (h : T21 E B w0 w g cs sc D D' s) (hO : D.Ok T) (hT : T < 4398046511104) (hI : Ints .i64 w a n c us) (ho : ∀ x, a = some x → 0 < n → E x.block) (he : crD D us = D2) :
    Calls Tryz.prog 36 #[.pointer (some ⟨g, 0, none⟩), .slice a n c] w fun q w' => q = .returned (.tuple #[]) ∧ T21 E B w0 w' g cs sc D2 D' s ∧ Same E w w' := by
  obtain ⟨L, P, R, h, hs⟩ := h
  have hc := dCrash_any h.k hO (by omega) hI (fun x hx hn => (h.e _ (ho x hx hn)).2.1)
  rw [he] at hc
  exact hc.mono fun q w' ⟨e, k⟩ => ⟨e, T21.prog h hs k⟩

theorem v_append {a : Option Addr} {n c : Nat} {bs : List Int} (file : Int) (h : T21 E B w0 w g cs sc D D' s) (hO : D'.Ok T) (hT : T ≤ 3518437208882) (hI : Ints .u8 w a n c bs) (hn : n ≤ 140737488355328) (he : apD D' file bs = (D2, e)) :
    Calls Tryz.prog 8 #[.agg cs.toArray, .int .i64 file, .slice a n c] w fun q w' => ∃ cs', q = .returned (.tuple #[.agg cs'.toArray, .int .i64 e]) ∧ T21 E B w0 w' g cs' sc D D2 s ∧ Below w.heap.size w w' := by
  obtain ⟨L, P, R, h, hs⟩ := h
  have hc := fAppend_any file h.r (fun b hb => (h.rl b hb).1) hO hT hI hn
  rw [he] at hc
  exact hc.mono fun q w' ⟨cs', e, k, hb⟩ => ⟨cs', e, T21.doc h hs k hb, hb⟩

theorem v_sync (file : Int) (h : T21 E B w0 w g cs sc D D' s) (hO : D'.Ok T) (hT : T ≤ 4398046511104) (he : syD D' file = (D2, e)) :
    Calls Tryz.prog 39 #[.agg cs.toArray, .int .i64 file] w fun q w' => ∃ cs', q = .returned (.tuple #[.agg cs'.toArray, .int .i64 e]) ∧ T21 E B w0 w' g cs' sc D D2 s ∧ Below w.heap.size w w' := by
  obtain ⟨L, P, R, h, hs⟩ := h
  have hc := fSync_any file h.r (fun b hb => (h.rl b hb).1) hO hT
  rw [he] at hc
  exact hc.mono fun q w' ⟨cs', e, k, hb⟩ => ⟨cs', e, T21.doc h hs k hb, hb⟩

theorem v_arm (n : Int) (h : T21 E B w0 w g cs sc D D' s) (he : armD D' n = D2) :
    Calls Tryz.prog 35 #[.agg cs.toArray, .int .i64 n] w fun q w' => ∃ cs', q = .returned (.agg cs'.toArray) ∧ T21 E B w0 w' g cs' sc D D2 s ∧ Below w.heap.size w w' := by
  obtain ⟨L, P, R, h, hs⟩ := h
  have hc := fArm_any n h.r (fun b hb => (h.rl b hb).1)
  rw [he] at hc
  exact hc.mono fun q w' ⟨cs', e, k, hb⟩ => ⟨cs', e, T21.doc h hs k hb, hb⟩

theorem v_crash {a : Option Addr} {n c : Nat} {us : List Int} (h : T21 E B w0 w g cs sc D D' s) (hO : D'.Ok T) (hT : T ≤ 4398046511104) (hI : Ints .i64 w a n c us) (he : crD D' us = D2) :
    Calls Tryz.prog 37 #[.agg cs.toArray, .slice a n c] w fun q w' => ∃ cs', q = .returned (.agg cs'.toArray) ∧ T21 E B w0 w' g cs' sc D D2 s ∧ Below w.heap.size w w' := by
  obtain ⟨L, P, R, h, hs⟩ := h
  have hc := fCrash_any h.r (fun b hb => (h.rl b hb).1) hO hT hI
  rw [he] at hc
  exact hc.mono fun q w' ⟨cs', e, k, hb⟩ => ⟨cs', e, T21.doc h hs k hb, hb⟩

/-! ### The slots' calls -/

theorem u_open (h : T21 E B w0 w g cs sc D D' s) (hO : D.Ok T) (hD : D.By) (hG : Glob11 w0) (hB : w0.heap.size ≤ B) (hd : D.down = false) (he : opS D 1 2 = s2) :
    Calls Tryz.prog 9 #[.pointer (some ⟨g, 0, none⟩), .int .i64 1, .int .i64 2] w fun q w' => ∃ so fb, q = .returned (.tuple #[.pointer (some ⟨so, 0, none⟩), .int .i64 0]) ∧ SlotAt w' so g fb s2.a s2.b s2.now ∧ (so ≠ fb ∧ B ≤ so ∧ w.heap.size ≤ so ∧ w.heap.size ≤ fb) ∧ T21 (fun x => E x ∨ x = so ∨ x = fb) B w0 w' g cs sc D D' s ∧ Below w.heap.size w w' := by
  obtain ⟨L, P, R, h, hs⟩ := h
  have hc := slOpen_any h.k hO hD (a := 1) (b := 2) (by decide) (by decide) (by decide) (hG.keep h.b hB) hd (z := s2.now) (by rw [he])
  have hab := op_ab D 1 2
  rw [he] at hab
  rw [hab.1, hab.2]
  refine hc.mono ?_
  rintro q w' ⟨so, fb, eq, hS, l1, l2, hne, hb⟩
  refine ⟨so, fb, eq, hS, ⟨hne, Nat.le_trans h.s l1, l1, l2⟩, ⟨L, P, R, h.keepE hb (fun x hx => ?_), hs.keep hb⟩, hb⟩
  rcases hx with hx | hx | hx
  · exact .inl hx
  · subst hx; exact .inr ⟨l1, hS.s.lt⟩
  · subst hx; exact .inr ⟨l2, hS.f.lt⟩

theorem u_turn (h : T21 E B w0 w g cs sc D D' s) (hS : SlotAt w so g fb s2.a s2.b s2.now) (hO : D.Ok T) (hD : D.By) (hok : s2.Ok) (hc : Cur D s2) (hG : Glob11 w0) (hB : w0.heap.size ≤ B) {t : Int} (ht : s2.turn = t) :
    Calls Tryz.prog 16 #[.pointer (some ⟨so, 0, none⟩)] w fun q w' => q = .returned (.int .u64 t) ∧ Below w.heap.size w w' := by
  obtain ⟨L, P, R, h, hs⟩ := h
  subst ht
  exact slTurn_any hS h.k hO hD hok.now3 (hG.keep h.b hB) (has_cur hok hc)

theorem u_get (h : T21 E B w0 w g cs sc D D' s) (hS : SlotAt w so g fb s2.a s2.b s2.now) (hO : D.Ok T) (hD : D.By) (hok : s2.Ok) (hc : Cur D s2) (hG : Glob11 w0) (hB : w0.heap.size ≤ B) {x : List Int} (hx : s2.body = x) {n : Nat} (hn : x.length = n) {m : Bool} (hm : decide (0 < s2.turn) = m) {sb : ByteArray} (hsb : strOfNums x = sb) :
    Calls Tryz.prog 15 #[.pointer (some ⟨so, 0, none⟩)] w fun q w' => ∃ a c, q = .returned (.tuple #[.slice a n c, .bool m]) ∧ Conv w' (.slice a n c) sb ∧ Below w.heap.size w w' := by
  obtain ⟨L, P, R, h, hs⟩ := h
  subst hx; subst hsb
  refine (slGet_any hS h.k hO hD hok.now3 (hG.keep h.b hB) (has_cur hok hc) hm).mono ?_
  rintro q w' ⟨a, k, c, eq, ho, hl, hb⟩
  have : k = n := by rw [← hl]; exact hn
  subst this
  exact ⟨a, c, eq, conv_of (own_ints' ho), hb⟩

theorem u_put {p : Option Addr} {n c : Nat} {xs : List Int} (h : T21 E B w0 w g cs sc D D' s) (hS : SlotAt w so g fb s2.a s2.b s2.now) (hE : E so ∧ E fb) (hne : so ≠ fb) (hBs : B ≤ so) (hO : D.Ok T) (hT : T < 4398046511102) (hD : D.By) (hok : s2.Ok) (hc : Cur D s2) (hG : Glob11 w0) (hB : w0.heap.size ≤ B) (hI : Ints .u8 w p n c xs) (hp : ∀ x, p = some x → 0 < n → x.block < B ∨ E x.block) (hb : ∀ x ∈ xs, isByte x) {s3 : SlV} (he : ptS D s2 xs = (D2, s3, e)) :
    Calls Tryz.prog 14 #[.pointer (some ⟨so, 0, none⟩), .slice p n c] w fun q w' => q = .returned (.int .i64 e) ∧ T21 E B w0 w' g cs sc D2 D' s ∧ SlotAt w' so g fb s3.a s3.b s3.now ∧ ∀ b, E b → b ≠ so → w'.heap[b]? = w.heap[b]? := by
  obtain ⟨L, P, R, h, hs⟩ := h
  have low : ∀ b, b < B → L b = 0 := fun b hb => by
    by_cases h0 : L b = 0
    · exact h0
    · exact absurd (h.lb b h0) (Nat.not_le.2 hb)
  have hgl : L 0 = 0 := low _ (Nat.lt_of_lt_of_le hG.lt hB)
  have hq := slPut_any hS (h.e so hE.1).2.1 (h.e fb hE.2).2.1 hne h.k hO hT hD hok hc (hG.keep h.b hB) hgl hI (fun x hx h0 => (hp x hx h0).elim (low _) (fun k => (h.e _ k).2.1)) hb
  have hab := pt_ab D s2 xs
  rw [he] at hq hab
  rw [hab.1, hab.2]
  refine hq.mono ?_
  rintro q w' ⟨eq, ⟨w1, L', P', k1, k2, k3⟩, k4⟩
  obtain ⟨j1, j2, j3⟩ := h.progR k1 k2
  rcases k3 with rfl | k3
  · exact ⟨eq, ⟨L', P', R, j1, hs.inR j3⟩, k4, fun b hb _ => j2 b hb⟩
  · obtain ⟨i1, i2⟩ := j1.grown k3 hE.1 hBs
    refine ⟨eq, ⟨L', P', R, i1, (hs.inR j3).inR i2⟩, k4, fun b hb hn => ?_⟩
    exact (k3.block b (j1.e b hb).1 (fun e => by injection e with e; exact hn e)).trans (j2 b hb)

theorem v_open (h : T21 E B w0 w g cs sc D D' s) (hO : D'.Ok T) (hT : T ≤ 4398046511104) (hD : D'.By) (hd : D'.down = false) (he : opS D' 1 2 = s2) :
    Calls Tryz.prog 10 #[.agg cs.toArray, .int .i64 1, .int .i64 2] w fun q w' => ∃ sc', q = .returned (.tuple #[.agg sc'.toArray, .int .i64 0]) ∧ T21 E B w0 w' g cs sc' D D' s2 ∧ Below w.heap.size w w' := by
  obtain ⟨L, P, R, h, hs⟩ := h
  have hc := r21Open_12 h.r hO hT hD hd
  rw [he] at hc
  refine hc.mono fun q w' ⟨sc', eq, k, hb⟩ => ⟨sc', eq, ⟨L, P, _, h.docR ((h.r.keep hb).wide (fun _ k => .inl k)) hb, k.wide (fun _ hl hq => ⟨.inr hq, hl⟩)⟩, hb⟩

theorem v_put {a : Option Addr} {n c : Nat} {xs : List Int} (h : T21 E B w0 w g cs sc D D' s) (hO : D'.Ok T) (hT : T ≤ 3518437208880) (hD : D'.By) (hok : s.Ok) (hab : s.a = 1 ∧ s.b = 2) (hI : Ints .u8 w a n c xs) (hx : ∀ y ∈ xs, isByte y) (hn : n ≤ 140737488355328) (he : ptS D' s xs = (D2, s2, e)) :
    Calls Tryz.prog 32 #[.agg cs.toArray, .agg sc.toArray, .slice a n c] w fun q w' => ∃ cs' sc', q = .returned (.tuple #[.agg cs'.toArray, .agg sc'.toArray, .int .i64 e]) ∧ T21 E B w0 w' g cs' sc' D D2 s2 ∧ Below w.heap.size w w' := by
  obtain ⟨L, P, R, h, hs⟩ := h
  have hto : s.to = 1 ∨ s.to = 2 := by
    unfold SlV.to
    split
    · exact .inr hab.2
    · exact .inl hab.1
  rcases hto with ht | ht
  · refine (r21Put_1 h.r (fun b hb => (h.rl b hb).1) hs hO hT hD hok hab.1 hab.2 ht hI hx hn he).mono fun q w' ⟨cs', sc', eq, k1, k2, hb⟩ => ⟨cs', sc', eq, ⟨L, P, _, h.docR k1 hb, k2.wide (fun _ hl hq => ⟨hq, hl⟩)⟩, hb⟩
  · refine (r21Put_2 h.r (fun b hb => (h.rl b hb).1) hs hO hT hD hok hab.1 hab.2 ht hI hx hn he).mono fun q w' ⟨cs', sc', eq, k1, k2, hb⟩ => ⟨cs', sc', eq, ⟨L, P, _, h.docR k1 hb, k2.wide (fun _ hl hq => ⟨hq, hl⟩)⟩, hb⟩

end
end Go.Proofs.YtcohbhimhacedaaGreatDoor

/-
  Layer 21's like: it tells that both disks hold the same, and both slots the same snapshot. New memory alone is written. Conditions: a disk with fewer than 2^42 steps; the files hold bytes.
-/
namespace Go.Proofs.YtcohbhimhacedaaGreatDoor
open Go.RowKit

set_option maxRecDepth 100000 in
set_option maxHeartbeats 4000000 in
theorem like21_any {E : Nat → Prop} {B : Nat} {w0 w : World} {g so fb : Nat} {cs sc : List Value} {D : DkV} {s0 : SlV} {T : Nat} (h : T21 E B w0 w g cs sc D D s0) (hS : SlotAt w so g fb s0.a s0.b s0.now) (hO : D.Ok T) (hT : T ≤ 4398046511104) (hD : D.By) (hok : s0.Ok) (hcu : Cur D s0) (hG0 : Glob11 w0) (hB0 : w0.heap.size ≤ B) :
    Calls Tryz.prog 11 #[.pointer (some ⟨g, 0, none⟩), .pointer (some ⟨so, 0, none⟩), .agg cs.toArray, .agg sc.toArray] w fun q w' => q = .returned (.bool true) ∧ Below w.heap.size w w' := by
  have hdc := h.two.ddc
  have hl := hdc.l
  have hrow : IsRow Tryz.prog 37 cs.length := by rw [hl]; exact rowDd
  obtain ⟨ba, bn, bc, hsc, hIb⟩ : ∃ ba bn bc, sc = slC s0 ba bn bc ∧ Ints .u8 w ba bn bc s0.body := by
    obtain ⟨_, _, _, _, a, n, c, e, hI, _⟩ := h
    exact ⟨a, n, c, e, hI⟩
  have q1 := below2 w (.cells cs.toArray 37) (.cells sc.toArray 46)
  have b3 : Blk ((w.alloc (.cells cs.toArray 37)).alloc (.cells sc.toArray 46)) w.heap.size 37 cs := (Blk.new w _ cs).alloc _
  have s3 : Blk ((w.alloc (.cells cs.toArray 37)).alloc (.cells sc.toArray 46)) (w.heap.size + 1) 46 sc := Blk.new1 w _ _ sc
  have h1 := h.two.keep q1
  have t1 := h.keep q1
  have K1 := hS.keep q1
  have I1 := hIb.keep q1
  obtain ⟨W, hW⟩ : ∃ W, (w.alloc (.cells cs.toArray 37)).alloc (.cells sc.toArray 46) = W := ⟨_, rfl⟩
  rw [hW] at b3 s3 q1 h1 t1 K1 I1
  have qH := Lib.hid q1
  have WH := Lib.hid hW
  have okH := Lib.hid hO
  have hTH := Lib.hid hT
  have byH := Lib.hid hD
  have kokH := Lib.hid hok
  have kcuH := Lib.hid hcu
  have HG := Lib.hid hG0
  have HB := Lib.hid hB0
  have t1H := Lib.hid t1
  have K1H := Lib.hid K1
  have I1H := Lib.hid I1
  obtain ⟨G, hG⟩ : ∃ G, w.heap.size = G := ⟨_, rfl⟩
  rw [hG] at b3 s3
  have GH := Lib.hid hG
  have lt3 := Lib.hid b3.lt
  have lts := Lib.hid s3.lt
  have dcH := Lib.hid hdc
  have scH := Lib.hid hsc
  clear h hS hW hG q1 hO hT hD hok hcu hG0 hB0 hdc hIb t1 K1 I1 hsc
  go_enter Tryz.func11, Tryz.ntmps11
  go_wp2_with (first
    | ((with_reducible refine box_row rfl 37 (.tmp 2) rfl cs rfl ?_))
    | ((with_reducible refine box_row rfl 46 (.tmp 3) rfl sc rfl ?_); refine RowKit.Hid.out ?_))
  refine Lib.hid ?_
  rw [WH.out]
  simp only [GH.out]
  have hB0 : Below W.heap.size W W := Below.refl _ _
  have h1H := Lib.hid h1
  have b3H := Lib.hid b3
  have s3H := Lib.hid s3
  clear h1 b3 s3
  go_wp2_with fail
  go_loopw [9] (fun i wr => ∃ z : Int, i = .int .i64 z ∧ (z = 0 ∨ z = 1 ∨ z = 2 ∨ z = 3) ∧ Below W.heap.size W wr) (fun i _ => 3 - (intOf i).toNat)
  case atStart => exact ⟨0, rfl, .inl rfl, hB0⟩
  case round =>
    clear hB0
    obtain ⟨z, rfl, hz, hB⟩ := hrel
    rcases hz with rfl | rfl | rfl | rfl
    · have hT0 := h1H.out.keep hB
      obtain ⟨c, ka, kc, hF⟩ := hT0.file 0 (by decide)
      have hfo := (okH.out.f 0).fok hTH.out
      have cl := hF.l
      have crow : IsRow Tryz.prog 34 c.length := by rw [cl]; exact rowRf
      have bk := b3H.out.keep hB lt3.out
      obtain ⟨s, hs⟩ : ∃ s, strOfNums (D.f 0).held = s := ⟨_, rfl⟩
      obtain ⟨n, hn⟩ : ∃ n, (D.f 0).held.length = n := ⟨_, rfl⟩
      obtain ⟨t, ht⟩ : ∃ s, strOfNums (D.f 0).K = s := ⟨_, rfl⟩
      obtain ⟨m, hm⟩ : ∃ n, (D.f 0).K.length = n := ⟨_, rfl⟩
      have b4 : Below wr.heap.size wr wr.drew := (Below.refl _ _).drew
      have C1 := Lib.hid (fun w' (h : Below wr.heap.size wr w') => l_read (hT0.keep h) okH.out 0 (by decide) 0 rfl s hs n hn)
      have C2 := Lib.hid (fun w' (h : Below wr.heap.size wr w') => l_holds (hF.keep h) hfo s hs n hn)
      have C3 := Lib.hid (fun w' (h : Below wr.heap.size wr w') => l_kept (hT0.keep h) okH.out 0 (by decide) 0 rfl t ht m hm)
      have hk0 := hF.k
      have hcv := hF.cv
      rw [hm] at hk0 hcv
      rw [ht] at hcv
      have FK := Lib.hid (fun w' (h : Below wr.heap.size wr w') => show w'.cell? ⟨G, 0, none⟩ = some (.slice ka m kc) from ((bk.keep h bk.lt).cell 0).trans hk0)
      have FC := Lib.hid (fun w' (h : Below wr.heap.size wr w') => hcv w' h)
      have FR := Lib.hid (fun w' (h : Below wr.heap.size wr w') => show w'.rangeAt G 0 c from (bk.keep h bk.lt).range 0 c (fun j v hj => hF.at' j v hj))
      have hss : (s.toList == s.toList) = true := beq_self_eq_true _
      have htt : (t.toList == t.toList) = true := beq_self_eq_true _
      have hB5 := hB.trans (b4.mono hB.size)
      have hBH := Lib.hid hB
      clear hT0 hF hfo bk hs hn ht hm hk0 hcv hB cl
      go_wp2_with fail
      refine region_seqS (fun w' => Below wr.heap.size wr w') (by kernel_rfl) b4 ?_
      simp only [pairs, Nat.reduceAdd]
      repeat ((first
        | (refine SeqS.y0 (v := .agg (c).toArray) (yields_part (by rfl) 34 (.tmp 22) rfl rfl (fun w' h => FR.out w' h) (crow)) ?_)
        | (refine SeqS.k0 (v := ?_) ?_ ?_; rotate_left; focus (intro w' hb'; go_simp; with_reducible rfl))
        | (refine SeqS.u0 ?_)
        | (refine SeqS.y1 (v := .agg (c).toArray) (yields_part (by rfl) 34 (.tmp 22) rfl rfl (fun w' h => FR.out w' h) (crow)) ?_)
        | (refine SeqS.k1 (v := ?_) ?_ ?_; rotate_left; focus (intro w' hb'; go_simp; with_reducible rfl))
        | (refine SeqS.u1 ?_)
        | (refine SeqS.y2 (v := .agg (c).toArray) (yields_part (by rfl) 34 (.tmp 22) rfl rfl (fun w' h => FR.out w' h) (crow)) ?_)
        | (refine SeqS.k2 (v := ?_) ?_ ?_; rotate_left; focus (intro w' hb'; go_simp; with_reducible rfl))
        | (refine SeqS.u2 ?_)); simp only [Act.put, List.setIfInBounds_toArray, List.set_cons_zero, List.set_cons_succ])
      refine SeqS.alone (by decide +kernel) (by rfl) (fun K hK => ?_)
      go_simp
      go_at_call 29
      refine (C1.out _ b4).mono ?_
      rintro q w1 ⟨a1, c1, rfl, v1, b1⟩
      go_simp
      have up1 : Below wr.heap.size wr w1 := chain b4 b1
      refine hK _ _ up1 ?_
      refine SeqS.mono (S' := fun w' => Below w1.heap.size w1 w') (fun w' h => chain up1 h) ?_
      have r1 : Below w1.heap.size w1 w1 := Below.refl _ _
      clear hK K b1
      repeat ((first
        | (refine SeqS.k0 (v := ?_) ?_ ?_; rotate_left; focus (intro w' hb'; go_simp; with_reducible rfl))
        | (refine SeqS.k0 (v := ?_) ?_ ?_; rotate_left; focus (intro w' hb'; have d0 := v1 w' hb'; go_simp; with_reducible rfl))
        | (refine SeqS.u0 ?_)
        | (refine SeqS.k1 (v := ?_) ?_ ?_; rotate_left; focus (intro w' hb'; go_simp; with_reducible rfl))
        | (refine SeqS.k1 (v := ?_) ?_ ?_; rotate_left; focus (intro w' hb'; have d0 := v1 w' hb'; go_simp; with_reducible rfl))
        | (refine SeqS.u1 ?_)
        | (refine SeqS.k2 (v := ?_) ?_ ?_; rotate_left; focus (intro w' hb'; go_simp; with_reducible rfl))
        | (refine SeqS.k2 (v := ?_) ?_ ?_; rotate_left; focus (intro w' hb'; have d0 := v1 w' hb'; go_simp; with_reducible rfl))
        | (refine SeqS.u2 ?_)); simp only [Act.put, List.setIfInBounds_toArray, List.set_cons_zero, List.set_cons_succ])
      refine SeqS.alone (by decide +kernel) (by rfl) (fun K hK => ?_)
      go_simp
      go_at_call 30
      refine (C2.out _ up1).mono ?_
      rintro q w2 ⟨a2, c2, rfl, v2, b2⟩
      go_simp
      have up2 : Below wr.heap.size wr w2 := chain up1 b2
      refine hK _ _ b2 ?_
      refine SeqS.mono (S' := fun w' => Below w2.heap.size w2 w') (fun w' h => chain b2 h) ?_
      have r2 : Below w2.heap.size w2 w2 := Below.refl _ _
      clear hK K r1 v1 up1
      repeat ((first
        | (refine SeqS.k0 (v := ?_) ?_ ?_; rotate_left; focus (intro w' hb'; go_simp; with_reducible rfl))
        | (refine SeqS.k0 (v := ?_) ?_ ?_; rotate_left; focus (intro w' hb'; have d0 := v2 w' hb'; go_simp; with_reducible rfl))
        | (refine SeqS.k0 (v := ?_) ?_ ?_; rotate_left; focus (intro w' hb'; have d0 := FK.out w' (chain up2 hb'); go_simp; with_reducible rfl))
        | (refine SeqS.k0 (v := ?_) ?_ ?_; rotate_left; focus (intro w' hb'; have d0 := FC.out w' (chain up2 hb'); go_simp; with_reducible rfl))
        | (refine SeqS.u0 ?_)
        | (refine SeqS.k1 (v := ?_) ?_ ?_; rotate_left; focus (intro w' hb'; go_simp; with_reducible rfl))
        | (refine SeqS.k1 (v := ?_) ?_ ?_; rotate_left; focus (intro w' hb'; have d0 := v2 w' hb'; go_simp; with_reducible rfl))
        | (refine SeqS.k1 (v := ?_) ?_ ?_; rotate_left; focus (intro w' hb'; have d0 := FK.out w' (chain up2 hb'); go_simp; with_reducible rfl))
        | (refine SeqS.k1 (v := ?_) ?_ ?_; rotate_left; focus (intro w' hb'; have d0 := FC.out w' (chain up2 hb'); go_simp; with_reducible rfl))
        | (refine SeqS.u1 ?_)
        | (refine SeqS.k2 (v := ?_) ?_ ?_; rotate_left; focus (intro w' hb'; go_simp; with_reducible rfl))
        | (refine SeqS.k2 (v := ?_) ?_ ?_; rotate_left; focus (intro w' hb'; have d0 := v2 w' hb'; go_simp; with_reducible rfl))
        | (refine SeqS.k2 (v := ?_) ?_ ?_; rotate_left; focus (intro w' hb'; have d0 := FK.out w' (chain up2 hb'); go_simp; with_reducible rfl))
        | (refine SeqS.k2 (v := ?_) ?_ ?_; rotate_left; focus (intro w' hb'; have d0 := FC.out w' (chain up2 hb'); go_simp; with_reducible rfl))
        | (refine SeqS.u2 ?_)); simp only [Act.put, List.setIfInBounds_toArray, List.set_cons_zero, List.set_cons_succ])
      refine SeqS.alone (by decide +kernel) (by rfl) (fun K hK => ?_)
      go_simp
      go_at_call 31
      refine (C3.out _ up2).mono ?_
      rintro q w3 ⟨a3, c3, rfl, v3, b3⟩
      go_simp
      have up3 : Below wr.heap.size wr w3 := chain up2 b3
      refine hK _ _ b3 ?_
      refine SeqS.mono (S' := fun w' => Below w3.heap.size w3 w') (fun w' h => chain b3 h) ?_
      have r3 : Below w3.heap.size w3 w3 := Below.refl _ _
      clear hK K r2 v2 up2 b2
      repeat ((first
        | (refine SeqS.k0 (v := ?_) ?_ ?_; rotate_left; focus (intro w' hb'; go_simp; with_reducible rfl))
        | (refine SeqS.k0 (v := ?_) ?_ ?_; rotate_left; focus (intro w' hb'; have d0 := v3 w' hb'; go_simp; with_reducible rfl))
        | (refine SeqS.u0 ?_)
        | (refine SeqS.k1 (v := ?_) ?_ ?_; rotate_left; focus (intro w' hb'; go_simp; with_reducible rfl))
        | (refine SeqS.k1 (v := ?_) ?_ ?_; rotate_left; focus (intro w' hb'; have d0 := v3 w' hb'; go_simp; with_reducible rfl))
        | (refine SeqS.u1 ?_)
        | (refine SeqS.k2 (v := ?_) ?_ ?_; rotate_left; focus (intro w' hb'; go_simp; with_reducible rfl))
        | (refine SeqS.k2 (v := ?_) ?_ ?_; rotate_left; focus (intro w' hb'; have d0 := v3 w' hb'; go_simp; with_reducible rfl))
        | (refine SeqS.u2 ?_)); simp only [Act.put, List.setIfInBounds_toArray, List.set_cons_zero, List.set_cons_succ])
      refine SeqS.done (by decide +kernel) ?_
      have hBz := hBH.out.trans (up3.mono hBH.out.size)
      clear b4 r3 up3 v3 C1 C2 C3 FK FC FR
      go_wp2_with fail
      exact ⟨⟨0 + 1, rfl, by decide, hBz⟩, by decide⟩
    · have hT0 := h1H.out.keep hB
      obtain ⟨c, ka, kc, hF⟩ := hT0.file 1 (by decide)
      have hfo := (okH.out.f 1).fok hTH.out
      have cl := hF.l
      have crow : IsRow Tryz.prog 34 c.length := by rw [cl]; exact rowRf
      have bk := b3H.out.keep hB lt3.out
      obtain ⟨s, hs⟩ : ∃ s, strOfNums (D.f 1).held = s := ⟨_, rfl⟩
      obtain ⟨n, hn⟩ : ∃ n, (D.f 1).held.length = n := ⟨_, rfl⟩
      obtain ⟨t, ht⟩ : ∃ s, strOfNums (D.f 1).K = s := ⟨_, rfl⟩
      obtain ⟨m, hm⟩ : ∃ n, (D.f 1).K.length = n := ⟨_, rfl⟩
      have b4 : Below wr.heap.size wr wr.drew := (Below.refl _ _).drew
      have C1 := Lib.hid (fun w' (h : Below wr.heap.size wr w') => l_read (hT0.keep h) okH.out 1 (by decide) 1 rfl s hs n hn)
      have C2 := Lib.hid (fun w' (h : Below wr.heap.size wr w') => l_holds (hF.keep h) hfo s hs n hn)
      have C3 := Lib.hid (fun w' (h : Below wr.heap.size wr w') => l_kept (hT0.keep h) okH.out 1 (by decide) 1 rfl t ht m hm)
      have hk0 := hF.k
      have hcv := hF.cv
      rw [hm] at hk0 hcv
      rw [ht] at hcv
      have FK := Lib.hid (fun w' (h : Below wr.heap.size wr w') => show w'.cell? ⟨G, 2, none⟩ = some (.slice ka m kc) from ((bk.keep h bk.lt).cell 2).trans hk0)
      have FC := Lib.hid (fun w' (h : Below wr.heap.size wr w') => hcv w' h)
      have FR := Lib.hid (fun w' (h : Below wr.heap.size wr w') => show w'.rangeAt G 2 c from (bk.keep h bk.lt).range 2 c (fun j v hj => hF.at' j v hj))
      have hss : (s.toList == s.toList) = true := beq_self_eq_true _
      have htt : (t.toList == t.toList) = true := beq_self_eq_true _
      have hB5 := hB.trans (b4.mono hB.size)
      have hBH := Lib.hid hB
      clear hT0 hF hfo bk hs hn ht hm hk0 hcv hB cl
      go_wp2_with fail
      refine region_seqS (fun w' => Below wr.heap.size wr w') (by kernel_rfl) b4 ?_
      simp only [pairs, Nat.reduceAdd]
      repeat ((first
        | (refine SeqS.y0 (v := .agg (c).toArray) (yields_part (by rfl) 34 (.tmp 22) rfl rfl (fun w' h => FR.out w' h) (crow)) ?_)
        | (refine SeqS.k0 (v := ?_) ?_ ?_; rotate_left; focus (intro w' hb'; go_simp; with_reducible rfl))
        | (refine SeqS.u0 ?_)
        | (refine SeqS.y1 (v := .agg (c).toArray) (yields_part (by rfl) 34 (.tmp 22) rfl rfl (fun w' h => FR.out w' h) (crow)) ?_)
        | (refine SeqS.k1 (v := ?_) ?_ ?_; rotate_left; focus (intro w' hb'; go_simp; with_reducible rfl))
        | (refine SeqS.u1 ?_)
        | (refine SeqS.y2 (v := .agg (c).toArray) (yields_part (by rfl) 34 (.tmp 22) rfl rfl (fun w' h => FR.out w' h) (crow)) ?_)
        | (refine SeqS.k2 (v := ?_) ?_ ?_; rotate_left; focus (intro w' hb'; go_simp; with_reducible rfl))
        | (refine SeqS.u2 ?_)); simp only [Act.put, List.setIfInBounds_toArray, List.set_cons_zero, List.set_cons_succ])
      refine SeqS.alone (by decide +kernel) (by rfl) (fun K hK => ?_)
      go_simp
      go_at_call 29
      refine (C1.out _ b4).mono ?_
      rintro q w1 ⟨a1, c1, rfl, v1, b1⟩
      go_simp
      have up1 : Below wr.heap.size wr w1 := chain b4 b1
      refine hK _ _ up1 ?_
      refine SeqS.mono (S' := fun w' => Below w1.heap.size w1 w') (fun w' h => chain up1 h) ?_
      have r1 : Below w1.heap.size w1 w1 := Below.refl _ _
      clear hK K b1
      repeat ((first
        | (refine SeqS.k0 (v := ?_) ?_ ?_; rotate_left; focus (intro w' hb'; go_simp; with_reducible rfl))
        | (refine SeqS.k0 (v := ?_) ?_ ?_; rotate_left; focus (intro w' hb'; have d0 := v1 w' hb'; go_simp; with_reducible rfl))
        | (refine SeqS.u0 ?_)
        | (refine SeqS.k1 (v := ?_) ?_ ?_; rotate_left; focus (intro w' hb'; go_simp; with_reducible rfl))
        | (refine SeqS.k1 (v := ?_) ?_ ?_; rotate_left; focus (intro w' hb'; have d0 := v1 w' hb'; go_simp; with_reducible rfl))
        | (refine SeqS.u1 ?_)
        | (refine SeqS.k2 (v := ?_) ?_ ?_; rotate_left; focus (intro w' hb'; go_simp; with_reducible rfl))
        | (refine SeqS.k2 (v := ?_) ?_ ?_; rotate_left; focus (intro w' hb'; have d0 := v1 w' hb'; go_simp; with_reducible rfl))
        | (refine SeqS.u2 ?_)); simp only [Act.put, List.setIfInBounds_toArray, List.set_cons_zero, List.set_cons_succ])
      refine SeqS.alone (by decide +kernel) (by rfl) (fun K hK => ?_)
      go_simp
      go_at_call 30
      refine (C2.out _ up1).mono ?_
      rintro q w2 ⟨a2, c2, rfl, v2, b2⟩
      go_simp
      have up2 : Below wr.heap.size wr w2 := chain up1 b2
      refine hK _ _ b2 ?_
      refine SeqS.mono (S' := fun w' => Below w2.heap.size w2 w') (fun w' h => chain b2 h) ?_
      have r2 : Below w2.heap.size w2 w2 := Below.refl _ _
      clear hK K r1 v1 up1
      repeat ((first
        | (refine SeqS.k0 (v := ?_) ?_ ?_; rotate_left; focus (intro w' hb'; go_simp; with_reducible rfl))
        | (refine SeqS.k0 (v := ?_) ?_ ?_; rotate_left; focus (intro w' hb'; have d0 := v2 w' hb'; go_simp; with_reducible rfl))
        | (refine SeqS.k0 (v := ?_) ?_ ?_; rotate_left; focus (intro w' hb'; have d0 := FK.out w' (chain up2 hb'); go_simp; with_reducible rfl))
        | (refine SeqS.k0 (v := ?_) ?_ ?_; rotate_left; focus (intro w' hb'; have d0 := FC.out w' (chain up2 hb'); go_simp; with_reducible rfl))
        | (refine SeqS.u0 ?_)
        | (refine SeqS.k1 (v := ?_) ?_ ?_; rotate_left; focus (intro w' hb'; go_simp; with_reducible rfl))
        | (refine SeqS.k1 (v := ?_) ?_ ?_; rotate_left; focus (intro w' hb'; have d0 := v2 w' hb'; go_simp; with_reducible rfl))
        | (refine SeqS.k1 (v := ?_) ?_ ?_; rotate_left; focus (intro w' hb'; have d0 := FK.out w' (chain up2 hb'); go_simp; with_reducible rfl))
        | (refine SeqS.k1 (v := ?_) ?_ ?_; rotate_left; focus (intro w' hb'; have d0 := FC.out w' (chain up2 hb'); go_simp; with_reducible rfl))
        | (refine SeqS.u1 ?_)
        | (refine SeqS.k2 (v := ?_) ?_ ?_; rotate_left; focus (intro w' hb'; go_simp; with_reducible rfl))
        | (refine SeqS.k2 (v := ?_) ?_ ?_; rotate_left; focus (intro w' hb'; have d0 := v2 w' hb'; go_simp; with_reducible rfl))
        | (refine SeqS.k2 (v := ?_) ?_ ?_; rotate_left; focus (intro w' hb'; have d0 := FK.out w' (chain up2 hb'); go_simp; with_reducible rfl))
        | (refine SeqS.k2 (v := ?_) ?_ ?_; rotate_left; focus (intro w' hb'; have d0 := FC.out w' (chain up2 hb'); go_simp; with_reducible rfl))
        | (refine SeqS.u2 ?_)); simp only [Act.put, List.setIfInBounds_toArray, List.set_cons_zero, List.set_cons_succ])
      refine SeqS.alone (by decide +kernel) (by rfl) (fun K hK => ?_)
      go_simp
      go_at_call 31
      refine (C3.out _ up2).mono ?_
      rintro q w3 ⟨a3, c3, rfl, v3, b3⟩
      go_simp
      have up3 : Below wr.heap.size wr w3 := chain up2 b3
      refine hK _ _ b3 ?_
      refine SeqS.mono (S' := fun w' => Below w3.heap.size w3 w') (fun w' h => chain b3 h) ?_
      have r3 : Below w3.heap.size w3 w3 := Below.refl _ _
      clear hK K r2 v2 up2 b2
      repeat ((first
        | (refine SeqS.k0 (v := ?_) ?_ ?_; rotate_left; focus (intro w' hb'; go_simp; with_reducible rfl))
        | (refine SeqS.k0 (v := ?_) ?_ ?_; rotate_left; focus (intro w' hb'; have d0 := v3 w' hb'; go_simp; with_reducible rfl))
        | (refine SeqS.u0 ?_)
        | (refine SeqS.k1 (v := ?_) ?_ ?_; rotate_left; focus (intro w' hb'; go_simp; with_reducible rfl))
        | (refine SeqS.k1 (v := ?_) ?_ ?_; rotate_left; focus (intro w' hb'; have d0 := v3 w' hb'; go_simp; with_reducible rfl))
        | (refine SeqS.u1 ?_)
        | (refine SeqS.k2 (v := ?_) ?_ ?_; rotate_left; focus (intro w' hb'; go_simp; with_reducible rfl))
        | (refine SeqS.k2 (v := ?_) ?_ ?_; rotate_left; focus (intro w' hb'; have d0 := v3 w' hb'; go_simp; with_reducible rfl))
        | (refine SeqS.u2 ?_)); simp only [Act.put, List.setIfInBounds_toArray, List.set_cons_zero, List.set_cons_succ])
      refine SeqS.done (by decide +kernel) ?_
      have hBz := hBH.out.trans (up3.mono hBH.out.size)
      clear b4 r3 up3 v3 C1 C2 C3 FK FC FR
      go_wp2_with fail
      exact ⟨⟨1 + 1, rfl, by decide, hBz⟩, by decide⟩
    · have hT0 := h1H.out.keep hB
      obtain ⟨c, ka, kc, hF⟩ := hT0.file 2 (by decide)
      have hfo := (okH.out.f 2).fok hTH.out
      have cl := hF.l
      have crow : IsRow Tryz.prog 34 c.length := by rw [cl]; exact rowRf
      have bk := b3H.out.keep hB lt3.out
      obtain ⟨s, hs⟩ : ∃ s, strOfNums (D.f 2).held = s := ⟨_, rfl⟩
      obtain ⟨n, hn⟩ : ∃ n, (D.f 2).held.length = n := ⟨_, rfl⟩
      obtain ⟨t, ht⟩ : ∃ s, strOfNums (D.f 2).K = s := ⟨_, rfl⟩
      obtain ⟨m, hm⟩ : ∃ n, (D.f 2).K.length = n := ⟨_, rfl⟩
      have b4 : Below wr.heap.size wr wr.drew := (Below.refl _ _).drew
      have C1 := Lib.hid (fun w' (h : Below wr.heap.size wr w') => l_read (hT0.keep h) okH.out 2 (by decide) 2 rfl s hs n hn)
      have C2 := Lib.hid (fun w' (h : Below wr.heap.size wr w') => l_holds (hF.keep h) hfo s hs n hn)
      have C3 := Lib.hid (fun w' (h : Below wr.heap.size wr w') => l_kept (hT0.keep h) okH.out 2 (by decide) 2 rfl t ht m hm)
      have hk0 := hF.k
      have hcv := hF.cv
      rw [hm] at hk0 hcv
      rw [ht] at hcv
      have FK := Lib.hid (fun w' (h : Below wr.heap.size wr w') => show w'.cell? ⟨G, 4, none⟩ = some (.slice ka m kc) from ((bk.keep h bk.lt).cell 4).trans hk0)
      have FC := Lib.hid (fun w' (h : Below wr.heap.size wr w') => hcv w' h)
      have FR := Lib.hid (fun w' (h : Below wr.heap.size wr w') => show w'.rangeAt G 4 c from (bk.keep h bk.lt).range 4 c (fun j v hj => hF.at' j v hj))
      have hss : (s.toList == s.toList) = true := beq_self_eq_true _
      have htt : (t.toList == t.toList) = true := beq_self_eq_true _
      have hB5 := hB.trans (b4.mono hB.size)
      have hBH := Lib.hid hB
      clear hT0 hF hfo bk hs hn ht hm hk0 hcv hB cl
      go_wp2_with fail
      refine region_seqS (fun w' => Below wr.heap.size wr w') (by kernel_rfl) b4 ?_
      simp only [pairs, Nat.reduceAdd]
      repeat ((first
        | (refine SeqS.y0 (v := .agg (c).toArray) (yields_part (by rfl) 34 (.tmp 22) rfl rfl (fun w' h => FR.out w' h) (crow)) ?_)
        | (refine SeqS.k0 (v := ?_) ?_ ?_; rotate_left; focus (intro w' hb'; go_simp; with_reducible rfl))
        | (refine SeqS.u0 ?_)
        | (refine SeqS.y1 (v := .agg (c).toArray) (yields_part (by rfl) 34 (.tmp 22) rfl rfl (fun w' h => FR.out w' h) (crow)) ?_)
        | (refine SeqS.k1 (v := ?_) ?_ ?_; rotate_left; focus (intro w' hb'; go_simp; with_reducible rfl))
        | (refine SeqS.u1 ?_)
        | (refine SeqS.y2 (v := .agg (c).toArray) (yields_part (by rfl) 34 (.tmp 22) rfl rfl (fun w' h => FR.out w' h) (crow)) ?_)
        | (refine SeqS.k2 (v := ?_) ?_ ?_; rotate_left; focus (intro w' hb'; go_simp; with_reducible rfl))
        | (refine SeqS.u2 ?_)); simp only [Act.put, List.setIfInBounds_toArray, List.set_cons_zero, List.set_cons_succ])
      refine SeqS.alone (by decide +kernel) (by rfl) (fun K hK => ?_)
      go_simp
      go_at_call 29
      refine (C1.out _ b4).mono ?_
      rintro q w1 ⟨a1, c1, rfl, v1, b1⟩
      go_simp
      have up1 : Below wr.heap.size wr w1 := chain b4 b1
      refine hK _ _ up1 ?_
      refine SeqS.mono (S' := fun w' => Below w1.heap.size w1 w') (fun w' h => chain up1 h) ?_
      have r1 : Below w1.heap.size w1 w1 := Below.refl _ _
      clear hK K b1
      repeat ((first
        | (refine SeqS.k0 (v := ?_) ?_ ?_; rotate_left; focus (intro w' hb'; go_simp; with_reducible rfl))
        | (refine SeqS.k0 (v := ?_) ?_ ?_; rotate_left; focus (intro w' hb'; have d0 := v1 w' hb'; go_simp; with_reducible rfl))
        | (refine SeqS.u0 ?_)
        | (refine SeqS.k1 (v := ?_) ?_ ?_; rotate_left; focus (intro w' hb'; go_simp; with_reducible rfl))
        | (refine SeqS.k1 (v := ?_) ?_ ?_; rotate_left; focus (intro w' hb'; have d0 := v1 w' hb'; go_simp; with_reducible rfl))
        | (refine SeqS.u1 ?_)
        | (refine SeqS.k2 (v := ?_) ?_ ?_; rotate_left; focus (intro w' hb'; go_simp; with_reducible rfl))
        | (refine SeqS.k2 (v := ?_) ?_ ?_; rotate_left; focus (intro w' hb'; have d0 := v1 w' hb'; go_simp; with_reducible rfl))
        | (refine SeqS.u2 ?_)); simp only [Act.put, List.setIfInBounds_toArray, List.set_cons_zero, List.set_cons_succ])
      refine SeqS.alone (by decide +kernel) (by rfl) (fun K hK => ?_)
      go_simp
      go_at_call 30
      refine (C2.out _ up1).mono ?_
      rintro q w2 ⟨a2, c2, rfl, v2, b2⟩
      go_simp
      have up2 : Below wr.heap.size wr w2 := chain up1 b2
      refine hK _ _ b2 ?_
      refine SeqS.mono (S' := fun w' => Below w2.heap.size w2 w') (fun w' h => chain b2 h) ?_
      have r2 : Below w2.heap.size w2 w2 := Below.refl _ _
      clear hK K r1 v1 up1
      repeat ((first
        | (refine SeqS.k0 (v := ?_) ?_ ?_; rotate_left; focus (intro w' hb'; go_simp; with_reducible rfl))
        | (refine SeqS.k0 (v := ?_) ?_ ?_; rotate_left; focus (intro w' hb'; have d0 := v2 w' hb'; go_simp; with_reducible rfl))
        | (refine SeqS.k0 (v := ?_) ?_ ?_; rotate_left; focus (intro w' hb'; have d0 := FK.out w' (chain up2 hb'); go_simp; with_reducible rfl))
        | (refine SeqS.k0 (v := ?_) ?_ ?_; rotate_left; focus (intro w' hb'; have d0 := FC.out w' (chain up2 hb'); go_simp; with_reducible rfl))
        | (refine SeqS.u0 ?_)
        | (refine SeqS.k1 (v := ?_) ?_ ?_; rotate_left; focus (intro w' hb'; go_simp; with_reducible rfl))
        | (refine SeqS.k1 (v := ?_) ?_ ?_; rotate_left; focus (intro w' hb'; have d0 := v2 w' hb'; go_simp; with_reducible rfl))
        | (refine SeqS.k1 (v := ?_) ?_ ?_; rotate_left; focus (intro w' hb'; have d0 := FK.out w' (chain up2 hb'); go_simp; with_reducible rfl))
        | (refine SeqS.k1 (v := ?_) ?_ ?_; rotate_left; focus (intro w' hb'; have d0 := FC.out w' (chain up2 hb'); go_simp; with_reducible rfl))
        | (refine SeqS.u1 ?_)
        | (refine SeqS.k2 (v := ?_) ?_ ?_; rotate_left; focus (intro w' hb'; go_simp; with_reducible rfl))
        | (refine SeqS.k2 (v := ?_) ?_ ?_; rotate_left; focus (intro w' hb'; have d0 := v2 w' hb'; go_simp; with_reducible rfl))
        | (refine SeqS.k2 (v := ?_) ?_ ?_; rotate_left; focus (intro w' hb'; have d0 := FK.out w' (chain up2 hb'); go_simp; with_reducible rfl))
        | (refine SeqS.k2 (v := ?_) ?_ ?_; rotate_left; focus (intro w' hb'; have d0 := FC.out w' (chain up2 hb'); go_simp; with_reducible rfl))
        | (refine SeqS.u2 ?_)); simp only [Act.put, List.setIfInBounds_toArray, List.set_cons_zero, List.set_cons_succ])
      refine SeqS.alone (by decide +kernel) (by rfl) (fun K hK => ?_)
      go_simp
      go_at_call 31
      refine (C3.out _ up2).mono ?_
      rintro q w3 ⟨a3, c3, rfl, v3, b3⟩
      go_simp
      have up3 : Below wr.heap.size wr w3 := chain up2 b3
      refine hK _ _ b3 ?_
      refine SeqS.mono (S' := fun w' => Below w3.heap.size w3 w') (fun w' h => chain b3 h) ?_
      have r3 : Below w3.heap.size w3 w3 := Below.refl _ _
      clear hK K r2 v2 up2 b2
      repeat ((first
        | (refine SeqS.k0 (v := ?_) ?_ ?_; rotate_left; focus (intro w' hb'; go_simp; with_reducible rfl))
        | (refine SeqS.k0 (v := ?_) ?_ ?_; rotate_left; focus (intro w' hb'; have d0 := v3 w' hb'; go_simp; with_reducible rfl))
        | (refine SeqS.u0 ?_)
        | (refine SeqS.k1 (v := ?_) ?_ ?_; rotate_left; focus (intro w' hb'; go_simp; with_reducible rfl))
        | (refine SeqS.k1 (v := ?_) ?_ ?_; rotate_left; focus (intro w' hb'; have d0 := v3 w' hb'; go_simp; with_reducible rfl))
        | (refine SeqS.u1 ?_)
        | (refine SeqS.k2 (v := ?_) ?_ ?_; rotate_left; focus (intro w' hb'; go_simp; with_reducible rfl))
        | (refine SeqS.k2 (v := ?_) ?_ ?_; rotate_left; focus (intro w' hb'; have d0 := v3 w' hb'; go_simp; with_reducible rfl))
        | (refine SeqS.u2 ?_)); simp only [Act.put, List.setIfInBounds_toArray, List.set_cons_zero, List.set_cons_succ])
      refine SeqS.done (by decide +kernel) ?_
      have hBz := hBH.out.trans (up3.mono hBH.out.size)
      clear b4 r3 up3 v3 C1 C2 C3 FK FC FR
      go_wp2_with fail
      exact ⟨⟨2 + 1, rfl, by decide, hBz⟩, by decide⟩
    · have T0 := t1H.out.keep hB
      have K0 := K1H.out.keep hB
      obtain ⟨bd, hbd⟩ : ∃ y, s0.body = y := ⟨_, rfl⟩
      obtain ⟨bl, hbl⟩ : ∃ y, bd.length = y := ⟨_, rfl⟩
      obtain ⟨m, hm⟩ : ∃ y, decide (0 < s0.turn) = y := ⟨_, rfl⟩
      obtain ⟨tn, htn⟩ : ∃ y, s0.turn = y := ⟨_, rfl⟩
      obtain ⟨nw, hnw⟩ : ∃ y, s0.now = y := ⟨_, rfl⟩
      obtain ⟨d, hd⟩ : ∃ y, D.down = y := ⟨_, rfl⟩
      obtain ⟨sb, hsb⟩ : ∃ y, strOfNums bd = y := ⟨_, rfl⟩
      have cG := u_get T0 K0 okH.out byH.out kokH.out kcuH.out HG.out HB.out hbd hbl hm hsb
      have scE := scH.out
      have e2 : sc[2]? = some (.int .i64 nw) := by rw [scE, ← hnw]; rfl
      have e3 : sc[3]? = some (.int .u64 tn) := by rw [scE, ← htn]; rfl
      have e4 : sc[4]? = some (.slice ba bn bc) := by rw [scE]; rfl
      have e8 := dcH.out.d
      rw [hd] at e8
      have I0 := I1H.out.keep hB
      rw [hbd] at I0
      rw [htn] at hm
      have T0H := Lib.hid T0
      have K0H := Lib.hid K0
      have bkH := Lib.hid (b3H.out.keep hB lt3.out)
      have skH := Lib.hid (s3H.out.keep hB lts.out)
      have hBH := Lib.hid hB
      have I0H := Lib.hid I0
      have nwH := Lib.hid hnw
      have tnH := Lib.hid htn
      have hdH := Lib.hid hd
      have sbH := Lib.hid hsb
      clear T0 K0 hbd hbl htn hnw hd hB I0 hsb scE
      go_wp2_with fail
      refine cG.mono ?_
      rintro q wg ⟨ag, cg, rfl, vg, bg⟩
      have bk := bkH.out.keep bg bkH.out.lt
      have sk := skH.out.keep bg skH.out.lt
      have T2H := Lib.hid (T0H.out.keep bg)
      have K2H := Lib.hid (K0H.out.keep bg)
      have b4 : Below wg.heap.size wg wg.drew := (Below.refl _ _).drew
      have CT := Lib.hid (fun w' (q : Below wg.heap.size wg w') => u_turn (T2H.out.keep q) (K2H.out.keep q) okH.out byH.out kokH.out kcuH.out HG.out HB.out tnH.out)
      have CF := Lib.hid (fun w' (q : Below wg.heap.size wg w') => ((slFile_any (K2H.out.keep q)).mono fun q2 w2 (k : q2 = .returned (.int .i64 s0.now) ∧ w' = w2) => (⟨by rw [k.1, nwH.out], by rw [← k.2]; exact Below.refl _ _⟩ : q2 = .returned (.int .i64 nw) ∧ Below w'.heap.size w' w2)))
      have CD := Lib.hid (fun w' (q : Below wg.heap.size wg w') => l_down (T2H.out.keep q).two okH.out d hdH.out)
      have XG := Lib.hid (fun w' (q : Below wg.heap.size wg w') => vg w' q)
      have XD := Lib.hid (fun w' (q : Below wg.heap.size wg w') => (conv_of (I0H.out.keep bg)) w' q)
      rw [sbH.out] at XD
      have X2 := Lib.hid (fun w' (h : Below wg.heap.size wg w') => ((sk.keep h sk.lt).cell 2).trans e2)
      have X3 := Lib.hid (fun w' (h : Below wg.heap.size wg w') => ((sk.keep h sk.lt).cell 3).trans e3)
      have X4 := Lib.hid (fun w' (h : Below wg.heap.size wg w') => ((sk.keep h sk.lt).cell 4).trans e4)
      have X8 := Lib.hid (fun w' (h : Below wg.heap.size wg w') => ((bk.keep h bk.lt).cell 8).trans e8)
      have hss : (sb.toList == sb.toList) = true := beq_self_eq_true _
      have hmm : (m == m) = true := beq_self_eq_true _
      have htt : (tn == tn) = true := beq_self_eq_true _
      have hww : (nw == nw) = true := beq_self_eq_true _
      have hdd : (d == d) = true := beq_self_eq_true _
      have hBg := Lib.hid (qH.out.trans ((hBH.out.trans (bg.mono hBH.out.size)).mono qH.out.size))
      clear cG vg bk sk bg e2 e3 e4 e8 T0H K0H bkH skH
      go_wp2_with fail
      refine region_seqS (fun w' => Below wg.heap.size wg w') (by kernel_rfl) b4 ?_
      simp only [pairs, Nat.reduceAdd]
      repeat ((first
        | (refine SeqS.k0 (v := ?_) ?_ ?_; rotate_left; focus (intro w' hb'; go_simp; with_reducible rfl))
        | (refine SeqS.k0 (v := ?_) ?_ ?_; rotate_left; focus (intro w' hb'; have d0 := XG.out w' hb'; go_simp; with_reducible rfl))
        | (refine SeqS.k0 (v := ?_) ?_ ?_; rotate_left; focus (intro w' hb'; have d0 := X4.out w' hb'; go_simp; with_reducible rfl))
        | (refine SeqS.k0 (v := ?_) ?_ ?_; rotate_left; focus (intro w' hb'; have d0 := XD.out w' hb'; go_simp; with_reducible rfl))
        | (refine SeqS.k0 (v := ?_) ?_ ?_; rotate_left; focus (intro w' hb'; have d0 := X3.out w' hb'; go_simp; with_reducible rfl))
        | (refine SeqS.u0 ?_)
        | (refine SeqS.k1 (v := ?_) ?_ ?_; rotate_left; focus (intro w' hb'; go_simp; with_reducible rfl))
        | (refine SeqS.k1 (v := ?_) ?_ ?_; rotate_left; focus (intro w' hb'; have d0 := XG.out w' hb'; go_simp; with_reducible rfl))
        | (refine SeqS.k1 (v := ?_) ?_ ?_; rotate_left; focus (intro w' hb'; have d0 := X4.out w' hb'; go_simp; with_reducible rfl))
        | (refine SeqS.k1 (v := ?_) ?_ ?_; rotate_left; focus (intro w' hb'; have d0 := XD.out w' hb'; go_simp; with_reducible rfl))
        | (refine SeqS.k1 (v := ?_) ?_ ?_; rotate_left; focus (intro w' hb'; have d0 := X3.out w' hb'; go_simp; with_reducible rfl))
        | (refine SeqS.u1 ?_)
        | (refine SeqS.k2 (v := ?_) ?_ ?_; rotate_left; focus (intro w' hb'; go_simp; with_reducible rfl))
        | (refine SeqS.k2 (v := ?_) ?_ ?_; rotate_left; focus (intro w' hb'; have d0 := XG.out w' hb'; go_simp; with_reducible rfl))
        | (refine SeqS.k2 (v := ?_) ?_ ?_; rotate_left; focus (intro w' hb'; have d0 := X4.out w' hb'; go_simp; with_reducible rfl))
        | (refine SeqS.k2 (v := ?_) ?_ ?_; rotate_left; focus (intro w' hb'; have d0 := XD.out w' hb'; go_simp; with_reducible rfl))
        | (refine SeqS.k2 (v := ?_) ?_ ?_; rotate_left; focus (intro w' hb'; have d0 := X3.out w' hb'; go_simp; with_reducible rfl))
        | (refine SeqS.u2 ?_)); simp only [Act.put, List.setIfInBounds_toArray, List.set_cons_zero, List.set_cons_succ])
      refine SeqS.alone (by decide +kernel) (by rfl) (fun K hK => ?_)
      go_simp
      go_at_call 16
      refine (CT.out _ b4).mono ?_
      rintro e w1 ⟨rfl, b1⟩
      go_simp
      have S1 : Below wg.heap.size wg w1 := b4.trans (b1.mono b4.size)
      refine hK _ _ S1 ?_
      clear hK K
      repeat ((first
        | (refine SeqS.k0 (v := ?_) ?_ ?_; rotate_left; focus (intro w' hb'; go_simp; with_reducible rfl))
        | (refine SeqS.k0 (v := ?_) ?_ ?_; rotate_left; focus (intro w' hb'; have d0 := X3.out w' hb'; go_simp; with_reducible rfl))
        | (refine SeqS.k0 (v := ?_) ?_ ?_; rotate_left; focus (intro w' hb'; have d0 := X2.out w' hb'; go_simp; with_reducible rfl))
        | (refine SeqS.u0 ?_)
        | (refine SeqS.k1 (v := ?_) ?_ ?_; rotate_left; focus (intro w' hb'; go_simp; with_reducible rfl))
        | (refine SeqS.k1 (v := ?_) ?_ ?_; rotate_left; focus (intro w' hb'; have d0 := X3.out w' hb'; go_simp; with_reducible rfl))
        | (refine SeqS.k1 (v := ?_) ?_ ?_; rotate_left; focus (intro w' hb'; have d0 := X2.out w' hb'; go_simp; with_reducible rfl))
        | (refine SeqS.u1 ?_)
        | (refine SeqS.k2 (v := ?_) ?_ ?_; rotate_left; focus (intro w' hb'; go_simp; with_reducible rfl))
        | (refine SeqS.k2 (v := ?_) ?_ ?_; rotate_left; focus (intro w' hb'; have d0 := X3.out w' hb'; go_simp; with_reducible rfl))
        | (refine SeqS.k2 (v := ?_) ?_ ?_; rotate_left; focus (intro w' hb'; have d0 := X2.out w' hb'; go_simp; with_reducible rfl))
        | (refine SeqS.u2 ?_)); simp only [Act.put, List.setIfInBounds_toArray, List.set_cons_zero, List.set_cons_succ])
      refine SeqS.alone (by decide +kernel) (by rfl) (fun K hK => ?_)
      go_simp
      go_at_call 13
      refine (CF.out _ S1).mono ?_
      rintro e w2 ⟨rfl, b2⟩
      go_simp
      have S2 : Below wg.heap.size wg w2 := S1.trans (b2.mono S1.size)
      refine hK _ _ S2 ?_
      clear hK K
      repeat ((first
        | (refine SeqS.k0 (v := ?_) ?_ ?_; rotate_left; focus (intro w' hb'; go_simp; with_reducible rfl))
        | (refine SeqS.k0 (v := ?_) ?_ ?_; rotate_left; focus (intro w' hb'; have d0 := X2.out w' hb'; go_simp; with_reducible rfl))
        | (refine SeqS.k0 (v := ?_) ?_ ?_; rotate_left; focus (intro w' hb'; have d0 := X8.out w' hb'; go_simp; with_reducible rfl))
        | (refine SeqS.u0 ?_)
        | (refine SeqS.k1 (v := ?_) ?_ ?_; rotate_left; focus (intro w' hb'; go_simp; with_reducible rfl))
        | (refine SeqS.k1 (v := ?_) ?_ ?_; rotate_left; focus (intro w' hb'; have d0 := X2.out w' hb'; go_simp; with_reducible rfl))
        | (refine SeqS.k1 (v := ?_) ?_ ?_; rotate_left; focus (intro w' hb'; have d0 := X8.out w' hb'; go_simp; with_reducible rfl))
        | (refine SeqS.u1 ?_)
        | (refine SeqS.k2 (v := ?_) ?_ ?_; rotate_left; focus (intro w' hb'; go_simp; with_reducible rfl))
        | (refine SeqS.k2 (v := ?_) ?_ ?_; rotate_left; focus (intro w' hb'; have d0 := X2.out w' hb'; go_simp; with_reducible rfl))
        | (refine SeqS.k2 (v := ?_) ?_ ?_; rotate_left; focus (intro w' hb'; have d0 := X8.out w' hb'; go_simp; with_reducible rfl))
        | (refine SeqS.u2 ?_)); simp only [Act.put, List.setIfInBounds_toArray, List.set_cons_zero, List.set_cons_succ])
      refine SeqS.alone (by decide +kernel) (by rfl) (fun K hK => ?_)
      go_simp
      go_at_call 25
      refine (CD.out _ S2).mono ?_
      rintro e w3 ⟨rfl, b3⟩
      go_simp
      have S3 : Below wg.heap.size wg w3 := S2.trans (b3.mono S2.size)
      refine hK _ _ S3 ?_
      clear hK K
      repeat ((first
        | (refine SeqS.k0 (v := ?_) ?_ ?_; rotate_left; focus (intro w' hb'; go_simp; with_reducible rfl))
        | (refine SeqS.k0 (v := ?_) ?_ ?_; rotate_left; focus (intro w' hb'; have d0 := X8.out w' hb'; go_simp; with_reducible rfl))
        | (refine SeqS.u0 ?_)
        | (refine SeqS.k1 (v := ?_) ?_ ?_; rotate_left; focus (intro w' hb'; go_simp; with_reducible rfl))
        | (refine SeqS.k1 (v := ?_) ?_ ?_; rotate_left; focus (intro w' hb'; have d0 := X8.out w' hb'; go_simp; with_reducible rfl))
        | (refine SeqS.u1 ?_)
        | (refine SeqS.k2 (v := ?_) ?_ ?_; rotate_left; focus (intro w' hb'; go_simp; with_reducible rfl))
        | (refine SeqS.k2 (v := ?_) ?_ ?_; rotate_left; focus (intro w' hb'; have d0 := X8.out w' hb'; go_simp; with_reducible rfl))
        | (refine SeqS.u2 ?_)); simp only [Act.put, List.setIfInBounds_toArray, List.set_cons_zero, List.set_cons_succ])
      refine SeqS.done (by decide +kernel) ?_
      have hBz := hBg.out.trans (S3.mono hBg.out.size)
      clear b1 b2 b3 S1 S2 S3 CT CF CD XG XD X2 X3 X4 X8
      go_wp2
      go_ret
      exact ⟨rfl, hBz⟩
end Go.Proofs.YtcohbhimhacedaaGreatDoor

/-
  The law SlotDoes: what its step stands on: how many steps files have, which, the five variables that step boxes. New memory alone is written. No conditions but those that each row names.
-/
namespace Go.Proofs.YtcohbhimhacedaaGreatDoor
open Go.RowKit

theorem ok_files {D : DkV} {T T' : Nat} (h : D.Ok T') (hf : ∀ i, i < 3 → (D.f i).S.length ≤ T ∧ (D.f i).units ≤ T * 65536) : D.Ok T :=
  ⟨h.room, h.fuse, h.used, ⟨h.o0.ok, (hf 0 (by decide)).1, (hf 0 (by decide)).2, h.o0.need⟩, ⟨h.o1.ok, (hf 1 (by decide)).1, (hf 1 (by decide)).2, h.o1.need⟩, ⟨h.o2.ok, (hf 2 (by decide)).1, (hf 2 (by decide)).2, h.o2.need⟩⟩
theorem set_fi (D : DkV) {i j : Nat} (hi : i < 3) (hj : j < 3) (v : FlV) : (D.set j v).f i = if i = j then v else D.f i := by
  have hc : (i = 0 ∨ i = 1 ∨ i = 2) ∧ (j = 0 ∨ j = 1 ∨ j = 2) := by omega
  obtain ⟨rfl | rfl | rfl, rfl | rfl | rfl⟩ := hc <;> rfl
theorem burn_fi (D : DkV) (i : Nat) : D.burn.f i = D.f i := by
  unfold DkV.burn
  split <;> rfl
theorem keD_okT {D : DkV} {T : Nat} (h : D.Ok T) {z n : Int} (he : (keD D z n).2 = 0) : (keD D z n).1.Ok T := by
  have hok := keD_ok h z n
  refine ok_files hok fun i hi => ?_
  unfold keD at he ⊢
  by_cases h1 : (ctD D z n).2 = 0
  · rw [if_pos h1] at he ⊢
    have e1 : ∃ v, (ctD D z n).1 = (D.set z.toNat v).burn ∧ z.toNat < 3 := by
      unfold ctD at h1 ⊢
      by_cases c1 : noFile z ∨ n < 0 ∨ ((D.f z.toNat).held.length : Int) < n
      · rw [if_pos c1] at h1
        exact absurd h1 (show ¬ (1 : Int) = 0 by decide)
      rw [if_neg c1] at h1 ⊢
      by_cases c2 : D.down = true
      · rw [if_pos c2] at h1
        exact absurd h1 (show ¬ (18 : Int) = 0 by decide)
      rw [if_neg c2]
      exact ⟨_, rfl, by unfold noFile at c1; omega⟩
    obtain ⟨v, e1, hz⟩ := e1
    rw [e1] at he ⊢
    unfold syD at he ⊢
    by_cases c1 : noFile z
    · rw [if_pos c1] at he
      exact absurd he (show ¬ (1 : Int) = 0 by decide)
    rw [if_neg c1] at he ⊢
    by_cases c2 : (D.set z.toNat v).burn.down = true
    · rw [if_pos c2] at he
      exact absurd he (show ¬ (18 : Int) = 0 by decide)
    rw [if_neg c2] at he ⊢
    by_cases c3 : (D.set z.toNat v).burn.burn.down = true
    · rw [if_pos c3] at he
      exact absurd he (show ¬ (18 : Int) = 0 by decide)
    rw [if_neg c3]
    dsimp only
    rw [set_fi _ hi hz]
    by_cases hiz : i = z.toNat
    · rw [if_pos hiz]
      exact ⟨Nat.zero_le _, Nat.zero_le _⟩
    · rw [if_neg hiz, burn_fi, burn_fi, set_fi _ hi hz, if_neg hiz]
      exact ⟨(h.f i).len, (h.f i).un⟩
  · rw [if_neg h1] at he
    exact absurd he h1
theorem clS_okT {D : DkV} {T : Nat} (h : D.Ok T) {z : Int} (he : (clS D z).2 = 0) : (clS D z).1.Ok T := by
  unfold clS at he ⊢
  split
  · rename_i c
    rw [if_pos c] at he
    exact keD_okT h he
  · exact h
theorem ptS_ok1 {D : DkV} {T : Nat} (h : D.Ok T) (s : SlV) (x : List Int) : (ptS D s x).1.Ok (T + 1) := by
  unfold ptS
  split
  · exact h.more (Nat.le_succ T)
  split
  · exact clS_ok h s.to
  rename_i h1
  have h1 : (clS D s.to).2 = 0 := by omega
  have h2 := prD_ok (clS_okT h h1) s.to (s.next x)
  split
  · exact h2
  · exact h2

theorem tmod2 (N : Int) : N.tmod 2 = -1 ∨ N.tmod 2 = 0 ∨ N.tmod 2 = 1 := by
  by_cases h : 0 ≤ N
  · rw [Int.tmod_eq_emod_of_nonneg h]
    omega
  · obtain ⟨M, rfl⟩ : ∃ M, N = -M := ⟨-N, by omega⟩
    rw [Int.neg_tmod, Int.tmod_eq_emod_of_nonneg (by omega)]
    omega

set_option maxRecDepth 100000 in
set_option maxHeartbeats 1000000 in
theorem which_any (N : Int) : ∃ z : Int, (z = 1 ∨ z = 2) ∧ ∀ w : World, Calls Tryz.prog 33 #[.int .i64 N] w fun q w' => q = .returned (.int .i64 z) ∧ w = w' := by
  rcases tmod2 N with h | h | h
  · refine ⟨2, .inr rfl, fun w => ?_⟩
    go_enter Tryz.func33, Tryz.ntmps33
    go_wp2
    go_ret
    exact ⟨rfl, rfl⟩
  · refine ⟨1, .inl rfl, fun w => ?_⟩
    go_enter Tryz.func33, Tryz.ntmps33
    go_wp2
    go_ret
    exact ⟨rfl, rfl⟩
  · refine ⟨2, .inr rfl, fun w => ?_⟩
    go_enter Tryz.func33, Tryz.ntmps33
    go_wp2
    go_ret
    exact ⟨rfl, rfl⟩

/-! ### The five variables that step boxes -/
theorem results_tbbt21 {P : Program} {fn : Func} {p p2 u v : Tmp} {ty ty2 : TypeId} (h : fn.results = #[.tmp u, .cell p ty, .cell p2 ty2, .tmp v]) {tmps : Array Value} {w : World} {g g2 : Nat} {t t2 : TypeId} {cs cs2 : List Value}
    (hp : tmps.getD p undef = .pointer (some ⟨g, 0, none⟩)) (hg : Blk w g t cs) (hr : IsRow P ty cs.length) (hp2 : tmps.getD p2 undef = .pointer (some ⟨g2, 0, none⟩)) (hg2 : Blk w g2 t2 cs2) (hr2 : IsRow P ty2 cs2.length) : (results fn tmps).run P w = .ok (.tuple #[tmps.getD u undef, .agg cs.toArray, .agg cs2.toArray, tmps.getD v undef]) w := by
  obtain ⟨⟨d, hu, hd⟩, hi⟩ := hr
  obtain ⟨⟨d2, hu2, hd2⟩, hi2⟩ := hr2
  have h1 := run_loadVar_mid (P := P) w g 0 ty cs d (hg.range 0 cs (fun j v hj => by simpa using hj)) hu hd hi
  have h2 := run_loadVar_mid (P := P) w g2 0 ty2 cs2 d2 (hg2.range 0 cs2 (fun j v hj => by simpa using hj)) hu2 hd2 hi2
  have hp' : tmps[p]?.getD undef = .pointer (some ⟨g, 0, none⟩) := by simpa using hp
  have hp2' : tmps[p2]?.getD undef = .pointer (some ⟨g2, 0, none⟩) := by simpa using hp2
  simp [results, h, hp', hp2', asAddr, h1, h2]
theorem sizeOpS : (Tryz.prog.info? 51).map (·.size) = some 4 := by kernel_rfl
theorem rowOpS : IsRow Tryz.prog 51 4 := IsRow.struct Tryz.underlying51 sizeOpS
/-- G: the boxed disk, then the slots, the call, the answers' disk and slots. -/
structure Sb (G : Nat) (W : World) (xs ss oc ys zs : List Value) : Prop where
  x : Blk W G 37 xs
  s : Blk W (G + 1) 46 ss
  o : Blk W (G + 2) 51 oc
  y : Blk W (G + 3) 37 ys
  z : Blk W (G + 4) 46 zs
theorem Sb.start (w : World) (xs ss oc ys zs : List Value) : ∃ W, ((((w.alloc (.cells xs.toArray 37)).alloc (.cells ss.toArray 46)).alloc (.cells oc.toArray 51)).alloc (.cells ys.toArray 37)).alloc (.cells zs.toArray 46) = W ∧
    Sb w.heap.size W xs ss oc ys zs ∧ Below w.heap.size w W ∧ W.heap.size = w.heap.size + 5 := by
  have b1 := below2 w (.cells xs.toArray 37) (.cells ss.toArray 46)
  have x1 : Blk ((w.alloc (.cells xs.toArray 37)).alloc (.cells ss.toArray 46)) w.heap.size 37 xs := (Blk.new w _ xs).alloc _
  have s1 : Blk ((w.alloc (.cells xs.toArray 37)).alloc (.cells ss.toArray 46)) (w.heap.size + 1) 46 ss := Blk.new1 w _ _ ss
  have z1 : ((w.alloc (.cells xs.toArray 37)).alloc (.cells ss.toArray 46)).heap.size = w.heap.size + 2 := by rw [size1, size1]
  obtain ⟨V, hV⟩ : ∃ V, (w.alloc (.cells xs.toArray 37)).alloc (.cells ss.toArray 46) = V := ⟨_, rfl⟩
  rw [hV] at b1 x1 s1 z1 ⊢
  have b2 := below1 V (.cells oc.toArray 51)
  have o2 := Blk.new V 51 oc
  have z2 := size1 V (.cells oc.toArray 51)
  have x2 := x1.keep b2 x1.lt
  have s2 := s1.keep b2 s1.lt
  have B2 := b1.trans (b2.mono b1.size)
  obtain ⟨U, hU⟩ : ∃ V', V.alloc (.cells oc.toArray 51) = V' := ⟨_, rfl⟩
  rw [hU] at o2 z2 x2 s2 B2 ⊢
  rw [z1] at o2 z2
  have b3 := below2 U (.cells ys.toArray 37) (.cells zs.toArray 46)
  have y3 : Blk ((U.alloc (.cells ys.toArray 37)).alloc (.cells zs.toArray 46)) U.heap.size 37 ys := (Blk.new U _ ys).alloc _
  have w3 : Blk ((U.alloc (.cells ys.toArray 37)).alloc (.cells zs.toArray 46)) (U.heap.size + 1) 46 zs := Blk.new1 U _ _ zs
  have z3 : ((U.alloc (.cells ys.toArray 37)).alloc (.cells zs.toArray 46)).heap.size = U.heap.size + 2 := by rw [size1, size1]
  rw [z2] at y3 w3 z3
  exact ⟨_, rfl, ⟨x2.keep b3 x2.lt, s2.keep b3 s2.lt, o2.keep b3 o2.lt, y3, w3⟩, B2.trans (b3.mono B2.size), z3⟩
section
variable {G : Nat} {W W' : World} {xs ss oc ys zs vs : List Value}
theorem Sb.keep (h : Sb G W xs ss oc ys zs) (hb : Below W.heap.size W W') : Sb G W' xs ss oc ys zs := ⟨h.x.keep hb h.x.lt, h.s.keep hb h.s.lt, h.o.keep hb h.o.lt, h.y.keep hb h.y.lt, h.z.keep hb h.z.lt⟩
theorem Sb.same (h : Sb G W xs ss oc ys zs) (hs : ∀ b, G ≤ b → b ≤ G + 4 → W'.heap[b]? = W.heap[b]?) : Sb G W' xs ss oc ys zs :=
  ⟨(hs G (by omega) (by omega)).trans h.x, (hs (G + 1) (by omega) (by omega)).trans h.s, (hs (G + 2) (by omega) (by omega)).trans h.o, (hs (G + 3) (by omega) (by omega)).trans h.y, (hs (G + 4) (by omega) (by omega)).trans h.z⟩
theorem Sb.far (h : Sb G W xs ss oc ys zs) {M : Nat} (hg : W.grownBy W' (some M)) (hM : G + 4 < M) : Sb G W' xs ss oc ys zs := by
  have h0 := h.z.lt
  exact h.same fun b _ h2 => hg.block b (by omega) (fun e => by injection e; omega)
theorem Sb.sety (h : Sb G W xs ss oc ys zs) (hb : Blk W' (G + 3) 37 vs) (hg : W.grownBy W' (some (G + 3))) : Sb G W' xs ss oc vs zs :=
  ⟨h.x.grown hg (fun e => by injection e; omega), h.s.grown hg (fun e => by injection e; omega), h.o.grown hg (fun e => by injection e; omega), hb, h.z.grown hg (fun e => by injection e; omega)⟩
theorem Sb.setz (h : Sb G W xs ss oc ys zs) (hb : Blk W' (G + 4) 46 vs) (hg : W.grownBy W' (some (G + 4))) : Sb G W' xs ss oc ys vs :=
  ⟨h.x.grown hg (fun e => by injection e; omega), h.s.grown hg (fun e => by injection e; omega), h.o.grown hg (fun e => by injection e; omega), h.y.grown hg (fun e => by injection e; omega), hb⟩
theorem Sb.setx (h : Sb G W xs ss oc ys zs) (hb : Blk W' G 37 vs) (hg : W.grownBy W' (some G)) : Sb G W' vs ss oc ys zs :=
  ⟨hb, h.s.grown hg (fun e => by injection e; omega), h.o.grown hg (fun e => by injection e; omega), h.y.grown hg (fun e => by injection e; omega), h.z.grown hg (fun e => by injection e; omega)⟩
theorem Sb.size (h : Sb G W xs ss oc ys zs) : G + 5 ≤ W.heap.size := h.z.lt
end
def Fv (E : Nat → Prop) (G : Nat) : Nat → Prop := fun b => E b ∨ (G ≤ b ∧ b ≤ G + 4)
/-- A block of the walk's own was written. -/
theorem SlotAt.far {w w' : World} {so g fb : Nat} {a b now : Int} (h : SlotAt w so g fb a b now) {M : Nat} (hg : w.grownBy w' (some M)) (h1 : so ≠ M) (h2 : fb ≠ M) : SlotAt w' so g fb a b now :=
  h.same (hg.block so h.s.lt (fun e => by injection e with e; exact h1 e)) (hg.block fb h.f.lt (fun e => by injection e with e; exact h2 e))
/-- A new variable of many cells, as one operation. -/
theorem wp_alloc21 {P : Program} {w : World} {o : Oper} {a : Act} {K : Act → World → Prop} {Q : Exit → Act → World → Prop} (ty : TypeId) (ho : o.op = .alloc ty) {zs : List Value} (hz : Zero P ty zs)
    (h : K (a.put o.dst (.pointer (some ⟨w.heap.size, 0, none⟩))) (w.alloc (.cells zs.toArray ty))) : o.wp P a w K Q := by
  unfold Zero at hz
  cases hq : P.info? ty with
  | none => simp [hq] at hz
  | some i =>
    have hz' : i.zero = some (.agg zs.toArray) := by simpa [hq] using hz
    unfold Oper.wp
    simp only [execOp, ho]
    simp [Instr.alloc, zeroValue, typeInfo, hq, hz', newVar, newRow, Value.cells, newObj]
    exact h
/-- What a step leaves alone: all of E but the slots' own block. -/
def Kp (E : Nat → Prop) (so : Nat) (w w' : World) : Prop := ∀ b, E b → b ≠ so → w'.heap[b]? = w.heap[b]?
theorem Kp.below {E : Nat → Prop} {so G : Nat} {w w1 w2 : World} (h : Kp E so w w1) (lt : ∀ b, E b → b < G) (hs : G ≤ w1.heap.size) (q : Below w1.heap.size w1 w2) : Kp E so w w2 := fun b hb hn => (q.block b (Nat.lt_of_lt_of_le (lt b hb) hs)).trans (h b hb hn)
theorem Kp.grown {E : Nat → Prop} {so G M : Nat} {w w1 w2 : World} (h : Kp E so w w1) (lt : ∀ b, E b → b < G) (hs : G ≤ w1.heap.size) (hg : w1.grownBy w2 (some M)) (hM : G ≤ M) : Kp E so w w2 := fun b hb hn => (hg.block b (Nat.lt_of_lt_of_le (lt b hb) hs) (fun e => by injection e with e; exact absurd (lt b hb) (Nat.not_lt.2 (e ▸ hM)))).trans (h b hb hn)
theorem Kp.same {E F : Nat → Prop} {so : Nat} {w w1 w2 : World} (h : Kp E so w w1) (hF : ∀ b, E b → F b) (k : ∀ b, F b → b ≠ so → w2.heap[b]? = w1.heap[b]?) : Kp E so w w2 := fun b hb hn => (k b (hF b hb) hn).trans (h b hb hn)
/-- What step leaves. -/
def StepTo (E : Nat → Prop) (B : Nat) (w0 w : World) (g so : Nat) (T : Nat) (q : Ending) (w' : World) : Prop := ∃ so' fb' cs' sc' D2 s2, q = .returned (.tuple #[.pointer (some ⟨so', 0, none⟩), .agg cs'.toArray, .agg sc'.toArray, .bool true]) ∧ (D2.Ok (T + 1) ∧ D2.By ∧ s2.Ok ∧ (s2.a = 1 ∧ s2.b = 2) ∧ Cur D2 s2) ∧ T21 (fun x => E x ∨ x = so' ∨ x = fb') B w0 w' g cs' sc' D2 D2 s2 ∧ SlotAt w' so' g fb' s2.a s2.b s2.now ∧ (so' ≠ fb' ∧ B ≤ so') ∧ Kp E so w w'
theorem T21.len {E : Nat → Prop} {B : Nat} {w0 w : World} {g : Nat} {cs sc : List Value} {D D' : DkV} {s : SlV} (h : T21 E B w0 w g cs sc D D' s) : sc.length = 5 ∧ ∀ v ∈ sc, v.oneCell' = true := by
  obtain ⟨_, _, _, _, h⟩ := h
  exact h.len
end Go.Proofs.YtcohbhimhacedaaGreatDoor

/-
  The law SlotDoes: its step, where the call is Put. New memory is written, the landed disk's own and the landed slots'. Conditions: the disks have at most 3518437208880 steps; the files hold bytes; the call's bytes are at most 2^47.
-/
namespace Go.Proofs.YtcohbhimhacedaaGreatDoor
open Go.RowKit

set_option maxRecDepth 100000 in
set_option maxHeartbeats 8000000 in
theorem step21_0 {E : Nat → Prop} {B : Nat} {w0 w : World} {g so fb : Nat} {cs sc : List Value} {D : DkV} {s : SlV} {T : Nat} {o : OpS} (h : T21 E B w0 w g cs sc D D s) (hS : SlotAt w so g fb s.a s.b s.now) (hE : E so ∧ E fb) (hne : so ≠ fb) (hBs : B ≤ so) (hO : D.Ok T) (hT : T ≤ 3518437208880) (hD : D.By) (hok : s.Ok) (hab : s.a = 1 ∧ s.b = 2) (hcu : Cur D s) (hG0 : Glob11 w0) (hB0 : w0.heap.size ≤ B) (hk : o.Ok w) (hbl : ∀ x, o.ba = some x → 0 < o.bn → x.block < B) (hbn : o.bn ≤ 140737488355328) (hkk : o.k = 0) :
    Calls Tryz.prog 12 #[.pointer (some ⟨g, 0, none⟩), .pointer (some ⟨so, 0, none⟩), .agg cs.toArray, .agg sc.toArray, .agg o.cells.toArray] w (StepTo E B w0 w g so T) := by
  have hl := h.two.ddc.l
  have ho1 := h.two.ddc.o
  have hBw := h.sz
  obtain ⟨hsl, hso⟩ := h.len
  have hrow : IsRow Tryz.prog 37 cs.length := by rw [hl]; exact rowDd
  have hrowS : IsRow Tryz.prog 46 sc.length := by rw [hsl]; exact rowSl
  obtain ⟨zs, hzs⟩ : ∃ zs, ddZ = zs := ⟨_, rfl⟩
  have hz := zeroDd
  have hzl := ddZ_len
  rw [hzs] at hz hzl
  obtain ⟨zS, hzS⟩ : ∃ zs, slZ = zs := ⟨_, rfl⟩
  have hzz := zeroSl
  have hzzl : slZ.length = 5 := rfl
  rw [hzS] at hzz hzzl
  obtain ⟨k, hk0⟩ : ∃ k, o.k = k := ⟨_, rfl⟩
  obtain ⟨N, hN0⟩ : ∃ N, o.n = N := ⟨_, rfl⟩
  obtain ⟨X, hX0⟩ : ∃ X, o.m = X := ⟨_, rfl⟩
  have z0 : o.cells[0]? = some (.int .i64 k) := by rw [← hk0]; rfl
  have z1 : o.cells[1]? = some (.int .i64 N) := by rw [← hN0]; rfl
  have z2 : o.cells[2]? = some (.int .i64 X) := by rw [← hX0]; rfl
  have z3 : o.cells[3]? = some (.slice o.ba o.bn o.bc) := rfl
  have hNr := hk.n
  rw [hN0] at hNr
  rw [hk0] at hkk
  obtain ⟨C, hC⟩ : ∃ C, o.cells = C := ⟨_, rfl⟩
  rw [hC] at z0 z1 z2 z3 ⊢
  obtain ⟨W, hW, b0, q0, hs0⟩ := Sb.start w cs sc C zs zS
  have ltE := h.lt
  have h3 : T21 (Fv E w.heap.size) B w0 W g cs sc D D s := h.keepE q0 (fun b hb => hb.imp id (fun hb => by rw [hs0]; omega))
  have S3 := hS.keep q0
  have kp3 : Kp E so w W := fun b hb _ => q0.block b (ltE b hb)
  obtain ⟨G, hG⟩ : ∃ G, w.heap.size = G := ⟨_, rfl⟩
  rw [hG] at b0 h3 ltE hs0 hBw
  have ltso : so < G := ltE so hE.1
  have ltfb : fb < G := ltE fb hE.2
  have hBG : B ≤ G := hBw
  have I0 := hk.b.keep q0
  have hbr := hk.br
  have c0 := (b0.o.cell 0).trans z0
  have WH := Lib.hid hW
  have GH := Lib.hid hG
  have OK := Lib.hid (show D.Ok T ∧ D.By ∧ s.Ok ∧ (s.a = 1 ∧ s.b = 2) ∧ Cur D s from ⟨hO, hD, hok, hab, hcu⟩)
  have TH := Lib.hid hT
  have HG := Lib.hid hG0
  have HB := Lib.hid hB0
  have LT := Lib.hid (show (∀ b, E b → b < G) ∧ so < G ∧ fb < G ∧ B ≤ G from ⟨ltE, ltso, ltfb, hBG⟩)
  have EH := Lib.hid hE
  have NE := Lib.hid (show so ≠ fb ∧ B ≤ so from ⟨hne, hBs⟩)
  have IH := Lib.hid I0
  have BR := Lib.hid (show (∀ z ∈ o.bs, 0 ≤ z ∧ z < 256) ∧ o.bn ≤ 140737488355328 ∧ ∀ x, o.ba = some x → 0 < o.bn → x.block < B from ⟨hbr, hbn, hbl⟩)
  have NR := Lib.hid hNr
  have h3H := Lib.hid h3
  have S3H := Lib.hid S3
  have b0H := Lib.hid b0
  have kp3H := Lib.hid kp3
  have Z1 := Lib.hid z1
  have Z2 := Lib.hid z2
  have Z3 := Lib.hid z3
  clear h hS hE hne hBs hO hT hD hok hab hcu hG0 hB0 hk hbl hbn hW hG q0 hs0 ltE ltso ltfb hBG I0 hbr h3 S3 kp3 z0 z1 z2 z3 hzs hzS hk0 hN0 hX0 hC hBw hNr b0
  go_enter Tryz.func12, Tryz.ntmps12
  go_wp2_with (first
    | ((with_reducible refine box_row rfl 37 (.tmp 2) rfl cs rfl ?_))
    | ((with_reducible refine box_row rfl 46 (.tmp 3) rfl sc rfl ?_))
    | ((with_reducible refine box_row rfl 51 (.tmp 4) rfl C rfl ?_))
    | (with_reducible refine wpList_alloc_blk rfl 37 rfl hz ?_)
    | (with_reducible refine wpList_alloc_blk rfl 46 rfl hzz ?_; refine RowKit.Hid.out ?_))
  refine Lib.hid ?_
  rw [WH.out]
  simp only [GH.out, Nat.add_assoc, Nat.reduceAdd]
  subst hkk
  have c3 := (b0H.out.o.cell 3).trans Z3.out
  obtain ⟨D1, s1, e, he⟩ : ∃ D1 s1 e, ptS D s o.bs = (D1, s1, e) := ⟨_, _, _, rfl⟩
  have ok1 := ptS_ok1 OK.out.1 s o.bs
  have by1 := ptS_by OK.out.2.1 s BR.out.1
  have sl1 := ptS_sl (D := D) OK.out.2.2.1 BR.out.1
  have cu1 := pt_cur OK.out.2.2.2.2 OK.out.2.2.1 o.bs
  have ab1 := pt_ab D s o.bs
  rw [he] at ok1 by1 sl1 cu1 ab1
  dsimp only at ok1 by1 sl1 cu1 ab1
  have FN := Lib.hid (show D1.Ok (T + 1) ∧ D1.By ∧ s1.Ok ∧ (s1.a = 1 ∧ s1.b = 2) ∧ Cur D1 s1 from ⟨ok1, by1, sl1, ⟨ab1.1.trans OK.out.2.2.2.1.1, ab1.2.trans OK.out.2.2.2.1.2⟩, cu1⟩)
  have heH := Lib.hid he
  have cP := u_put h3H.out S3H.out ⟨.inl EH.out.1, .inl EH.out.2⟩ NE.out.1 NE.out.2 OK.out.1 (by have := TH.out; omega) OK.out.2.1 OK.out.2.2.1 OK.out.2.2.2.2 HG.out HB.out IH.out (fun x hx h0 => .inl (BR.out.2.2 x hx h0)) BR.out.1 he
  clear ok1 by1 sl1 cu1 ab1 he
  go_wp2_with fail
  refine cP.mono ?_
  rintro q w4 ⟨rfl, h4, S4, k4⟩
  have b4 := b0H.out.same (fun b h1 h2 => k4 b (.inr ⟨h1, h2⟩) (by have := LT.out.2.1; omega))
  have kp4 := kp3H.out.same (F := Fv E G) (fun b hb => .inl hb) k4
  have I4 := ints_below h3H.out.b h4.b IH.out BR.out.2.2
  have cQ := v_put h4 OK.out.1 TH.out OK.out.2.1 OK.out.2.2.1 OK.out.2.2.2.1 I4 BR.out.1 BR.out.2.1 heH.out
  have d3 := (b4.o.cell 3).trans Z3.out
  have b4x := b4.x
  have b4s := b4.s
  have b4H := Lib.hid b4
  have S4H := Lib.hid S4
  have kp4H := Lib.hid kp4
  clear cP k4 h4 S4 I4 b4 kp4 c0 c3 h3H S3H b0H kp3H heH
  go_wp2_with (first
    | ((with_reducible refine wpList_load_blk rfl 37 (.tmp 7) rfl ?_ b4x rowDd hl ?_); rfl)
    | ((with_reducible refine wpList_load_blk rfl 46 (.tmp 8) rfl ?_ b4s rowSl hsl ?_); rfl))
  refine cQ.mono ?_
  rintro q w5 ⟨cs1, sc1, rfl, h5, q5⟩
  have l1 := h5.two.ddc.l
  have o1 := h5.two.ddc.o
  obtain ⟨ls1, os1⟩ := h5.len
  have b5 := b4H.out.keep q5
  have S5 := S4H.out.keep q5
  have kp5 := kp4H.out.below LT.out.1 (by have := b4H.out.size; omega) q5
  have gM := b5.size
  have n1 : Blk ((w5.alloc (.cells zs.toArray 37)).alloc (.cells zS.toArray 46)) w5.heap.size 37 zs := (Blk.new w5 _ zs).alloc _
  have n2 : Blk ((w5.alloc (.cells zs.toArray 37)).alloc (.cells zS.toArray 46)) (w5.heap.size + 1) 46 zS := Blk.new1 w5 _ _ zS
  have q6 := below2 w5 (.cells zs.toArray 37) (.cells zS.toArray 46)
  have s6 : ((w5.alloc (.cells zs.toArray 37)).alloc (.cells zS.toArray 46)).heap.size = w5.heap.size + 2 := by rw [size1, size1]
  have b6 := b5.keep q6
  have S6 := S5.keep q6
  have kp6 := kp5.below LT.out.1 (by omega) q6
  have h6 : T21 (fun x => Fv E G x ∨ (w5.heap.size ≤ x ∧ x ≤ w5.heap.size + 1)) B w0 _ g cs1 sc1 D1 D1 s1 := h5.keepE q6 (fun b hb => hb.imp id (fun hb => by rw [s6]; omega))
  obtain ⟨V, hV⟩ : ∃ V, (w5.alloc (.cells zs.toArray 37)).alloc (.cells zS.toArray 46) = V := ⟨_, rfl⟩
  rw [hV] at n1 n2 s6 b6 S6 kp6 h6
  have VH := Lib.hid hV
  obtain ⟨M, hM⟩ : ∃ M, w5.heap.size = M := ⟨_, rfl⟩
  rw [hM] at n1 n2 s6 h6 gM
  have MH := Lib.hid hM
  have b6H := Lib.hid b6
  have S6H := Lib.hid S6
  have kp6H := Lib.hid kp6
  have h6H := Lib.hid h6
  clear cQ q5 q6 h5 b5 S5 kp5 b4x b4s b4H S4H kp4H d3 hV hM b6 S6 kp6 h6
  go_wp2_with (first
    | (with_reducible refine wpList_alloc_blk rfl 37 rfl hz ?_)
    | (with_reducible refine wpList_alloc_blk rfl 46 rfl hzz ?_; refine RowKit.Hid.out ?_))
  refine Lib.hid ?_
  rw [VH.out]
  simp only [MH.out]
  go_wp2_with ((refine store_row rfl 37 (.tmp 15) _ rfl rfl rfl n1 rowDd l1 hzl o1 ?_); intro w7 b7 g7; refine RowKit.Hid.out ?_)
  refine Lib.hid ?_
  have n2 := n2.grown g7 (fun e => by injection e; omega)
  have b7S := Lib.hid (b6H.out.far g7 (by omega))
  have S7 := Lib.hid (S6H.out.far g7 (by have := LT.out.2.1; omega) (by have := LT.out.2.2.1; omega))
  have kp7 := Lib.hid (kp6H.out.grown LT.out.1 (by omega) g7 (by omega))
  have h7 := Lib.hid (h6H.out.grown g7 (.inr ⟨Nat.le_refl _, by omega⟩) (by have := LT.out.2.2.2; omega))
  have s7 := g7.size
  clear n1 g7 b6H S6H kp6H h6H
  go_wp2_with ((refine store_row rfl 46 (.tmp 16) _ rfl rfl rfl n2 rowSl ls1 hzzl os1 ?_); intro w9 sB g9; refine RowKit.Hid.out ?_)
  refine Lib.hid ?_
  have dB := b7.grown g9 (fun e => by injection e; omega)
  have b9 := b7S.out.far g9 (by omega)
  have S9 := S7.out.far g9 (by have := LT.out.2.1; omega) (by have := LT.out.2.2.1; omega)
  have kp9 := kp7.out.grown LT.out.1 (by omega) g9 (by omega)
  have h9 := h7.out.grown g9 (.inr ⟨by omega, Nat.le_refl _⟩) (by have := LT.out.2.2.2; omega)
  have hee : (e == e) = true := beq_self_eq_true e
  obtain ⟨M1, rfl⟩ : ∃ m, m = M := ⟨_, rfl⟩
  obtain ⟨M2, hM2⟩ : ∃ m, M1 + 1 = m := ⟨_, rfl⟩
  obtain ⟨so1, rfl⟩ : ∃ m, m = so := ⟨_, rfl⟩
  obtain ⟨fb1, rfl⟩ : ∃ m, m = fb := ⟨_, rfl⟩
  rw [hM2] at sB ⊢
  have fin := FN.out
  have ne9 := NE.out
  have in3 : (fun x => Fv E G x ∨ (M1 ≤ x ∧ x ≤ M1 + 1)) (G + 3) := .inl (.inr ⟨by omega, by omega⟩)
  have in4 : (fun x => Fv E G x ∨ (M1 ≤ x ∧ x ≤ M1 + 1)) (G + 4) := .inl (.inr ⟨by omega, by omega⟩)
  have lsE : ∀ b, (E b ∨ b = so1 ∨ b = fb1) → (fun x => Fv E G x ∨ (M1 ≤ x ∧ x ≤ M1 + 1)) b := fun b hb => .inl (.inl (hb.elim id (fun hb => hb.elim (fun e => e ▸ EH.out.1) (fun e => e ▸ EH.out.2))))
  have far : (M1 ≠ G + 3 ∧ M1 ≠ G + 4) ∧ (M2 ≠ G + 3 ∧ M2 ≠ G + 4) ∧ (so1 ≠ G + 3 ∧ so1 ≠ G + 4) ∧ (fb1 ≠ G + 3 ∧ fb1 ≠ G + 4) := by have := LT.out.2.1; have := LT.out.2.2.1; omega
  obtain ⟨f1, f2, ⟨f3, f4⟩, ⟨f5, f6⟩⟩ := far
  have far := And.intro f1 (And.intro f2 trivial)
  clear n2 b7 g9 b7S S7 kp7 h7 l1 o1 ls1 os1 s6 s7 hM2 VH MH FN

  have l1 := h9.two.ddc.l
  have o1 := h9.two.ddc.o
  have row1 : IsRow Tryz.prog 37 cs1.length := by rw [l1]; exact rowDd
  obtain ⟨ls1, os1⟩ := h9.len
  have rowS1 : IsRow Tryz.prog 46 sc1.length := by rw [ls1]; exact rowSl
  have dr : Below w9.heap.size w9 w9.drew := (Below.refl _ _).drew
  have bd := b9.keep dr
  have hd := h9.keep dr
  have Sd := S9.keep dr
  have dd := dB.keep dr dB.lt
  have sd := sB.keep dr sB.lt
  have kpd := kp9.below LT.out.1 (by have := b9.size; omega) dr
  obtain ⟨V9, hV9⟩ : ∃ V, w9.drew = V := ⟨_, rfl⟩
  rw [hV9] at bd hd Sd dd sd kpd
  have V9H := Lib.hid hV9
  have hdH := Lib.hid hd
  have SdH := Lib.hid Sd
  have kpdH := Lib.hid kpd
  clear b9 h9 S9 dB sB kp9 dr hV9 hd Sd kpd
  go_wp2_with fail
  refine region_seqS (fun w' => Blk w' M1 37 cs1 ∧ Blk w' M2 46 sc1) (by kernel_rfl) (by rw [V9H.out]; exact ⟨dd, sd⟩) ?_
  have iv := And.intro dd sd
  simp only [pairs, Nat.reduceAdd]
  rw [V9H.out]
  repeat ((first
    | (refine SeqS.y0 (v := .agg (cs1).toArray) (yields_blk (by rfl) 37 (.tmp 15) rfl rfl (fun w' h => h.1) (row1)) ?_)
    | (refine SeqS.y0 (v := .agg (sc1).toArray) (yields_blk (by rfl) 46 (.tmp 16) rfl rfl (fun w' h => h.2) (rowS1)) ?_)
    | (refine SeqS.k0 (v := ?_) ?_ ?_; rotate_left; focus (intro w' hb'; go_simp; with_reducible rfl))
    | (refine SeqS.u0 ?_)); simp only [Act.put, List.setIfInBounds_toArray, List.set_cons_zero, List.set_cons_succ])
  refine SeqS.alone (by decide +kernel) (by rfl) (fun K1 hK => ?_)
  refine wp_store_part 37 (.tmp 11) _ rfl rfl rfl bd.y row1 (by rw [l1, hzl]; decide) o1 (fun wa ba ga => ?_)
  rw [overV_all _ _ (by rw [l1, hzl])] at ba
  have ya := bd.sety ba ga
  have da := dd.grown ga (fun e => by injection e with e; exact far.1.1 e)
  have sa := sd.grown ga (fun e => by injection e with e; exact far.2.1.1 e)
  have ha := hdH.out.grown ga in3 (by have := LT.out.2.2.2; omega)
  have Sa := SdH.out.far ga (by omega) (by omega)
  have kpa := kpdH.out.grown LT.out.1 (by have := bd.size; omega) ga (by omega)
  refine hK _ _ ⟨da, sa⟩ ?_
  have haH := Lib.hid ha
  have SaH := Lib.hid Sa
  have kpaH := Lib.hid kpa
  clear hK K1 iv bd dd sd hdH SdH kpdH ha Sa kpa ba ga
  have iv := And.intro da sa
  repeat ((first
    | (refine SeqS.y0 (v := .agg (sc1).toArray) (yields_blk (by rfl) 46 (.tmp 16) rfl rfl (fun w' h => h.2) (rowS1)) ?_)
    | (refine SeqS.k0 (v := ?_) ?_ ?_; rotate_left; focus (intro w' hb'; go_simp; with_reducible rfl))
    | (refine SeqS.u0 ?_)); simp only [Act.put, List.setIfInBounds_toArray, List.set_cons_zero, List.set_cons_succ])
  refine SeqS.alone (by decide +kernel) (by rfl) (fun K2 hK => ?_)
  refine wp_store_part 46 (.tmp 12) _ rfl rfl rfl ya.z rowS1 (by rw [ls1, hzzl]; decide) os1 (fun wb bb gb => ?_)
  rw [overV_all _ _ (by rw [ls1, hzzl])] at bb
  have yb := ya.setz bb gb
  have db := da.grown gb (fun e => by injection e with e; exact far.1.2 e)
  have sb := sa.grown gb (fun e => by injection e with e; exact far.2.1.2 e)
  have hb := (haH.out.grown gb in4 (by have := LT.out.2.2.2; omega)).less lsE
  have Sb' := SaH.out.far gb (by omega) (by omega)
  have kpb := kpaH.out.grown LT.out.1 (by have := ya.size; omega) gb (by omega)
  refine hK _ _ ⟨db, sb⟩ ?_
  clear hK K2 iv ya da sa haH SaH kpaH bb gb
  have iv := And.intro db sb
  repeat ((first
    | (refine SeqS.k0 (v := ?_) ?_ ?_; rotate_left; focus (intro w' hb'; go_simp; with_reducible rfl))
    | (refine SeqS.u0 ?_)); simp only [Act.put, List.setIfInBounds_toArray, List.set_cons_zero, List.set_cons_succ])
  refine SeqS.done (by decide +kernel) ?_
  have yy := yb.y
  have zz := yb.z
  clear iv db sb yb
  go_wp2
  refine bodyPost_ret (results_tbbt21 rfl rfl yy row1 rfl zz rowS1) rfl ?_
  exact ⟨so1, fb1, cs1, sc1, D1, s1, rfl, fin, hb, Sb', ne9, kpb⟩
end Go.Proofs.YtcohbhimhacedaaGreatDoor

/-
  The law SlotDoes: its step, where the call is Arm. New memory is written, the landed disk's own and the landed slots'. Conditions: the disks have at most 3518437208880 steps; the files hold bytes; the call's bytes are at most 2^47.
-/
namespace Go.Proofs.YtcohbhimhacedaaGreatDoor
open Go.RowKit

set_option maxRecDepth 100000 in
set_option maxHeartbeats 8000000 in
theorem step21_2 {E : Nat → Prop} {B : Nat} {w0 w : World} {g so fb : Nat} {cs sc : List Value} {D : DkV} {s : SlV} {T : Nat} {o : OpS} (h : T21 E B w0 w g cs sc D D s) (hS : SlotAt w so g fb s.a s.b s.now) (hE : E so ∧ E fb) (hne : so ≠ fb) (hBs : B ≤ so) (hO : D.Ok T) (hT : T ≤ 3518437208880) (hD : D.By) (hok : s.Ok) (hab : s.a = 1 ∧ s.b = 2) (hcu : Cur D s) (hG0 : Glob11 w0) (hB0 : w0.heap.size ≤ B) (hk : o.Ok w) (hbl : ∀ x, o.ba = some x → 0 < o.bn → x.block < B) (hbn : o.bn ≤ 140737488355328) (hkk : o.k = 2) :
    Calls Tryz.prog 12 #[.pointer (some ⟨g, 0, none⟩), .pointer (some ⟨so, 0, none⟩), .agg cs.toArray, .agg sc.toArray, .agg o.cells.toArray] w (StepTo E B w0 w g so T) := by
  have hl := h.two.ddc.l
  have ho1 := h.two.ddc.o
  have hBw := h.sz
  obtain ⟨hsl, hso⟩ := h.len
  have hrow : IsRow Tryz.prog 37 cs.length := by rw [hl]; exact rowDd
  have hrowS : IsRow Tryz.prog 46 sc.length := by rw [hsl]; exact rowSl
  obtain ⟨zs, hzs⟩ : ∃ zs, ddZ = zs := ⟨_, rfl⟩
  have hz := zeroDd
  have hzl := ddZ_len
  rw [hzs] at hz hzl
  obtain ⟨zS, hzS⟩ : ∃ zs, slZ = zs := ⟨_, rfl⟩
  have hzz := zeroSl
  have hzzl : slZ.length = 5 := rfl
  rw [hzS] at hzz hzzl
  obtain ⟨k, hk0⟩ : ∃ k, o.k = k := ⟨_, rfl⟩
  obtain ⟨N, hN0⟩ : ∃ N, o.n = N := ⟨_, rfl⟩
  obtain ⟨X, hX0⟩ : ∃ X, o.m = X := ⟨_, rfl⟩
  have z0 : o.cells[0]? = some (.int .i64 k) := by rw [← hk0]; rfl
  have z1 : o.cells[1]? = some (.int .i64 N) := by rw [← hN0]; rfl
  have z2 : o.cells[2]? = some (.int .i64 X) := by rw [← hX0]; rfl
  have z3 : o.cells[3]? = some (.slice o.ba o.bn o.bc) := rfl
  have hNr := hk.n
  rw [hN0] at hNr
  rw [hk0] at hkk
  obtain ⟨C, hC⟩ : ∃ C, o.cells = C := ⟨_, rfl⟩
  rw [hC] at z0 z1 z2 z3 ⊢
  obtain ⟨W, hW, b0, q0, hs0⟩ := Sb.start w cs sc C zs zS
  have ltE := h.lt
  have h3 : T21 (Fv E w.heap.size) B w0 W g cs sc D D s := h.keepE q0 (fun b hb => hb.imp id (fun hb => by rw [hs0]; omega))
  have S3 := hS.keep q0
  have kp3 : Kp E so w W := fun b hb _ => q0.block b (ltE b hb)
  obtain ⟨G, hG⟩ : ∃ G, w.heap.size = G := ⟨_, rfl⟩
  rw [hG] at b0 h3 ltE hs0 hBw
  have ltso : so < G := ltE so hE.1
  have ltfb : fb < G := ltE fb hE.2
  have hBG : B ≤ G := hBw
  have I0 := hk.b.keep q0
  have hbr := hk.br
  have c0 := (b0.o.cell 0).trans z0
  have WH := Lib.hid hW
  have GH := Lib.hid hG
  have OK := Lib.hid (show D.Ok T ∧ D.By ∧ s.Ok ∧ (s.a = 1 ∧ s.b = 2) ∧ Cur D s from ⟨hO, hD, hok, hab, hcu⟩)
  have TH := Lib.hid hT
  have HG := Lib.hid hG0
  have HB := Lib.hid hB0
  have LT := Lib.hid (show (∀ b, E b → b < G) ∧ so < G ∧ fb < G ∧ B ≤ G from ⟨ltE, ltso, ltfb, hBG⟩)
  have EH := Lib.hid hE
  have NE := Lib.hid (show so ≠ fb ∧ B ≤ so from ⟨hne, hBs⟩)
  have IH := Lib.hid I0
  have BR := Lib.hid (show (∀ z ∈ o.bs, 0 ≤ z ∧ z < 256) ∧ o.bn ≤ 140737488355328 ∧ ∀ x, o.ba = some x → 0 < o.bn → x.block < B from ⟨hbr, hbn, hbl⟩)
  have NR := Lib.hid hNr
  have h3H := Lib.hid h3
  have S3H := Lib.hid S3
  have b0H := Lib.hid b0
  have kp3H := Lib.hid kp3
  have Z1 := Lib.hid z1
  have Z2 := Lib.hid z2
  have Z3 := Lib.hid z3
  clear h hS hE hne hBs hO hT hD hok hab hcu hG0 hB0 hk hbl hbn hW hG q0 hs0 ltE ltso ltfb hBG I0 hbr h3 S3 kp3 z0 z1 z2 z3 hzs hzS hk0 hN0 hX0 hC hBw hNr b0
  go_enter Tryz.func12, Tryz.ntmps12
  go_wp2_with (first
    | ((with_reducible refine box_row rfl 37 (.tmp 2) rfl cs rfl ?_))
    | ((with_reducible refine box_row rfl 46 (.tmp 3) rfl sc rfl ?_))
    | ((with_reducible refine box_row rfl 51 (.tmp 4) rfl C rfl ?_))
    | (with_reducible refine wpList_alloc_blk rfl 37 rfl hz ?_)
    | (with_reducible refine wpList_alloc_blk rfl 46 rfl hzz ?_; refine RowKit.Hid.out ?_))
  refine Lib.hid ?_
  rw [WH.out]
  simp only [GH.out, Nat.add_assoc, Nat.reduceAdd]
  subst hkk
  obtain ⟨D1, he⟩ : ∃ D1, armD D N = D1 := ⟨_, rfl⟩
  have ok1 := (armD_ok OK.out.1 N NR.out.2).more (Nat.le_succ T)
  have by1 := armD_by OK.out.2.1 N
  have cu1 := arm_cur OK.out.2.2.2.2 N
  rw [he] at ok1 by1 cu1
  have FN := Lib.hid (show D1.Ok (T + 1) ∧ D1.By ∧ s.Ok ∧ (s.a = 1 ∧ s.b = 2) ∧ Cur D1 s from ⟨ok1, by1, OK.out.2.2.1, OK.out.2.2.2.1, cu1⟩)
  have heH := Lib.hid he
  have cP := u_arm N h3H.out OK.out.1 he
  have c1 := (b0H.out.o.cell 1).trans Z1.out
  clear ok1 by1 cu1 he
  go_wp2_with fail
  refine cP.mono ?_
  rintro q w4 ⟨rfl, h4, k4⟩
  have dr3 : Below W.heap.size W W := Below.refl _ _
  have dr4 : Below w4.heap.size w4 w4.drew := (Below.refl _ _).drew
  have h4H := Lib.hid (h4.keep dr4)
  have S4H := Lib.hid ((S3H.out.keep dr3).same (k4 so (.inl EH.out.1)) (k4 fb (.inl EH.out.2)) |>.keep dr4)
  have b4H := Lib.hid (((b0H.out.keep dr3).same (fun b h1 h2 => k4 b (.inr ⟨h1, h2⟩))).keep dr4)
  have kp4H := Lib.hid (((kp3H.out.below LT.out.1 (by have := b0H.out.size; omega) dr3).same (F := Fv E G) (fun b hb => .inl hb) (fun b hb _ => k4 b hb)).below LT.out.1 (by have := (b0H.out.keep dr3).same (W' := w4) (fun b h1 h2 => k4 b (.inr ⟨h1, h2⟩)); have := this.size; omega) dr4)
  have I4 := Lib.hid ((ints_below h3H.out.b h4.b IH.out BR.out.2.2).keep dr4)
  obtain ⟨w4d, hw4d⟩ : ∃ v, w4.drew = v := ⟨_, rfl⟩
  rw [hw4d] at h4H S4H b4H kp4H I4
  have D4 := Lib.hid hw4d
  have iv4 := And.intro b4H.out.x b4H.out.o
  clear h4 k4 dr4 hw4d
  clear dr3 h3H S3H b0H kp3H c0 c1 cP I4
  have iv4 := And.intro b4H.out.x (And.intro b4H.out.s b4H.out.o)
  go_wp2_with fail
  refine region_seqS (fun w' => Blk w' G 37 cs ∧ Blk w' (G + 1) 46 sc ∧ Blk w' (G + 2) 51 C) (by kernel_rfl) (by rw [D4.out]; exact iv4) ?_
  simp only [pairs, Nat.reduceAdd]
  rw [D4.out]
  repeat ((first
    | (refine SeqS.y0 (v := .agg (cs).toArray) (yields_blk (by rfl) 37 (.tmp 7) rfl rfl (fun w' h => h.1) (hrow)) ?_)
    | (refine SeqS.y0 (v := .agg (sc).toArray) (yields_blk (by rfl) 46 (.tmp 8) rfl rfl (fun w' h => h.2.1) (hrowS)) ?_)
    | (refine SeqS.k0 (v := ?_) ?_ ?_; rotate_left; focus (intro w' hb'; go_simp; with_reducible rfl))
    | (refine SeqS.k0 (v := ?_) ?_ ?_; rotate_left; focus (intro w' hb'; have d0 := (hb'.2.2.cell 1).trans Z1.out; go_simp; with_reducible rfl))
    | (refine SeqS.u0 ?_)
    | (refine SeqS.y1 (v := .agg (cs).toArray) (yields_blk (by rfl) 37 (.tmp 7) rfl rfl (fun w' h => h.1) (hrow)) ?_)
    | (refine SeqS.y1 (v := .agg (sc).toArray) (yields_blk (by rfl) 46 (.tmp 8) rfl rfl (fun w' h => h.2.1) (hrowS)) ?_)
    | (refine SeqS.k1 (v := ?_) ?_ ?_; rotate_left; focus (intro w' hb'; go_simp; with_reducible rfl))
    | (refine SeqS.k1 (v := ?_) ?_ ?_; rotate_left; focus (intro w' hb'; have d0 := (hb'.2.2.cell 1).trans Z1.out; go_simp; with_reducible rfl))
    | (refine SeqS.u1 ?_)
    | (refine SeqS.y2 (v := .agg (cs).toArray) (yields_blk (by rfl) 37 (.tmp 7) rfl rfl (fun w' h => h.1) (hrow)) ?_)
    | (refine SeqS.y2 (v := .agg (sc).toArray) (yields_blk (by rfl) 46 (.tmp 8) rfl rfl (fun w' h => h.2.1) (hrowS)) ?_)
    | (refine SeqS.k2 (v := ?_) ?_ ?_; rotate_left; focus (intro w' hb'; go_simp; with_reducible rfl))
    | (refine SeqS.k2 (v := ?_) ?_ ?_; rotate_left; focus (intro w' hb'; have d0 := (hb'.2.2.cell 1).trans Z1.out; go_simp; with_reducible rfl))
    | (refine SeqS.u2 ?_)); simp only [Act.put, List.setIfInBounds_toArray, List.set_cons_zero, List.set_cons_succ])
  refine SeqS.alone (by decide +kernel) (by rfl) (fun K hK => ?_)
  go_simp
  go_at_call 35
  refine (v_arm N h4H.out heH.out).mono ?_
  rintro q w5 ⟨cs1, rfl, h5, q5⟩
  go_simp
  have bd := b4H.out.keep q5
  have Sd := S4H.out.keep q5
  have kpd := kp4H.out.below LT.out.1 (by have := b4H.out.size; omega) q5
  refine hK _ _ ⟨bd.x, bd.s, bd.o⟩ ?_
  have iv := And.intro bd.x (And.intro bd.s bd.o)
  have l1 := h5.two.ddc.l
  have o1 := h5.two.ddc.o
  have row1 : IsRow Tryz.prog 37 cs1.length := by rw [l1]; exact rowDd
  have hdH := Lib.hid h5
  have SdH := Lib.hid Sd
  have kpdH := Lib.hid kpd
  clear hK K iv4 h4H S4H b4H kp4H q5 h5 Sd kpd
  repeat ((first
    | (refine SeqS.y0 (v := .agg (sc).toArray) (yields_blk (by rfl) 46 (.tmp 8) rfl rfl (fun w' h => h.2.1) (hrowS)) ?_)
    | (refine SeqS.k0 (v := ?_) ?_ ?_; rotate_left; focus (intro w' hb'; go_simp; with_reducible rfl))
    | (refine SeqS.u0 ?_)
    | (refine SeqS.y1 (v := .agg (sc).toArray) (yields_blk (by rfl) 46 (.tmp 8) rfl rfl (fun w' h => h.2.1) (hrowS)) ?_)
    | (refine SeqS.k1 (v := ?_) ?_ ?_; rotate_left; focus (intro w' hb'; go_simp; with_reducible rfl))
    | (refine SeqS.u1 ?_)
    | (refine SeqS.y2 (v := .agg (sc).toArray) (yields_blk (by rfl) 46 (.tmp 8) rfl rfl (fun w' h => h.2.1) (hrowS)) ?_)
    | (refine SeqS.k2 (v := ?_) ?_ ?_; rotate_left; focus (intro w' hb'; go_simp; with_reducible rfl))
    | (refine SeqS.u2 ?_)); simp only [Act.put, List.setIfInBounds_toArray, List.set_cons_zero, List.set_cons_succ])
  refine SeqS.alone (by decide +kernel) (by rfl) (fun K1 hK => ?_)
  refine wp_store_part 37 (.tmp 11) _ rfl rfl rfl bd.y row1 (by rw [l1, hzl]; decide) o1 (fun wa ba ga => ?_)
  rw [overV_all _ _ (by rw [l1, hzl])] at ba
  have ya := bd.sety ba ga
  have ha := hdH.out.grown ga (.inr ⟨by omega, by omega⟩) (by have := LT.out.2.2.2; omega)
  have Sa := SdH.out.far ga (by have := LT.out.2.1; omega) (by have := LT.out.2.2.1; omega)
  have kpa := kpdH.out.grown LT.out.1 (by have := bd.size; omega) ga (by omega)
  refine hK _ _ ⟨ya.x, ya.s, ya.o⟩ ?_
  have haH := Lib.hid ha
  have SaH := Lib.hid Sa
  have kpaH := Lib.hid kpa
  clear hK K1 iv bd hdH SdH kpdH ha Sa kpa ba ga
  have iv := And.intro ya.x (And.intro ya.s ya.o)
  repeat ((first
    | (refine SeqS.y0 (v := .agg (sc).toArray) (yields_blk (by rfl) 46 (.tmp 8) rfl rfl (fun w' h => h.2.1) (hrowS)) ?_)
    | (refine SeqS.k0 (v := ?_) ?_ ?_; rotate_left; focus (intro w' hb'; go_simp; with_reducible rfl))
    | (refine SeqS.u0 ?_)
    | (refine SeqS.y1 (v := .agg (sc).toArray) (yields_blk (by rfl) 46 (.tmp 8) rfl rfl (fun w' h => h.2.1) (hrowS)) ?_)
    | (refine SeqS.k1 (v := ?_) ?_ ?_; rotate_left; focus (intro w' hb'; go_simp; with_reducible rfl))
    | (refine SeqS.u1 ?_)
    | (refine SeqS.y2 (v := .agg (sc).toArray) (yields_blk (by rfl) 46 (.tmp 8) rfl rfl (fun w' h => h.2.1) (hrowS)) ?_)
    | (refine SeqS.k2 (v := ?_) ?_ ?_; rotate_left; focus (intro w' hb'; go_simp; with_reducible rfl))
    | (refine SeqS.u2 ?_)); simp only [Act.put, List.setIfInBounds_toArray, List.set_cons_zero, List.set_cons_succ])
  refine SeqS.alone (by decide +kernel) (by rfl) (fun K2 hK => ?_)
  refine wp_store_part 46 (.tmp 12) _ rfl rfl rfl ya.z hrowS (by rw [hsl, hzzl]; decide) hso (fun wb bb gb => ?_)
  rw [overV_all _ _ (by rw [hsl, hzzl])] at bb
  have yb := ya.setz bb gb
  have hb := (haH.out.grown gb (.inr ⟨by omega, by omega⟩) (by have := LT.out.2.2.2; omega)).less (E' := fun b => E b ∨ b = so ∨ b = fb) (fun b hb => .inl (hb.elim id (fun hb => hb.elim (fun e => e ▸ EH.out.1) (fun e => e ▸ EH.out.2))))
  have Sb' := SaH.out.far gb (by have := LT.out.2.1; omega) (by have := LT.out.2.2.1; omega)
  have kpb := kpaH.out.grown LT.out.1 (by have := ya.size; omega) gb (by omega)
  refine hK _ _ ⟨yb.x, yb.s, yb.o⟩ ?_
  clear hK K2 iv ya haH SaH kpaH bb gb
  have iv := And.intro yb.x (And.intro yb.s yb.o)
  repeat ((first
    | (refine SeqS.k0 (v := ?_) ?_ ?_; rotate_left; focus (intro w' hb'; go_simp; with_reducible rfl))
    | (refine SeqS.u0 ?_)
    | (refine SeqS.k1 (v := ?_) ?_ ?_; rotate_left; focus (intro w' hb'; go_simp; with_reducible rfl))
    | (refine SeqS.u1 ?_)
    | (refine SeqS.k2 (v := ?_) ?_ ?_; rotate_left; focus (intro w' hb'; go_simp; with_reducible rfl))
    | (refine SeqS.u2 ?_)); simp only [Act.put, List.setIfInBounds_toArray, List.set_cons_zero, List.set_cons_succ])
  refine SeqS.done (by decide +kernel) ?_
  have yy := yb.y
  have zz := yb.z
  clear iv yb
  go_wp2
  refine bodyPost_ret (results_tbbt21 rfl rfl yy row1 rfl zz hrowS) rfl ?_
  exact ⟨so, fb, cs1, sc, D1, s, rfl, FN.out, hb, Sb', NE.out, kpb⟩
end Go.Proofs.YtcohbhimhacedaaGreatDoor

/-
  The law SlotDoes: its step, where the call is Crash, and Open. New memory is written, the landed disk's own and the landed slots'. Conditions: the disks have at most 3518437208880 steps; the files hold bytes; the call's bytes are at most 2^47.
-/
namespace Go.Proofs.YtcohbhimhacedaaGreatDoor
open Go.RowKit

set_option maxRecDepth 100000 in
set_option maxHeartbeats 8000000 in
theorem step21_3 {E : Nat → Prop} {B : Nat} {w0 w : World} {g so fb : Nat} {cs sc : List Value} {D : DkV} {s : SlV} {T : Nat} {o : OpS} (h : T21 E B w0 w g cs sc D D s) (hS : SlotAt w so g fb s.a s.b s.now) (hE : E so ∧ E fb) (hne : so ≠ fb) (hBs : B ≤ so) (hO : D.Ok T) (hT : T ≤ 3518437208880) (hD : D.By) (hok : s.Ok) (hab : s.a = 1 ∧ s.b = 2) (hcu : Cur D s) (hG0 : Glob11 w0) (hB0 : w0.heap.size ≤ B) (hk : o.Ok w) (hbl : ∀ x, o.ba = some x → 0 < o.bn → x.block < B) (hbn : o.bn ≤ 140737488355328) (hkk : o.k = 3) :
    Calls Tryz.prog 12 #[.pointer (some ⟨g, 0, none⟩), .pointer (some ⟨so, 0, none⟩), .agg cs.toArray, .agg sc.toArray, .agg o.cells.toArray] w (StepTo E B w0 w g so T) := by
  have hl := h.two.ddc.l
  have ho1 := h.two.ddc.o
  have hBw := h.sz
  obtain ⟨hsl, hso⟩ := h.len
  have hrow : IsRow Tryz.prog 37 cs.length := by rw [hl]; exact rowDd
  have hrowS : IsRow Tryz.prog 46 sc.length := by rw [hsl]; exact rowSl
  obtain ⟨zs, hzs⟩ : ∃ zs, ddZ = zs := ⟨_, rfl⟩
  have hz := zeroDd
  have hzl := ddZ_len
  rw [hzs] at hz hzl
  obtain ⟨zS, hzS⟩ : ∃ zs, slZ = zs := ⟨_, rfl⟩
  have hzz := zeroSl
  have hzzl : slZ.length = 5 := rfl
  rw [hzS] at hzz hzzl
  obtain ⟨k, hk0⟩ : ∃ k, o.k = k := ⟨_, rfl⟩
  obtain ⟨N, hN0⟩ : ∃ N, o.n = N := ⟨_, rfl⟩
  obtain ⟨X, hX0⟩ : ∃ X, o.m = X := ⟨_, rfl⟩
  have z0 : o.cells[0]? = some (.int .i64 k) := by rw [← hk0]; rfl
  have z1 : o.cells[1]? = some (.int .i64 N) := by rw [← hN0]; rfl
  have z2 : o.cells[2]? = some (.int .i64 X) := by rw [← hX0]; rfl
  have z3 : o.cells[3]? = some (.slice o.ba o.bn o.bc) := rfl
  have hNr := hk.n
  rw [hN0] at hNr
  rw [hk0] at hkk
  obtain ⟨C, hC⟩ : ∃ C, o.cells = C := ⟨_, rfl⟩
  rw [hC] at z0 z1 z2 z3 ⊢
  obtain ⟨W, hW, b0, q0, hs0⟩ := Sb.start w cs sc C zs zS
  have ltE := h.lt
  have h3 : T21 (Fv E w.heap.size) B w0 W g cs sc D D s := h.keepE q0 (fun b hb => hb.imp id (fun hb => by rw [hs0]; omega))
  have S3 := hS.keep q0
  have kp3 : Kp E so w W := fun b hb _ => q0.block b (ltE b hb)
  obtain ⟨G, hG⟩ : ∃ G, w.heap.size = G := ⟨_, rfl⟩
  rw [hG] at b0 h3 ltE hs0 hBw
  have ltso : so < G := ltE so hE.1
  have ltfb : fb < G := ltE fb hE.2
  have hBG : B ≤ G := hBw
  have I0 := hk.b.keep q0
  have hbr := hk.br
  have c0 := (b0.o.cell 0).trans z0
  have WH := Lib.hid hW
  have GH := Lib.hid hG
  have OK := Lib.hid (show D.Ok T ∧ D.By ∧ s.Ok ∧ (s.a = 1 ∧ s.b = 2) ∧ Cur D s from ⟨hO, hD, hok, hab, hcu⟩)
  have TH := Lib.hid hT
  have HG := Lib.hid hG0
  have HB := Lib.hid hB0
  have LT := Lib.hid (show (∀ b, E b → b < G) ∧ so < G ∧ fb < G ∧ B ≤ G from ⟨ltE, ltso, ltfb, hBG⟩)
  have EH := Lib.hid hE
  have NE := Lib.hid (show so ≠ fb ∧ B ≤ so from ⟨hne, hBs⟩)
  have IH := Lib.hid I0
  have BR := Lib.hid (show (∀ z ∈ o.bs, 0 ≤ z ∧ z < 256) ∧ o.bn ≤ 140737488355328 ∧ ∀ x, o.ba = some x → 0 < o.bn → x.block < B from ⟨hbr, hbn, hbl⟩)
  have NR := Lib.hid hNr
  have h3H := Lib.hid h3
  have S3H := Lib.hid S3
  have b0H := Lib.hid b0
  have kp3H := Lib.hid kp3
  have Z1 := Lib.hid z1
  have Z2 := Lib.hid z2
  have Z3 := Lib.hid z3
  clear h hS hE hne hBs hO hT hD hok hab hcu hG0 hB0 hk hbl hbn hW hG q0 hs0 ltE ltso ltfb hBG I0 hbr h3 S3 kp3 z0 z1 z2 z3 hzs hzS hk0 hN0 hX0 hC hBw hNr b0
  go_enter Tryz.func12, Tryz.ntmps12
  go_wp2_with (first
    | ((with_reducible refine box_row rfl 37 (.tmp 2) rfl cs rfl ?_))
    | ((with_reducible refine box_row rfl 46 (.tmp 3) rfl sc rfl ?_))
    | ((with_reducible refine box_row rfl 51 (.tmp 4) rfl C rfl ?_))
    | (with_reducible refine wpList_alloc_blk rfl 37 rfl hz ?_)
    | (with_reducible refine wpList_alloc_blk rfl 46 rfl hzz ?_; refine RowKit.Hid.out ?_))
  refine Lib.hid ?_
  rw [WH.out]
  simp only [GH.out, Nat.add_assoc, Nat.reduceAdd]
  subst hkk
  obtain ⟨D1, he⟩ : ∃ D1, crD D [0, N, X] = D1 := ⟨_, rfl⟩
  have ok1 := crD_ok OK.out.1 [0, N, X]
  have by1 := crD_by OK.out.2.1 [0, N, X]
  have dn1 : D1.down = false := by rw [← he]; rfl
  rw [he] at ok1 by1
  obtain ⟨s1, hs1⟩ : ∃ s1, opS D1 1 2 = s1 := ⟨_, rfl⟩
  have sl1 := opS_ok (D := D1) by1 (a := 1) (b := 2) (by decide) (by decide) (by decide)
  have cu1 := op_cur (D := D1) (a := 1) (b := 2)
  have ab1 := op_ab D1 1 2
  rw [hs1] at sl1 cu1 ab1
  have FN := Lib.hid (show D1.Ok (T + 1) ∧ D1.By ∧ s1.Ok ∧ (s1.a = 1 ∧ s1.b = 2) ∧ Cur D1 s1 from ⟨ok1.more (Nat.le_succ T), by1, sl1, ab1, cu1⟩)
  have OK1 := Lib.hid (show D1.Ok T ∧ D1.down = false ∧ opS D1 1 2 = s1 from ⟨ok1, dn1, hs1⟩)
  have heH := Lib.hid he
  have q3 := below1 W (.cells #[.int .i64 0, .int .i64 N, .int .i64 X] 3)
  have J3 : Ints .i64 (W.alloc (.cells #[.int .i64 0, .int .i64 N, .int .i64 X] 3)) (some ⟨W.heap.size, 0, none⟩) 3 3 [0, N, X] := row_ints W 3 .i64 [0, N, X]
  have h3c : T21 (fun x => Fv E G x ∨ x = W.heap.size) B w0 _ g cs sc D D s := h3H.out.keepE q3 (fun b hb => hb.imp id (fun hb => by rw [hb, size1]; exact ⟨Nat.le_refl _, Nat.lt_succ_self _⟩))
  have cP := u_crash h3c OK.out.1 (by have := TH.out; omega) J3 (fun x hx _ => by injection hx with hx; rw [← hx]; exact .inr rfl) he
  have b3H := Lib.hid (b0H.out.keep q3)
  have kp3' := Lib.hid (kp3H.out.below LT.out.1 (by have := b0H.out.size; omega) q3)
  have c1 := (b0H.out.o.cell 1).trans Z1.out
  have c2 := (b0H.out.o.cell 2).trans Z2.out
  clear ok1 by1 dn1 hs1 sl1 cu1 ab1 he q3 J3 h3c S3H kp3H h3H
  go_wp2_with fail
  refine cP.mono ?_
  rintro q w4 ⟨rfl, h4, k4⟩
  have b4 := b3H.out.same (fun b h1 h2 => k4 b (.inl (.inr ⟨h1, h2⟩)))
  have kp4 := kp3'.out.same (F := fun x => Fv E G x ∨ x = W.heap.size) (fun b hb => .inl (.inl hb)) (fun b hb _ => k4 b hb)
  have h4 : T21 (Fv E G) B w0 w4 g cs sc D1 D s := h4.less (fun b hb => .inl hb)
  have q4 := below1 w4 (.cells #[.int .i64 0, .int .i64 N, .int .i64 X] 3)
  have J4 : Ints .i64 (w4.alloc (.cells #[.int .i64 0, .int .i64 N, .int .i64 X] 3)) (some ⟨w4.heap.size, 0, none⟩) 3 3 [0, N, X] := row_ints w4 3 .i64 [0, N, X]
  have cQ := v_crash (h4.keep q4) OK.out.1 (by have := TH.out; omega) J4 heH.out
  have b4x := b4.x
  have c1 := (b4.o.cell 1).trans Z1.out
  have c2 := (b4.o.cell 2).trans Z2.out
  have b4H := Lib.hid (b4.keep q4)
  have kp4H := Lib.hid (kp4.below LT.out.1 (by have := b4.size; omega) q4)
  clear cP k4 h4 b4 kp4 q4 J4 b3H kp3' b0H c0
  go_wp2_with ((with_reducible refine wpList_load_blk rfl 37 (.tmp 7) rfl ?_ b4x rowDd hl ?_); rfl)
  refine cQ.mono ?_
  rintro q w5 ⟨cs1, rfl, h5, q5⟩
  have l1 := h5.two.ddc.l
  have o1 := h5.two.ddc.o
  have b5 := b4H.out.keep q5
  have kp5 := Lib.hid (kp4H.out.below LT.out.1 (by have := b4H.out.size; omega) q5)
  have b5x := b5.x
  have b5H := Lib.hid b5
  have h5H := Lib.hid h5
  clear cQ q5 h5 b5 b4x c1 c2 b4H kp4H
  go_wp2_with ((refine store_row rfl 37 (.tmp 7) _ rfl rfl rfl b5x rowDd l1 hl o1 ?_); intro w6 b6x g6; refine RowKit.Hid.out ?_)
  refine Lib.hid ?_
  have b6 := b5H.out.setx b6x g6
  have h6 := h5H.out.grown g6 (.inr ⟨Nat.le_refl _, by omega⟩) LT.out.2.2.2
  have kp6 := Lib.hid (kp5.out.grown LT.out.1 (by have := b5H.out.size; omega) g6 (Nat.le_refl _))
  have cO := u_open h6 OK1.out.1 FN.out.2.1 HG.out HB.out OK1.out.2.1 OK1.out.2.2
  have b6H := Lib.hid b6
  clear g6 b5x b5H h5H kp5 b6x h6 b6
  go_wp2_with fail
  refine cO.mono ?_
  rintro q w7 ⟨so1, fb1, rfl, S7, hh, h7, q7⟩
  have b7 := b6H.out.keep q7
  have ge7 := b6H.out.size
  have kp7 := Lib.hid (kp6.out.below LT.out.1 (by omega) q7)
  have ne9 : so1 ≠ fb1 ∧ B ≤ so1 := ⟨hh.1, hh.2.1⟩
  have gs : G + 5 ≤ so1 ∧ G + 5 ≤ fb1 := ⟨Nat.le_trans ge7 hh.2.2.1, Nat.le_trans ge7 hh.2.2.2⟩
  have cV := v_open h7 OK1.out.1 (by have := TH.out; omega) FN.out.2.1 OK1.out.2.1 OK1.out.2.2
  have b7x := b7.x
  have b7H := Lib.hid b7
  have S7H := Lib.hid S7
  clear cO q7 h7 S7 hh b6H kp6 ge7 b7
  go_wp2_with ((with_reducible refine wpList_load_blk rfl 37 (.tmp 7) rfl ?_ b7x rowDd l1 ?_); rfl)
  refine cV.mono ?_
  rintro q w8 ⟨sc1, rfl, h8, q8⟩
  obtain ⟨ls1, os1⟩ := h8.len
  have b8 := b7H.out.keep q8
  have S8 := S7H.out.keep q8
  have kp8 := kp7.out.below LT.out.1 (by have := b7H.out.size; omega) q8
  have gM := b8.size
  have gs8 : so1 < w8.heap.size ∧ fb1 < w8.heap.size := ⟨S8.s.lt, S8.f.lt⟩
  have n8 := Blk.new w8 46 zS
  have q9 := below1 w8 (.cells zS.toArray 46)
  have b9 := Lib.hid (b8.keep q9)
  have S9 := Lib.hid (S8.keep q9)
  have kp9 := Lib.hid (kp8.below LT.out.1 (by omega) q9)
  have h9 : T21 (fun x => (Fv E G x ∨ x = so1 ∨ x = fb1) ∨ x = w8.heap.size) B w0 _ g cs1 sc1 D1 D1 s1 := h8.keepE q9 (fun b hb => hb.imp id (fun hb => by rw [hb, size1]; exact ⟨Nat.le_refl _, Nat.lt_succ_self _⟩))
  have s9 := size1 w8 (.cells zS.toArray 46)
  obtain ⟨V, hV⟩ : ∃ V, w8.alloc (.cells zS.toArray 46) = V := ⟨_, rfl⟩
  rw [hV] at n8 b9 S9 kp9 h9 s9
  have VH := Lib.hid hV
  obtain ⟨M, hM⟩ : ∃ M, w8.heap.size = M := ⟨_, rfl⟩
  rw [hM] at n8 h9 gM gs8 s9
  have MH := Lib.hid hM
  have h9H := Lib.hid h9
  clear cV q8 h8 b8 S8 kp8 b7x b7H S7H kp7 q9 hV hM h9
  go_wp2_with (with_reducible refine wpList_alloc_blk rfl 46 rfl hzz ?_; refine RowKit.Hid.out ?_)
  refine Lib.hid ?_
  rw [VH.out]
  simp only [MH.out]
  go_wp2_with ((refine store_row rfl 46 (.tmp 23) _ rfl rfl rfl n8 rowSl ls1 hzzl os1 ?_); intro wA sB gA; refine RowKit.Hid.out ?_)
  refine Lib.hid ?_
  have b9 := b9.out.far gA (by omega)
  have S9 := S9.out.far gA (by omega) (by omega)
  have kp9 := kp9.out.grown LT.out.1 (by omega) gA (by omega)
  have h9 := h9H.out.grown gA (.inr rfl) (by have := LT.out.2.2.2; omega)
  have dB := b9.x
  obtain ⟨M2, rfl⟩ : ∃ m, m = M := ⟨_, rfl⟩
  obtain ⟨w9, rfl⟩ : ∃ m, m = wA := ⟨_, rfl⟩
  have fin := FN.out
  have in3 : (fun x => (Fv E G x ∨ x = so1 ∨ x = fb1) ∨ x = M2) (G + 3) := .inl (.inl (.inr ⟨by omega, by omega⟩))
  have in4 : (fun x => (Fv E G x ∨ x = so1 ∨ x = fb1) ∨ x = M2) (G + 4) := .inl (.inl (.inr ⟨by omega, by omega⟩))
  have lsE : ∀ b, (E b ∨ b = so1 ∨ b = fb1) → (fun x => (Fv E G x ∨ x = so1 ∨ x = fb1) ∨ x = M2) b := fun b hb => .inl (hb.imp .inl id)
  have far : (G ≠ G + 3 ∧ G ≠ G + 4) ∧ (M2 ≠ G + 3 ∧ M2 ≠ G + 4) ∧ (so1 ≠ G + 3 ∧ so1 ≠ G + 4) ∧ (fb1 ≠ G + 3 ∧ fb1 ≠ G + 4) := by omega
  obtain ⟨f1, f2, ⟨f3, f4⟩, ⟨f5, f6⟩⟩ := far
  have far := And.intro f1 (And.intro f2 trivial)
  clear n8 gA h9H l1 o1 ls1 os1 s9 VH MH FN OK1 gs8

  have l1 := h9.two.ddc.l
  have o1 := h9.two.ddc.o
  have row1 : IsRow Tryz.prog 37 cs1.length := by rw [l1]; exact rowDd
  obtain ⟨ls1, os1⟩ := h9.len
  have rowS1 : IsRow Tryz.prog 46 sc1.length := by rw [ls1]; exact rowSl
  have dr : Below w9.heap.size w9 w9.drew := (Below.refl _ _).drew
  have bd := b9.keep dr
  have hd := h9.keep dr
  have Sd := S9.keep dr
  have dd := dB.keep dr dB.lt
  have sd := sB.keep dr sB.lt
  have kpd := kp9.below LT.out.1 (by have := b9.size; omega) dr
  obtain ⟨V9, hV9⟩ : ∃ V, w9.drew = V := ⟨_, rfl⟩
  rw [hV9] at bd hd Sd dd sd kpd
  have V9H := Lib.hid hV9
  have hdH := Lib.hid hd
  have SdH := Lib.hid Sd
  have kpdH := Lib.hid kpd
  clear b9 h9 S9 dB sB kp9 dr hV9 hd Sd kpd
  go_wp2_with fail
  refine region_seqS (fun w' => Blk w' G 37 cs1 ∧ Blk w' M2 46 sc1) (by kernel_rfl) (by rw [V9H.out]; exact ⟨dd, sd⟩) ?_
  have iv := And.intro dd sd
  simp only [pairs, Nat.reduceAdd]
  rw [V9H.out]
  repeat ((first
    | (refine SeqS.y0 (v := .agg (cs1).toArray) (yields_blk (by rfl) 37 (.tmp 7) rfl rfl (fun w' h => h.1) (row1)) ?_)
    | (refine SeqS.y0 (v := .agg (sc1).toArray) (yields_blk (by rfl) 46 (.tmp 23) rfl rfl (fun w' h => h.2) (rowS1)) ?_)
    | (refine SeqS.k0 (v := ?_) ?_ ?_; rotate_left; focus (intro w' hb'; go_simp; with_reducible rfl))
    | (refine SeqS.u0 ?_)); simp only [Act.put, List.setIfInBounds_toArray, List.set_cons_zero, List.set_cons_succ])
  refine SeqS.alone (by decide +kernel) (by rfl) (fun K1 hK => ?_)
  refine wp_store_part 37 (.tmp 11) _ rfl rfl rfl bd.y row1 (by rw [l1, hzl]; decide) o1 (fun wa ba ga => ?_)
  rw [overV_all _ _ (by rw [l1, hzl])] at ba
  have ya := bd.sety ba ga
  have da := dd.grown ga (fun e => by injection e with e; exact far.1.1 e)
  have sa := sd.grown ga (fun e => by injection e with e; exact far.2.1.1 e)
  have ha := hdH.out.grown ga in3 (by have := LT.out.2.2.2; omega)
  have Sa := SdH.out.far ga (by omega) (by omega)
  have kpa := kpdH.out.grown LT.out.1 (by have := bd.size; omega) ga (by omega)
  refine hK _ _ ⟨da, sa⟩ ?_
  have haH := Lib.hid ha
  have SaH := Lib.hid Sa
  have kpaH := Lib.hid kpa
  clear hK K1 iv bd dd sd hdH SdH kpdH ha Sa kpa ba ga
  have iv := And.intro da sa
  repeat ((first
    | (refine SeqS.y0 (v := .agg (sc1).toArray) (yields_blk (by rfl) 46 (.tmp 23) rfl rfl (fun w' h => h.2) (rowS1)) ?_)
    | (refine SeqS.k0 (v := ?_) ?_ ?_; rotate_left; focus (intro w' hb'; go_simp; with_reducible rfl))
    | (refine SeqS.u0 ?_)); simp only [Act.put, List.setIfInBounds_toArray, List.set_cons_zero, List.set_cons_succ])
  refine SeqS.alone (by decide +kernel) (by rfl) (fun K2 hK => ?_)
  refine wp_store_part 46 (.tmp 12) _ rfl rfl rfl ya.z rowS1 (by rw [ls1, hzzl]; decide) os1 (fun wb bb gb => ?_)
  rw [overV_all _ _ (by rw [ls1, hzzl])] at bb
  have yb := ya.setz bb gb
  have db := da.grown gb (fun e => by injection e with e; exact far.1.2 e)
  have sb := sa.grown gb (fun e => by injection e with e; exact far.2.1.2 e)
  have hb := (haH.out.grown gb in4 (by have := LT.out.2.2.2; omega)).less lsE
  have Sb' := SaH.out.far gb (by omega) (by omega)
  have kpb := kpaH.out.grown LT.out.1 (by have := ya.size; omega) gb (by omega)
  refine hK _ _ ⟨db, sb⟩ ?_
  clear hK K2 iv ya da sa haH SaH kpaH bb gb
  have iv := And.intro db sb
  repeat ((first
    | (refine SeqS.k0 (v := ?_) ?_ ?_; rotate_left; focus (intro w' hb'; go_simp; with_reducible rfl))
    | (refine SeqS.u0 ?_)); simp only [Act.put, List.setIfInBounds_toArray, List.set_cons_zero, List.set_cons_succ])
  refine SeqS.done (by decide +kernel) ?_
  have yy := yb.y
  have zz := yb.z
  clear iv db sb yb
  go_wp2
  refine bodyPost_ret (results_tbbt21 rfl rfl yy row1 rfl zz rowS1) rfl ?_
  exact ⟨so1, fb1, cs1, sc1, D1, s1, rfl, fin, hb, Sb', ne9, kpb⟩
end Go.Proofs.YtcohbhimhacedaaGreatDoor

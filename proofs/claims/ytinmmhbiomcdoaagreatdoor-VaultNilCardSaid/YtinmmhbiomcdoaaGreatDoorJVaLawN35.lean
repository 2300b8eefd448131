/-
  Texts of stages that were proved on their own, joined: VaHost, VaMem, VaPut, VaPuts, VaTell, VaFollow. Each begins with its own words.
-/
import Derived.Test.YtinmmhbiomcdoaaGreatDoorJVaLawN29
import Derived.Test.YtinmmhbiomcdoaaGreatDoorJVaLawN32
import Derived.Test.YtinmmhbiomcdoaaGreatDoorJVaLawN34
import Derived.Test.YtinmmhbiomcdoaaGreatDoorJVaLawN16
import Derived.Test.YtinmmhbiomcdoaaGreatDoorJVaLawN20
import Derived.Test.YtinmmhbiomcdoaaGreatDoorJVaLawN2
import Derived.Test.YtinmmhbiomcdoaaGreatDoorAppends
import Derived.Test.YtinmmhbiomcdoaaGreatDoorJVaLawN19

/-
  A landed disk at g, wherever it stands (alone, or beside another one): what a law's calls of it, of a roll and of slots leave. New memory is written, the disk's own and the slots'. Conditions: a disk that New made; fewer than 2^42 steps; the files hold bytes.
-/
namespace Go.Proofs.YtinmmhbiomcdoaaGreatDoor
open Go.RowKit

/-- What is true of blocks that are nobody's (E), of the world, and of the landed disk at g. -/
structure Host (Hs : (Nat → Prop) → World → DkV → Prop) (B : Nat) (w0 : World) (g : Nat) : Prop where
  low : ∀ {E w D}, Hs E w D → Below B w0 w ∧ B ≤ w.heap.size ∧ ∀ b, E b → b < w.heap.size
  is : ∀ {E w D}, Hs E w D → ∃ L P, DkIs L P w g D ∧ (∀ b, L b ≠ 0 → B ≤ b) ∧ (∀ b, E b → L b = 0 ∧ ¬ P b) ∧ ∀ E' L' P' w' D', DkIs L' P' w' g D' → Went L P w L' P' w' → (∀ b, E' b → E b ∨ (w.heap.size ≤ b ∧ b < w'.heap.size ∧ L' b = 0 ∧ ¬ P' b)) → Hs E' w' D' ∧ SameE E w w'
  keepE : ∀ {E E' w w' D}, Hs E w D → Below w.heap.size w w' → (∀ b, E' b → E b ∨ (w.heap.size ≤ b ∧ b < w'.heap.size)) → Hs E' w' D
  movedE : ∀ {E E' w w' D F}, Hs E w D → Moved F w w' → (∀ b, F b → E b ∧ B ≤ b) → (∀ b, E' b → E b ∨ (w.heap.size ≤ b ∧ b < w'.heap.size)) → Hs E' w' D
theorem ry_moved22 {E E' : Nat → Prop} {B : Nat} {w0 w w' : World} {g : Nat} {D : DkV} {F : Nat → Prop} (h : RyOwn E B w0 w g D) (hm : Moved F w w') (hG : ∀ b, F b → E b ∧ B ≤ b) (hE : ∀ b, E' b → E b ∨ (w.heap.size ≤ b ∧ b < w'.heap.size)) : RyOwn E' B w0 w' g D := by
  obtain ⟨L, P, h1, h2, h3⟩ := h.is
  obtain ⟨l1, l2⟩ := dk_lt h1
  have hs := hm.size
  obtain ⟨x0, x1, x2, h1⟩ := h1
  refine ⟨⟨L, P, ⟨x0, x1, x2, h1.far hm (fun b hb e => ?_)⟩, h2, fun b he => ?_⟩, h.b.trans (hm.below (fun b hb => (hG b hb).2) h.s), Nat.le_trans h.s hs⟩
  · have hGb := h3 b (hG b e).1
    exact hb.elim (fun h => h hGb.2.1) hGb.2.2
  · rcases hE b he with he | he
    · exact ⟨Nat.lt_of_lt_of_le (h3 b he).1 hs, (h3 b he).2⟩
    · refine ⟨he.2, ?_, fun hp => absurd (l2 b hp) (Nat.not_lt.2 he.1)⟩
      by_cases h0 : L b = 0
      · exact h0
      · exact absurd (l1 b h0) (Nat.not_lt.2 he.1)
theorem ry_host (B : Nat) (w0 : World) (g : Nat) : Host (fun E w D => RyOwn E B w0 w g D) B w0 g where
  low := fun h => ⟨h.b, h.s, h.lt⟩
  is := fun h => by
    obtain ⟨L, P, h1, h2, h3⟩ := h.is
    refine ⟨L, P, h1, h2, fun b hb => (h3 b hb).2, fun E' L' P' w' D' hk hv hE => ?_⟩
    obtain ⟨j1, j2⟩ := ry_prog h.b h.s h2 h3 hk hv
    refine ⟨⟨⟨L', P', hk, hv.low h2 h.s, fun b hb => ?_⟩, j1.b, j1.s⟩, j2⟩
    rcases hE b hb with hb | hb
    · exact ⟨Nat.lt_of_lt_of_le (h3 b hb).1 hv.m.size, (hv.l b (h3 b hb).1).trans (h3 b hb).2.1, fun hp => (hv.q b hp).elim (h3 b hb).2.2 (fun h => absurd (h3 b hb).1 (Nat.not_lt.2 h))⟩
    · exact hb.2
  keepE := fun h hb hE => h.keepE hb hE
  movedE := fun h hm hG hE => ry_moved22 h hm hG hE
section
variable {Hs : (Nat → Prop) → World → DkV → Prop} {E E' : Nat → Prop} {B : Nat} {w0 w w' : World} {g : Nat} {D D' : DkV} {T : Nat} {e : Int} {s s' : SlV} {so fb ro : Nat} {o : Addr}
theorem Host.keep (H : Host Hs B w0 g) (h : Hs E w D) (hb : Below w.heap.size w w') : Hs E w' D := H.keepE h hb (fun _ h => .inl h)
theorem Host.less (H : Host Hs B w0 g) (h : Hs E w D) (hE : ∀ b, E' b → E b) : Hs E' w D := H.keepE h (Below.refl _ _) (fun b hb => .inl (hE b hb))
theorem Host.same (H : Host Hs B w0 g) (h : Hs E w D) (hb : Below w.heap.size w w') : SameE E w w' := fun b he => hb.block b ((H.low h).2.2 b he)
theorem Host.gl (H : Host Hs B w0 g) (h : Hs E w D) (hG : Glob22 o w0) (hB : w0.heap.size ≤ B) : Glob22 o w := hG.keep (H.low h).1 hB

/-! ### Slots -/
theorem h_slopen (H : Host Hs B w0 g) (h : Hs E w D) (hO : D.Ok T) (hD : D.By) (hG : Glob11 w0) (hB : w0.heap.size ≤ B) (hd : D.down = false) (he : opS D 1 2 = s) :
    Calls Tryz.prog 68 #[.pointer (some ⟨g, 0, none⟩), .int .i64 1, .int .i64 2] w fun q w' => ∃ so fb, q = .returned (.tuple #[.pointer (some ⟨so, 0, none⟩), .int .i64 0]) ∧ SlotAt w' so g fb 1 2 s.now ∧ (so ≠ fb ∧ B ≤ so ∧ w.heap.size ≤ so ∧ w.heap.size ≤ fb) ∧ Hs (fun x => E x ∨ x = so ∨ x = fb) w' D ∧ Below w.heap.size w w' := by
  obtain ⟨L, P, h1, h2, h3, h4⟩ := H.is h
  have hl := H.low h
  have hc := slOpen_any h1 hO hD (a := 1) (b := 2) (by decide) (by decide) (by decide) (hG.keep hl.1 hB) hd (z := s.now) (by rw [he])
  refine hc.mono ?_
  rintro q w' ⟨so, fb, eq, hs, l1, l2, hne, hb⟩
  refine ⟨so, fb, eq, hs, ⟨hne, Nat.le_trans hl.2.1 l1, l1, l2⟩, H.keepE h hb (fun x hx => ?_), hb⟩
  rcases hx with hx | hx | hx
  · exact .inl hx
  · subst hx; exact .inr ⟨l1, hs.s.lt⟩
  · subst hx; exact .inr ⟨l2, hs.f.lt⟩

theorem h_slget (H : Host Hs B w0 g) (h : Hs E w D) (hs : SlotAt w so g fb s.a s.b s.now) (hO : D.Ok T) (hD : D.By) (hok : s.Ok) (hc : Cur D s) (hG : Glob11 w0) (hB : w0.heap.size ≤ B) {x : List Int} (hx : s.body = x) {n : Nat} (hn : x.length = n) {m : Bool} (hm : decide (0 < s.turn) = m) :
    Calls Tryz.prog 65 #[.pointer (some ⟨so, 0, none⟩)] w fun q w' => ∃ a c, q = .returned (.tuple #[.slice a n c, .bool m]) ∧ w'.ownsRow w.heap.size 5 1 (.slice a n c) n (x.map (Value.int .u8)) ∧ Below w.heap.size w w' := by
  obtain ⟨L, P, h1, h2, h3, h4⟩ := H.is h
  subst hx
  refine (slGet_any hs h1 hO hD hok.now3 (hG.keep (H.low h).1 hB) (has_cur hok hc) hm).mono ?_
  rintro q w' ⟨a, k, c, eq, ho, hl, hb⟩
  have : k = n := by rw [← hl]; exact hn
  subst this
  exact ⟨a, c, eq, ho, hb⟩

theorem h_slput {p : Option Addr} {n c : Nat} {xs : List Int} (H : Host Hs B w0 g) (h : Hs E w D) (hs : SlotAt w so g fb s.a s.b s.now) (hE : E so ∧ E fb) (hne : so ≠ fb) (hBs : B ≤ so) (hO : D.Ok T) (hT : T < 4398046511102) (hD : D.By) (hok : s.Ok) (hc : Cur D s) (hG : Glob11 w0) (hB : w0.heap.size ≤ B) (hI : Ints .u8 w p n c xs) (hp : ∀ x, p = some x → 0 < n → x.block < B ∨ E x.block) (hb : ∀ x ∈ xs, isByte x) (he : ptS D s xs = (D', s', e)) :
    Calls Tryz.prog 45 #[.pointer (some ⟨so, 0, none⟩), .slice p n c] w fun q w' => q = .returned (.int .i64 e) ∧ Hs E w' D' ∧ SlotAt w' so g fb s'.a s'.b s'.now ∧ w.heap.size ≤ w'.heap.size ∧ ∀ b, E b → b ≠ so → w'.heap[b]? = w.heap[b]? := by
  obtain ⟨L, P, h1, h2, h3, h4⟩ := H.is h
  have hlo := H.low h
  have low : ∀ b, b < B → L b = 0 := fun b hb => by
    by_cases h0 : L b = 0
    · exact h0
    · exact absurd (h2 b h0) (Nat.not_le.2 hb)
  have hgl : L 3 = 0 := low _ (Nat.lt_of_lt_of_le hG.lt hB)
  have hq := slPut_any hs (h3 so hE.1).1 (h3 fb hE.2).1 hne h1 hO hT hD hok hc (hG.keep hlo.1 hB) hgl hI (fun x hx h0 => (hp x hx h0).elim (low _) (fun k => (h3 _ k).1)) hb
  have hab := pt_ab D s xs
  rw [he] at hq hab
  rw [hab.1, hab.2]
  refine hq.mono ?_
  rintro q w' ⟨eq, ⟨w1, L', P', k1, k2, k3⟩, k4⟩
  obtain ⟨j1, j2⟩ := h4 E L' P' w1 D' k1 k2 (fun _ h => .inl h)
  rcases k3 with rfl | k3
  · exact ⟨eq, j1, k4, k2.m.size, fun b hb _ => j2 b hb⟩
  · refine ⟨eq, H.movedE j1 (moved_set (F := fun b => b = so) rfl k3) (fun b hb => by subst hb; exact ⟨hE.1, hBs⟩) (fun _ h => .inl h), k4, Nat.le_trans k2.m.size k3.size, fun b hb hn => ?_⟩
    exact (k3.block b ((H.low j1).2.2 b hb) (fun e => by injection e with e; exact hn e)).trans (j2 b hb)

/-! ### The roll of file 0 -/
theorem h_yopen (H : Host Hs B w0 g) (h : Hs E w D) (hO : D.Ok T) (hT : T < 4398046511103) (hD : D.By) (hG : Glob11 w0) (hB : w0.heap.size ≤ B) (hd : D.down = false) (he : mdD D 0 = (D', 0)) :
    Calls Tryz.prog 69 #[.pointer (some ⟨g, 0, none⟩), .int .i64 0] w fun q w' => ∃ ro, q = .returned (.tuple #[.pointer (some ⟨ro, 0, none⟩), .int .i64 0]) ∧ RollAt w' ro g 0 ∧ w.heap.size ≤ ro ∧ Hs (fun b => E b ∨ b = ro) w' D' ∧ SameE E w w' ∧ w.heap.size ≤ w'.heap.size := by
  obtain ⟨L, P, h1, h2, h3, h4⟩ := H.is h
  have hc := yOpen_any h1 hO hT hD (z := 0) (by decide) (hG.keep (H.low h).1 hB) hd
  rw [he] at hc
  refine hc.mono ?_
  rintro q w' ⟨p, eq, L', P', k1, k2, _, k4⟩
  obtain ⟨ro, rfl, hr, hl, m1, m2⟩ := k4 rfl
  obtain ⟨j1, j2⟩ := h4 (fun b => E b ∨ b = ro) L' P' w' D' k1 k2 (fun b hb => hb.imp id (fun hb => by subst hb; exact ⟨hl, hr.lt, m1, m2⟩))
  exact ⟨ro, eq, hr, hl, j1, j2, k2.m.size⟩

theorem h_yopen_err (H : Host Hs B w0 g) (h : Hs E w D) (hO : D.Ok T) (hT : T < 4398046511103) (hD : D.By) (hG : Glob11 w0) (hB : w0.heap.size ≤ B) (hd : D.down = false) (he : mdD D 0 = (D', e)) (hne : e ≠ 0) :
    Calls Tryz.prog 69 #[.pointer (some ⟨g, 0, none⟩), .int .i64 0] w fun q w' => q = .returned (.tuple #[.pointer none, .int .i64 e]) ∧ Hs E w' D' ∧ SameE E w w' ∧ w.heap.size ≤ w'.heap.size := by
  obtain ⟨L, P, h1, h2, h3, h4⟩ := H.is h
  have hc := yOpen_any h1 hO hT hD (z := 0) (by decide) (hG.keep (H.low h).1 hB) hd
  rw [he] at hc
  refine hc.mono ?_
  rintro q w' ⟨p, eq, L', P', k1, k2, k3, _⟩
  have := k3 hne
  subst this
  obtain ⟨j1, j2⟩ := h4 E L' P' w' D' k1 k2 (fun _ h => .inl h)
  exact ⟨eq, j1, j2, k2.m.size⟩

theorem h_append {a : Option Addr} {n c : Nat} {bs : List Int} (H : Host Hs B w0 g) (h : Hs E w D) (hr : RollAt w ro g 0) (hro : E ro) (hO : D.Ok T) (hT : T < 4398046511103) (hG : Glob11 w0) (hB : w0.heap.size ≤ B) (hI : Ints .u8 w a n c bs) (hb : ∀ x ∈ bs, isByte x) (hn : n ≤ 140737488355328) (he : prD D 0 bs = (D', e)) :
    Calls Tryz.prog 40 #[.pointer (some ⟨ro, 0, none⟩), .slice a n c] w fun q w' => q = .returned (.int .i64 e) ∧ Hs E w' D' ∧ SameE E w w' ∧ w.heap.size ≤ w'.heap.size := by
  obtain ⟨L, P, h1, h2, h3, h4⟩ := H.is h
  have hc := yAppend_any hr (h3 ro hro).1 h1 hO hT (hG.keep (H.low h).1 hB) hI hb hn
  rw [he] at hc
  exact hc.mono fun q w' ⟨eq, L', P', k1, k2⟩ => ⟨eq, (h4 E L' P' w' D' k1 k2 (fun _ h => .inl h)).1, (h4 E L' P' w' D' k1 k2 (fun _ h => .inl h)).2, k2.m.size⟩

theorem h_clear (H : Host Hs B w0 g) (h : Hs E w D) (hr : RollAt w ro g 0) (hro : E ro) (hO : D.Ok T) (hT : T < 4398046511103) (he : keD D 0 0 = (D', e)) :
    Calls Tryz.prog 46 #[.pointer (some ⟨ro, 0, none⟩)] w fun q w' => q = .returned (.int .i64 e) ∧ Hs E w' D' ∧ SameE E w w' ∧ w.heap.size ≤ w'.heap.size := by
  obtain ⟨L, P, h1, h2, h3, h4⟩ := H.is h
  have hc := yClear_any hr (h3 ro hro).1 h1 hO hT
  rw [he] at hc
  exact hc.mono fun q w' ⟨eq, L', P', k1, k2⟩ => ⟨eq, (h4 E L' P' w' D' k1 k2 (fun _ h => .inl h)).1, (h4 E L' P' w' D' k1 k2 (fun _ h => .inl h)).2, k2.m.size⟩

theorem h_bodies (H : Host Hs B w0 g) (h : Hs E w D) (hr : RollAt w ro g 0) (hO : D.Ok T) (hD : D.By) (hG : Glob11 w0) (hB : w0.heap.size ≤ B) {ps : List (List Int)} (hp : allF (heldR D 0) = ps) :
    Calls Tryz.prog 71 #[.pointer (some ⟨ro, 0, none⟩)] w fun q w' => ∃ v, q = .returned v ∧ RowsO w' w.heap.size 0 v ps ∧ Below w.heap.size w w' := by
  obtain ⟨L, P, h1, h2, h3, h4⟩ := H.is h
  exact yBodies_any hr h1 hO hD (by decide) (hG.keep (H.low h).1 hB) hp

theorem h_ysize (H : Host Hs B w0 g) (h : Hs E w D) (hr : RollAt w ro g 0) (hO : D.Ok T) {n : Nat} (hn : (heldR D 0).length = n) :
    Calls Tryz.prog 67 #[.pointer (some ⟨ro, 0, none⟩)] w fun q w' => q = .returned (.int .i64 (n : Int)) ∧ Below w.heap.size w w' := by
  obtain ⟨L, P, h1, h2, h3, h4⟩ := H.is h
  exact ySize_any hr h1 hO (by decide) hn
end
end Go.Proofs.YtinmmhbiomcdoaaGreatDoor

/-
  Package vault's memory, and parted, numbered, unmade, Next and Size of a vault that Open made. New memory alone is written. Conditions: at most 100000 bytes; the library's table of powers of ten as its text lays it.
-/
namespace Go.Proofs.YtinmmhbiomcdoaaGreatDoor
open Go.RowKit

/-- The error of bytes that are none's. -/
def fault1 (s : ByteArray) (k : Int) : Value := .iface 132 (.agg #[.string s, .iface 26 (.int .i64 k)])
def vaC (ro so : Nat) (rv : Value) (l : Int) : List Value := [.pointer (some ⟨ro, 0, none⟩), .pointer (some ⟨so, 0, none⟩), rv, .int .u64 l]
/-- A record: on blocks of V, all of bytes. -/
def ElemV (V : Nat → Prop) (w : World) (a : Option Addr) (n c : Nat) (p : List Int) : Prop := Ints .u8 w a n c p ∧ ∀ x, a = some x → 0 < n → V x.block ∧ ∃ cur, w.heap[x.block]? = some (.cells cur 5 (0, 0))
theorem ElemV.same {V V' : Nat → Prop} {w w' : World} {a : Option Addr} {n c : Nat} {p : List Int} (h : ElemV V w a n c p) (hk : ∀ b, V b → (∃ cur, w.heap[b]? = some (.cells cur 5 (0, 0))) → w'.heap[b]? = w.heap[b]?) (hV : ∀ b, V b → V' b) : ElemV V' w' a n c p := by
  obtain ⟨hI, hx⟩ := h
  refine ⟨⟨hI.1, hI.2.1, ?_⟩, fun x h1 h2 => ?_⟩
  · rcases hI.2.2 with h0 | ⟨b, off, ha, hc⟩
    · exact .inl h0
    · by_cases hn : n = 0
      · exact .inl hn
      refine .inr ⟨b, off, ha, fun i hi => ?_⟩
      obtain ⟨h1, h2⟩ := hx _ ha (Nat.pos_of_ne_zero hn)
      rw [← hc i hi]
      simp only [World.cell?, hk b h1 h2]
  · obtain ⟨h3, h4⟩ := hx x h1 h2
    exact ⟨hV _ h3, by rw [hk _ h3 h4]; exact h4⟩
theorem ElemV.of_owns {V : Nat → Prop} {w : World} {B : Nat} {a : Option Addr} {n c : Nat} {p : List Int} (h : w.ownsRow B 5 1 (.slice a n c) n (p.map (Value.int .u8))) (hV : ∀ b, B ≤ b → b < w.heap.size → V b) : ElemV V w a n c p := by
  refine ⟨own_ints' h, fun x hx h0 => ?_⟩
  have hlt := (own_ints' h).isIn.2 x hx h0
  rcases h.2 with ⟨hv, _⟩ | ⟨g, cap, cur, hv, hB, hg, _⟩
  · injection hv with e1 e2 _
    omega
  · injection hv with e1 _ _
    rw [hx] at e1
    injection e1 with e1
    exact ⟨hV _ (by rw [e1]; exact hB) hlt, cur, by rw [e1]; exact hg⟩
/-- Records: a row of the call's own, on blocks of V. -/
def RowV (V : Nat → Prop) (B : Nat) (w : World) (rv : Value) (ps : List (List Int)) : Prop :=
  ∃ SL : List Value, w.ownsRow B 34 1 rv ps.length SL ∧ (∀ b, rv.ownBlock = some b → V b) ∧ ∀ i, i < ps.length → ∃ a n c, SL[i]? = some (.slice a n c) ∧ ElemV V w a n c (ps.getD i [])
theorem RowV.nil (V : Nat → Prop) (B : Nat) (w : World) : RowV V B w (.slice none 0 0) [] := ⟨[], World.ownsRow_nil _ _ _ _, fun _ h => (by cases h), fun i hi => (by cases hi)⟩
theorem RowV.same {V V' : Nat → Prop} {B : Nat} {w w' : World} {rv : Value} {ps : List (List Int)} (h : RowV V B w rv ps) (hk : ∀ b, V b → b < w.heap.size → w'.heap[b]? = w.heap[b]?) (hV : ∀ b, V b → V' b) : RowV V' B w' rv ps := by
  obtain ⟨SL, ho, hr, hx⟩ := h
  refine ⟨SL, own_same ho (fun b hb => hk b (hr b hb) (ho.lt b hb).2), fun b hb => hV b (hr b hb), fun i hi => ?_⟩
  obtain ⟨a, n, c, h1, h2⟩ := hx i hi
  exact ⟨a, n, c, h1, h2.same (fun b hb ⟨cur, hc⟩ => hk b hb (by
    rcases Nat.lt_or_ge b w.heap.size with h | h
    · exact h
    · rw [Array.getElem?_eq_none h] at hc; cases hc)) hV⟩
theorem RowV.parts {V : Nat → Prop} {B : Nat} {w : World} {v : Value} {ps : List (List Int)} (h : RowV V B w v ps) : ∃ a c, v = .slice a ps.length c ∧ Parts w a ps.length c ps := by
  obtain ⟨SL, ho, _, hx⟩ := h
  rcases ho.2 with ⟨hv, h0⟩ | ⟨g, cap, cur, hv, hB, hg, hc, _, _, ht⟩
  · refine ⟨none, 0, by rw [hv, h0], rfl, by omega, .inl h0⟩
  · refine ⟨some ⟨g, 0, none⟩, cap, hv, rfl, hc, .inr ⟨g, 0, rfl, fun i hi => ?_⟩⟩
    obtain ⟨a, n, c, h1, h2⟩ := hx i hi
    refine ⟨a, n, c, ?_, h2.1⟩
    rw [Nat.zero_add, cell_of_row w g i cur 34 (0, 0) hg, ← Array.getElem?_toList]
    rw [Nat.mul_one] at ht
    rw [← List.getElem?_take_of_lt hi, ht]
    exact h1
/-- A vault that Open made, on blocks of V. -/
structure VaIn (V : Nat → Prop) (B : Nat) (w : World) (vo ro so fb g : Nat) (rv : Value) (v : VtV) : Prop where
  o : Blk w vo 80 (vaC ro so rv v.last)
  r : RollAt w ro g 0
  s : SlotAt w so g fb 1 2 v.s.now
  p : RowV V B w rv v.after
  vo : V vo ∧ B ≤ vo
  vr : V ro
  vs : V so ∧ V fb ∧ so ≠ fb ∧ B ≤ so
def VaAt (V : Nat → Prop) (B : Nat) (w : World) (vo g : Nat) (v : VtV) : Prop := ∃ ro so fb rv, VaIn V B w vo ro so fb g rv v
section
variable {V V' : Nat → Prop} {B : Nat} {w w' : World} {vo ro so fb g : Nat} {rv : Value} {v : VtV}
theorem VaIn.same (h : VaIn V B w vo ro so fb g rv v) (hk : ∀ b, V b → b < w.heap.size → w'.heap[b]? = w.heap[b]?) (hV : ∀ b, V b → V' b) : VaIn V' B w' vo ro so fb g rv v :=
  ⟨(hk vo h.vo.1 h.o.lt).trans h.o, (hk ro h.vr h.r.lt).trans h.r, h.s.same (hk so h.vs.1 h.s.s.lt) (hk fb h.vs.2.1 h.s.f.lt), h.p.same hk hV, ⟨hV _ h.vo.1, h.vo.2⟩, hV _ h.vr, hV _ h.vs.1, hV _ h.vs.2.1, h.vs.2.2⟩
theorem VaIn.keep (h : VaIn V B w vo ro so fb g rv v) (hb : Below w.heap.size w w') : VaIn V B w' vo ro so fb g rv v := h.same (fun b _ hl => hb.block b hl) (fun _ h => h)
theorem VaIn.c0 (h : VaIn V B w vo ro so fb g rv v) : w.cell? ⟨vo, 0, none⟩ = some (.pointer (some ⟨ro, 0, none⟩)) := h.o.cell 0
theorem VaIn.c1 (h : VaIn V B w vo ro so fb g rv v) : w.cell? ⟨vo, 1, none⟩ = some (.pointer (some ⟨so, 0, none⟩)) := h.o.cell 1
theorem VaIn.c2 (h : VaIn V B w vo ro so fb g rv v) : w.cell? ⟨vo, 2, none⟩ = some rv := h.o.cell 2
theorem VaIn.c3 (h : VaIn V B w vo ro so fb g rv v) : w.cell? ⟨vo, 3, none⟩ = some (.int .u64 v.last) := h.o.cell 3
theorem VaAt.same (h : VaAt V B w vo g v) (hk : ∀ b, V b → b < w.heap.size → w'.heap[b]? = w.heap[b]?) (hV : ∀ b, V b → V' b) : VaAt V' B w' vo g v := by
  obtain ⟨ro, so, fb, rv, h⟩ := h
  exact ⟨ro, so, fb, rv, h.same hk hV⟩
theorem VaAt.keep (h : VaAt V B w vo g v) (hb : Below w.heap.size w w') : VaAt V B w' vo g v := h.same (fun b _ hl => hb.block b hl) (fun _ h => h)
end

theorem num100000 {n : Nat} (h : n ≤ 100000) : ∃ R : Int, (8 + (n : Int)) = R ∧ IntKind.i64.wrap R = R ∧ wrap64 R = R ∧ R = 8 + n := by
  refine ⟨8 + n, rfl, ?_, by unfold wrap64; omega, rfl⟩
  have h1 : (8 + (n : Int)) % 18446744073709551616 = 8 + n := by omega
  simp [IntKind.wrap, IntKind.signed, IntKind.bits, h1]
  omega

set_option maxRecDepth 100000 in
set_option maxHeartbeats 4000000 in
theorem vaNumbered_any (N : Int) (p : Option Addr) (n c : Nat) (xs : List Int) (w : World) (hN : 0 ≤ N ∧ N < 18446744073709551616) (hI : Ints .u8 w p n c xs) (hn : n ≤ 100000) {X : List Int} (hX : beL N 8 ++ xs = X) :
    Calls Tryz.prog 41 #[.int .u64 N, .slice p n c] w fun q w' => ∃ b e, q = .returned (.slice b (8 + n) e) ∧ w'.ownsRow w.heap.size 5 1 (.slice b (8 + n) e) (8 + n) (X.map (Value.int .u8)) ∧ Below w.heap.size w w' := by
  have hXl : X.length = 8 + n := by rw [← hX, List.length_append, beL_len, hI.len]
  obtain ⟨R, x0, x1, x2, hR⟩ := num100000 hn
  have hRH := Lib.hid hR
  have hnH := Lib.hid hn
  have hXH := Lib.hid hX
  have hXlH := Lib.hid hXl
  have hNH := Lib.hid hN
  have IH := Lib.hid (fun w' (q : Below w.heap.size w w') => hI.keep q)
  have IN := Lib.hid (show ∀ x, p = some x → 0 < n → x.block < w.heap.size from hI.isIn.2)
  clear hN hI hn hX hXl hR
  go_enter Tryz.func41, Tryz.ntmps41
  go_wp2_with fail
  refine (wNew_any R w (by have := hRH.out; have := hnH.out; omega)).mono ?_
  rintro q w2 ⟨we, F, rfl, hw2, hF2, b2⟩
  rw [show max R 0 = R by have := hRH.out; omega] at hw2
  have hD := We.start hw2
  clear hw2
  go_wp2_with fail
  refine (we_num hD N 8 ⟨by decide, by decide, by rw [show (256 : Int) ^ (8 : Int).toNat = 18446744073709551616 by decide]; exact hNH.out.2⟩ hNH.out.1 (by have := hRH.out; show ((0 : Nat) : Int) + 8 ≤ R; omega) (by decide)).mono ?_
  rintro q w3 ⟨rfl, hD3⟩
  rw [List.nil_append, show (8 : Int).toNat = 8 from rfl] at hD3
  clear hD
  go_wp2_with fail
  refine (we_bytes hD3 p n c xs (IH.out w2 b2) (fun x hx hx0 hf => absurd (IN.out x hx hx0) (Nat.not_lt.2 (hF2 _ hf))) (by rw [beL_len]; have := hRH.out; omega) (by rw [beL_len]; have := hnH.out; omega)).mono ?_
  rintro q w4 ⟨rfl, hD4⟩
  rw [hXH.out] at hD4
  have S4 := b2.trans (hD4.below hF2 b2.size)
  have hd := hD4.done (by rw [hXlH.out]; have := hnH.out; omega)
  rw [if_pos rfl, hXlH.out] at hd
  clear hD3 hD4
  go_wp2_with fail
  refine hd.mono ?_
  rintro q w5 ⟨p5, c5, rfl, o5, b5⟩
  have S5 := S4.trans (b5.mono S4.size)
  have O5 := Lib.hid (own_weak o5 S4.size)
  clear hd o5 b5 S4 b2 hF2
  go_wp2
  go_ret
  exact ⟨_, _, rfl, O5.out, S5⟩

set_option maxRecDepth 100000 in
set_option maxHeartbeats 4000000 in
theorem vaParted_any (p : Option Addr) (n c : Nat) (xs : List Int) (w : World) (hI : Ints .u8 w p n c xs) (hb : ∀ y ∈ xs, isByte y) (hn : n ≤ 100000) {least : Nat} (hl : least ≤ 1) (hok : 8 + least ≤ n) {N : Int} (hN : be (xs.take 8) = N) {X : List Int} (hX : xs.drop 8 = X) {m : Nat} (hm : X.length = m) :
    Calls Tryz.prog 66 #[.slice p n c, .int .i64 (least : Int)] w fun q w' => ∃ b e, q = .returned (.tuple #[.int .u64 N, .slice b m e, .nilIface]) ∧ w'.ownsRow w.heap.size 5 1 (.slice b m e) m (X.map (Value.int .u8)) ∧ Below w.heap.size w w' := by
  have hxl := hI.len
  have hR := pNew_any p n c xs w hI hb (by omega)
  obtain ⟨rs, rb⟩ := rd_rest (BD := xs) (by omega) (M := m) (by rw [← hm, ← hX, List.length_drop])
  have rn := rd8_fit (BD := xs) (by omega)
  rw [hN] at rn
  rw [hX] at rb
  have hml : m = n - 8 := by rw [← hm, ← hX, List.length_drop, hxl]
  have hleft : (xs.length : Int) - (8 : Nat) = (m : Int) := by omega
  have hlm : ¬ ((m : Int) < (least : Int)) := by omega
  have rsH := Lib.hid rs
  have rbH := Lib.hid rb
  have rnH := Lib.hid rn
  have lfH := Lib.hid hleft
  have lmb : decide ((m : Int) < (least : Int)) = false := decide_eq_false hlm
  clear hI hb hn hl hok hN hX hm rs rb rn hml hleft hxl
  go_enter Tryz.func66, Tryz.ntmps66
  go_wp2_with fail
  refine hR.mono ?_
  rintro q w3 ⟨r, F, rfl, R3, hF3, b3⟩
  have hN3 := pNum_any 8 R3
  rw [rnH.out] at hN3
  dsimp only at hN3
  have F3H := Lib.hid hF3
  have B3H := Lib.hid b3
  clear hR R3 hF3 b3
  go_wp2_with fail
  refine hN3.mono ?_
  rintro q w4 ⟨rfl, R4, m4⟩
  have B4 := B3H.out.trans (m4.below F3H.out B3H.out.size)
  have hL4 := pLeft_any R4
  rw [lfH.out] at hL4
  have R4H := Lib.hid R4
  clear hN3 m4 R4
  go_wp2_with fail
  refine hL4.mono ?_
  rintro q w5 ⟨rfl, k5, rfl⟩
  have q5 : Below w4.heap.size w4 (w4.drewN k5) := below_drewN (Below.refl _ _) k5
  have B5 := B4.trans (q5.mono B4.size)
  have R5 := R4H.out.keep (fun b hb => q5.block b (R4H.out.lt b hb)) q5.size
  have hB5 := pBytes_any (m : Int) R5
  rw [rsH.out, rbH.out] at hB5
  dsimp only at hB5
  obtain ⟨W5, hW5⟩ : ∃ W, w4.drewN k5 = W := ⟨_, rfl⟩
  rw [hW5] at hB5 B5
  rw [hW5]
  clear hL4 R5 q5 B4 R4H hW5
  go_wp2_with fail
  refine hB5.mono ?_
  rintro q w6 ⟨a6, c6, rfl, o6, _, R6, m6⟩
  have B6 := B5.trans (m6.below F3H.out B5.size)
  have hE6 := pErr_any R6
  have O6 := Lib.hid (own_weak o6 B5.size)
  clear hB5 m6 o6 R6 B5
  go_wp2_with fail
  refine hE6.mono ?_
  rintro q w7 ⟨rfl, b7⟩
  have B7 := B6.trans (b7.mono B6.size)
  have O7 := Lib.hid (own_stay9 O6.out b7)
  clear hE6 b7 B6 O6
  go_wp2
  go_ret3
  exact ⟨_, _, rfl, O7.out, B7⟩

set_option maxRecDepth 100000 in
set_option maxHeartbeats 4000000 in
theorem vaParted_bad {o : Addr} (p : Option Addr) (n c : Nat) (xs : List Int) (w : World) (hG : Glob22 o w) (hI : Ints .u8 w p n c xs) (hb : ∀ y ∈ xs, isByte y) (hn : n ≤ 100000) {least : Nat} (hl : least ≤ 1) (hok : n < 8 + least) :
    Calls Tryz.prog 66 #[.slice p n c, .int .i64 (least : Int)] w fun q w' => ∃ s, q = .returned (.tuple #[.int .u64 0, .slice none 0 0, fault1 s 4]) ∧ Below w.heap.size w w' := by
  have hxl := hI.len
  have hR := pNew_any p n c xs w hI hb (by omega)
  have CI := Lib.hid (fun w' (q : Below w.heap.size w w') => itoa_any22 n w' (by omega) (hG.keep q (Nat.le_refl _)).p)
  have bt : ∀ S : ByteArray, Tryz.prog.built 132 [(0, .string S), (1, .iface 26 (.int .i64 4))] = some #[.string S, .iface 26 (.int .i64 4)] := fun S => by kernel_rfl
  by_cases h8 : n < 8
  · have rn := rd8_few (BD := xs) (by omega)
    have rnH := Lib.hid rn
    have e2 : rdStep xs.length 0 2 ((n : Int)) = (0, 2, 0) := by
      unfold rdStep
      rw [if_pos (by decide)]
    have hleft : (xs.length : Int) - (0 : Nat) = (n : Int) := by omega
    have lfH := Lib.hid hleft
    have e2H := Lib.hid e2
    clear hG hI hb hn hl hok rn hxl e2 hleft h8
    go_enter Tryz.func66, Tryz.ntmps66
    go_wp2_with fail
    refine hR.mono ?_
    rintro q w3 ⟨r, F, rfl, R3, hF3, b3⟩
    have hN3 := pNum_any 8 R3
    rw [rnH.out] at hN3
    dsimp only at hN3
    have F3H := Lib.hid hF3
    have B3H := Lib.hid b3
    clear hR R3 hF3 b3
    go_wp2_with fail
    refine hN3.mono ?_
    rintro q w4 ⟨rfl, R4, m4⟩
    have B4 := B3H.out.trans (m4.below F3H.out B3H.out.size)
    have hL4 := pLeft_any R4
    rw [lfH.out] at hL4
    have R4H := Lib.hid R4
    clear hN3 m4 R4
    go_wp2_with fail
    refine hL4.mono ?_
    rintro q w5 ⟨rfl, k5, rfl⟩
    have q5 : Below w4.heap.size w4 (w4.drewN k5) := below_drewN (Below.refl _ _) k5
    have B5 := B4.trans (q5.mono B4.size)
    have R5 := R4H.out.keep (fun b hb => q5.block b (R4H.out.lt b hb)) q5.size
    have hB5 := pBytes_any (n : Int) R5
    rw [e2H.out] at hB5
    dsimp only at hB5
    obtain ⟨W5, hW5⟩ : ∃ W, w4.drewN k5 = W := ⟨_, rfl⟩
    rw [hW5] at hB5 B5
    rw [hW5]
    clear hL4 R5 q5 B4 R4H hW5
    go_wp2_with fail
    refine hB5.mono ?_
    rintro q w6 ⟨a6, c6, rfl, o6, _, R6, m6⟩
    have B6 := B5.trans (m6.below F3H.out B5.size)
    have hE6 := pErr_any R6
    clear hB5 m6 o6 R6 B5
    go_wp2_with fail
    refine hE6.mono ?_
    rintro q w7 ⟨rfl, b7⟩
    have B7 := B6.trans (b7.mono B6.size)
    have hI7 := CI.out w7 B7
    clear hE6 b7 B6 CI
    go_wp2_with fail
    refine hI7.mono ?_
    rintro q w8 ⟨⟨s8, rfl, z8⟩, b8⟩
    have B8 := B7.trans (b8.mono B7.size)
    have ad := fun W => run_string_add_sum (P := Tryz.prog) W s8 ({ data := #[32, 98, 121, 116, 101, 115] } : ByteArray) (by show s8.size + 6 ≤ _; omega)
    clear z8
    clear hI7 b8 B7
    go_wp2
    go_ret3
    exact ⟨_, rfl, B8⟩
  · have rn := rd8_fit (BD := xs) (by omega)
    obtain ⟨N, hN⟩ : ∃ N, be (xs.take 8) = N := ⟨_, rfl⟩
    rw [hN] at rn
    have h80 : n = 8 ∧ least = 1 := by omega
    obtain ⟨rfl, rfl⟩ := h80
    obtain ⟨rs, rb⟩ := rd_rest (BD := xs) (by omega) (M := 0) (by omega)
    have hleft : (xs.length : Int) - (8 : Nat) = ((0 : Nat) : Int) := by omega
    have rnH := Lib.hid rn
    have rsH := Lib.hid rs
    have lfH := Lib.hid hleft
    clear hG hI hb hn hl hok rn hxl hleft h8 rs rb hN
    go_enter Tryz.func66, Tryz.ntmps66
    go_wp2_with fail
    refine hR.mono ?_
    rintro q w3 ⟨r, F, rfl, R3, hF3, b3⟩
    have hN3 := pNum_any 8 R3
    rw [rnH.out] at hN3
    dsimp only at hN3
    have F3H := Lib.hid hF3
    have B3H := Lib.hid b3
    clear hR R3 hF3 b3
    go_wp2_with fail
    refine hN3.mono ?_
    rintro q w4 ⟨rfl, R4, m4⟩
    have B4 := B3H.out.trans (m4.below F3H.out B3H.out.size)
    have hL4 := pLeft_any R4
    rw [lfH.out] at hL4
    have R4H := Lib.hid R4
    clear hN3 m4 R4
    go_wp2_with fail
    refine hL4.mono ?_
    rintro q w5 ⟨rfl, k5, rfl⟩
    have q5 : Below w4.heap.size w4 (w4.drewN k5) := below_drewN (Below.refl _ _) k5
    have B5 := B4.trans (q5.mono B4.size)
    have R5 := R4H.out.keep (fun b hb => q5.block b (R4H.out.lt b hb)) q5.size
    have hB5 := pBytes_any ((0 : Nat) : Int) R5
    rw [rsH.out] at hB5
    dsimp only at hB5
    obtain ⟨W5, hW5⟩ : ∃ W, w4.drewN k5 = W := ⟨_, rfl⟩
    rw [hW5] at hB5 B5
    rw [hW5]
    clear hL4 R5 q5 B4 R4H hW5
    go_wp2_with fail
    refine hB5.mono ?_
    rintro q w6 ⟨a6, c6, rfl, o6, _, R6, m6⟩
    have B6 := B5.trans (m6.below F3H.out B5.size)
    have hE6 := pErr_any R6
    clear hB5 m6 o6 R6 B5
    go_wp2_with fail
    refine hE6.mono ?_
    rintro q w7 ⟨rfl, b7⟩
    have B7 := B6.trans (b7.mono B6.size)
    have hI7 := CI.out w7 B7
    clear hE6 b7 B6 CI
    go_wp2_with fail
    refine hI7.mono ?_
    rintro q w8 ⟨⟨s8, rfl, z8⟩, b8⟩
    have B8 := B7.trans (b8.mono B7.size)
    have ad := fun W => run_string_add_sum (P := Tryz.prog) W s8 ({ data := #[32, 98, 121, 116, 101, 115] } : ByteArray) (by show s8.size + 6 ≤ _; omega)
    clear z8
    clear hI7 b8 B7
    go_wp2
    go_ret3
    exact ⟨_, rfl, B8⟩

set_option maxRecDepth 100000 in
set_option maxHeartbeats 1000000 in
theorem vaUnmade_any {w : World} {vo ro : Nat} (h : w.cell? ⟨vo, 0, none⟩ = some (.pointer (some ⟨ro, 0, none⟩))) :
    Calls Tryz.prog 39 #[.pointer (some ⟨vo, 0, none⟩)] w fun q w' => q = .returned (.bool false) ∧ w = w' := by
  go_enter Tryz.func39, Tryz.ntmps39
  go_wp2
  go_ret
  exact ⟨rfl, rfl⟩

set_option maxRecDepth 100000 in
set_option maxHeartbeats 1000000 in
theorem vaNext_any {w : World} {vo ro : Nat} {l m : Int} (h : w.cell? ⟨vo, 0, none⟩ = some (.pointer (some ⟨ro, 0, none⟩))) (h3 : w.cell? ⟨vo, 3, none⟩ = some (.int .u64 l)) (hm : (l + 1) % 18446744073709551616 = m) :
    Calls Tryz.prog 32 #[.pointer (some ⟨vo, 0, none⟩)] w fun q w' => q = .returned (.int .u64 m) ∧ w = w' := by
  have hu := vaUnmade_any h
  go_enter Tryz.func32, Tryz.ntmps32
  go_wp2_with fail
  refine hu.mono ?_
  rintro q w1 ⟨rfl, rfl⟩
  go_wp2
  go_ret
  exact ⟨by rw [← hm]; simp [IntKind.wrap, IntKind.signed, IntKind.bits], rfl⟩
end Go.Proofs.YtinmmhbiomcdoaaGreatDoor

/-
  A vault's add, Put and Compact. New memory is written, the disk's own, and the vault's. Conditions: a vault that Open made, of a disk that New made; fewer than 2^42 steps; the files hold bytes; at most 100000 records; what is put lies elsewhere.
-/
namespace Go.Proofs.YtinmmhbiomcdoaaGreatDoor
open Go.RowKit

/-- Blocks of another type than T stay. -/
def Typed (T : TypeId) (w w' : World) : Prop := ∀ (b : Nat) (cur : Array Value) (t : TypeId), w.heap[b]? = some (Obj.cells cur t (0, 0)) → t ≠ T → w'.heap[b]? = w.heap[b]?
theorem Typed.blk {T t : TypeId} {w w' : World} {b : Nat} {cs : List Value} (h : Typed T w w') (hb : Blk w b t cs) (hn : t ≠ T) : Blk w' b t cs := (h b _ t hb hn).trans hb
theorem typed_set {w : World} {g i : Nat} {T : TypeId} {cs : List Value} {u : Value} (h : Blk w g T cs) : Typed T w (w.setCell ⟨g, i, none⟩ u) := by
  intro b cur t hb hn
  refine (grown_setCell w g i u).block b ?_ (fun e => ?_)
  · rcases Nat.lt_or_ge b w.heap.size with h | h
    · exact h
    · rw [Array.getElem?_eq_none h] at hb; cases hb
  · injection e with e
    subst e
    have h' : w.heap[b]? = some (.cells cs.toArray T (0, 0)) := h
    rw [h'] at hb
    injection hb with hb
    injection hb with _ e _
    exact hn e.symm
theorem typed_own {w w' : World} {B n : Nat} {T : TypeId} {v : Value} {xs : List Value} (h : w.ownsRow B T 1 v n xs) (hg : w.grownBy w' v.ownBlock) : Typed T w w' := by
  intro b cur t hb hn
  refine hg.block b ?_ (fun e => ?_)
  · rcases Nat.lt_or_ge b w.heap.size with h | h
    · exact h
    · rw [Array.getElem?_eq_none h] at hb; cases hb
  · rcases h.2 with ⟨hv, _⟩ | ⟨g, cap, cur', hv, _, hgg, _⟩
    · rw [hv] at e; cases e
    · rw [hv] at e
      injection e with e
      have e' : b = g := e
      subst e'
      rw [hgg] at hb
      injection hb with hb
      injection hb with _ e _
      exact hn e.symm
theorem typed_below {w w' : World} {T : TypeId} (h : Below w.heap.size w w') : Typed T w w' := fun b cur t hb _ => h.block b (by
  rcases Nat.lt_or_ge b w.heap.size with h | h
  · exact h
  · rw [Array.getElem?_eq_none h] at hb; cases hb)
theorem Typed.slot {T : TypeId} {w w' : World} {so g fb : Nat} {a b now : Int} (h : Typed T w w') (hs : SlotAt w so g fb a b now) (h1 : 166 ≠ T) (h2 : 25 ≠ T) : SlotAt w' so g fb a b now := ⟨h.blk hs.s h1, h.blk hs.f h2⟩
theorem Typed.elem {V V' : Nat → Prop} {T : TypeId} {w w' : World} {a : Option Addr} {n c : Nat} {p : List Int} (h : Typed T w w') (he : ElemV V w a n c p) (h1 : 5 ≠ T) (hV : ∀ b, V b → V' b) : ElemV V' w' a n c p := he.same (fun b _ ⟨cur, hc⟩ => h b cur _ hc h1) hV
theorem row_snoc {V V' : Nat → Prop} {B : Nat} {w w' : World} {v v' : Value} {ps : List (List Int)} {SL : List Value} {a : Option Addr} {n c : Nat} {p : List Int} (ho : w.ownsRow B 34 1 v ps.length SL) (hx : ∀ i, i < ps.length → ∃ a n c, SL[i]? = some (.slice a n c) ∧ ElemV V w a n c (ps.getD i []))
    (hg : w.grownBy w' v.ownBlock) (he : ElemV V w a n c p) (ho' : w'.ownsRow B 34 1 v' (ps.length + 1) (SL ++ [.slice a n c])) (hr : ∀ b, v'.ownBlock = some b → V' b) (hV : ∀ b, V b → V' b) : RowV V' B w' v' (ps ++ [p]) := by
  have hk := typed_own ho hg
  have hl := ho.1
  rw [Nat.mul_one] at hl
  refine ⟨SL ++ [.slice a n c], by rw [List.length_append]; exact ho', hr, fun i hi => ?_⟩
  rw [List.length_append, List.length_singleton] at hi
  by_cases hlt : i < ps.length
  · obtain ⟨a', n', c', h1, h2⟩ := hx i hlt
    refine ⟨a', n', c', by rw [List.getElem?_append_left (by omega)]; exact h1, ?_⟩
    rw [List.getD_eq_getElem?_getD, List.getElem?_append_left hlt, ← List.getD_eq_getElem?_getD]
    exact hk.elem h2 (by decide) hV
  · obtain rfl : i = ps.length := by omega
    refine ⟨a, n, c, by rw [List.getElem?_append_right (by omega), hl]; simp, ?_⟩
    rw [List.getD_eq_getElem?_getD, List.getElem?_append_right (Nat.le_refl _), Nat.sub_self]
    exact hk.elem he (by decide) hV
theorem RowV.typed {V V' : Nat → Prop} {B : Nat} {T : TypeId} {w w' : World} {rv : Value} {ps : List (List Int)} (h : RowV V B w rv ps) (ht : Typed T w w') (h1 : 5 ≠ T) (h2 : 34 ≠ T) (hV : ∀ b, V b → V' b) : RowV V' B w' rv ps := by
  obtain ⟨SL, ho, hr, hx⟩ := h
  refine ⟨SL, own_same ho (fun b hb => ?_), fun b hb => hV b (hr b hb), fun i hi => ?_⟩
  · rcases ho.2 with ⟨hv, _⟩ | ⟨g, cap, cur, hv, _, hg, _⟩
    · rw [hv] at hb; cases hb
    · rw [hv] at hb
      injection hb with hb
      subst hb
      exact ht _ cur _ hg h2
  · obtain ⟨a, n, c, k1, k2⟩ := hx i hi
    exact ⟨a, n, c, k1, ht.elem k2 h1 hV⟩
theorem few22 {n : Nat} (h : n ≤ 100000) : n + 1 ≤ maxLen ∧ (n + 1) * 24 ≤ 140737488355328 := by
  unfold maxLen
  omega
theorem up22 {l : Int} (h : 0 ≤ l ∧ l + 1 < 18446744073709551616) : IntKind.u64.wrap (l + 1) = l + 1 ∧ (l + 1) % 18446744073709551616 = l + 1 := by
  have := u64_id (x := l + 1) ⟨by omega, h.2⟩
  exact ⟨this.2, this.1⟩

set_option maxRecDepth 100000 in
set_option maxHeartbeats 4000000 in
theorem vaAdd_any {V : Nat → Prop} {B : Nat} {w : World} {vo ro so fb g : Nat} {rv : Value} {v : VtV} {a : Option Addr} {n c : Nat} {p : List Int} (hV : VaIn V B w vo ro so fb g rv v) (hB : B ≤ w.heap.size) (hE : ElemV V w a n c p) (hl : 0 ≤ v.last ∧ v.last + 1 < 18446744073709551616) (hn : v.after.length ≤ 100000) :
    Calls Tryz.prog 42 #[.pointer (some ⟨vo, 0, none⟩), .slice a n c] w fun q w' => q = .returned (.tuple #[]) ∧ ∃ rv', VaIn (fun b => V b ∨ (w.heap.size ≤ b ∧ b < w'.heap.size)) B w' vo ro so fb g rv' { v with last := v.last + 1, after := v.after ++ [p] } ∧ Moved (fun b => V b ∧ B ≤ b) w w' := by
  obtain ⟨i1, ji, jz0, jz1, jz2⟩ := info_sl19
  have b1 := below1 w (.cells #[.slice a n c] 34)
  have hV1 := hV.keep b1
  have E1 := hE.same (w' := w.alloc (.cells #[.slice a n c] 34)) (V' := V) (fun b _ ⟨cur, hc⟩ => b1.block b (by
    rcases Nat.lt_or_ge b w.heap.size with h | h
    · exact h
    · rw [Array.getElem?_eq_none h] at hc; cases hc)) (fun _ h => h)
  obtain ⟨SL, ho1, hr1, hx1⟩ := hV1.p
  have c2 := hV.c2
  have c3 := hV.c3
  have k2 := hV1.c2
  obtain ⟨W1, hW1⟩ : ∃ W, w.alloc (.cells #[.slice a n c] 34) = W := ⟨_, rfl⟩
  have s1 : W1.heap.size = w.heap.size + 1 := by rw [← hW1]; exact size1 w _
  have ce : W1.cell? ⟨w.heap.size, 0, none⟩ = some (.slice a n c) := by rw [← hW1]; exact World.cell?_alloc_at (w := w) #[.slice a n c] 34 w.heap.size 0 rfl
  have hW1H := Lib.hid hW1
  rw [hW1] at b1 hV1 E1 ho1 hx1 k2
  have fw := few22 hn
  obtain ⟨uw, um⟩ := up22 hl
  have BH := Lib.hid hB
  have FW := Lib.hid fw
  have s1H := Lib.hid s1
  have b1H := Lib.hid b1
  have V1H := Lib.hid hV1
  have E1H := Lib.hid E1
  have r1H := Lib.hid hr1
  have x1H := Lib.hid hx1
  have ceH := Lib.hid ce
  have voH := Lib.hid hV.vo
  clear hV hB hE hl hn b1 E1 hW1 hr1 hx1 s1 fw ce k2 hV1
  go_enter Tryz.func42, Tryz.ntmps42
  go_wp2_with (at_builtin; rw [hW1H.out]; refine wpList_append_lies _ rfl (.tmp 8) (.tmp 10) 44 rfl B 34 i1 (.slice none 0 0) 1 24 Tryz.underlying44 ji jz0 jz1 jz2 rfl (by decide) _ _ _ rfl ho1 ⟨w.heap.size, 0, none⟩ 1 1 [.slice a n c] rfl rfl ?c1 ?c2 (by decide) ?c3 ?c4 ?c5 (w.heap.size + 1) ?c6 ?_)
  case c1 =>
    intro t u ht
    rcases t with _ | t
    · obtain rfl : u = .slice a n c := by simpa using ht.symm
      exact ceH.out
    · simp at ht
  case c2 => simp [Value.oneCell']
  case c3 => exact FW.out.1
  case c4 => exact FW.out.2
  case c5 => rw [s1H.out]; exact Nat.le_trans BH.out (Nat.le_succ _)
  case c6 => exact s1H.out
  intro gN cap W2 ho2 hg2 hlie hlt2
  have hV1 := V1H.out
  have ty2 := typed_own ho1 hg2
  have O2 : Blk W2 vo 80 (vaC ro so rv v.last) := ty2.blk hV1.o (by decide)
  have R2 : RollAt W2 ro g 0 := ty2.blk hV1.r (by decide)
  have S2 := ty2.slot hV1.s (by decide) (by decide)
  have sz2 := hg2.size
  have hnew : ∀ b, (Value.slice (some ⟨gN, 0, none⟩) (v.after.length + 1) cap).ownBlock = some b → V b ∨ (w.heap.size ≤ b ∧ b < W2.heap.size) := by
    intro b hb
    injection hb with hb
    have hb : gN = b := hb
    subst hb
    rcases hlie with h | h
    · exact .inl (r1H.out _ h)
    · exact .inr ⟨by rw [h]; exact Nat.le_succ _, hlt2⟩
  have P2 := row_snoc (V' := fun b => V b ∨ (w.heap.size ≤ b ∧ b < W2.heap.size)) ho1 x1H.out hg2 E1H.out ho2 hnew (fun _ h => .inl h)
  have hm2 : Moved (fun b => V b ∧ B ≤ b) w W2 := by
    have m1 : Moved (fun b => V b ∧ B ≤ b) w W1 := Moved.of_below b1H.out
    exact m1.then ⟨⟨hg2.os, hg2.tape, hg2.output, hg2.size, fun _ h => absurd h (Nat.not_lt_zero _)⟩, fun b hb hn => hg2.block b hb (fun e => hn ⟨r1H.out b e.symm, (ho1.lt b e.symm).1⟩)⟩
  have k2 : W2.cell? ⟨vo, 2, none⟩ = some rv := O2.cell 2
  have f2 := O2.frozen 2
  have k23 : W2.cell? ⟨vo, 3, none⟩ = some (.int .u64 v.last) := O2.cell 3
  have f23 := O2.frozen 3
  have ty3 : Typed 80 W2 (W2.setCell ⟨vo, 2, none⟩ (.slice (some ⟨gN, 0, none⟩) (v.after.length + 1) cap)) := typed_set O2
  have O3 : Blk (W2.setCell ⟨vo, 2, none⟩ (.slice (some ⟨gN, 0, none⟩) (v.after.length + 1) cap)) vo 80 (vaC ro so (.slice (some ⟨gN, 0, none⟩) (v.after.length + 1) cap) v.last) := O2.set 2 (.slice (some ⟨gN, 0, none⟩) (v.after.length + 1) cap)
  have k3 : (W2.setCell ⟨vo, 2, none⟩ (.slice (some ⟨gN, 0, none⟩) (v.after.length + 1) cap)).cell? ⟨vo, 3, none⟩ = some (.int .u64 v.last) := O3.cell 3
  have f3 := O3.frozen 3
  have g3 := grown_setCell W2 vo 2 (.slice (some ⟨gN, 0, none⟩) (v.after.length + 1) cap)
  have sz3 : W2.heap.size ≤ (W2.setCell ⟨vo, 2, none⟩ (.slice (some ⟨gN, 0, none⟩) (v.after.length + 1) cap)).heap.size := g3.size
  have ty4 : Typed 80 (W2.setCell ⟨vo, 2, none⟩ (.slice (some ⟨gN, 0, none⟩) (v.after.length + 1) cap)) ((W2.setCell ⟨vo, 2, none⟩ (.slice (some ⟨gN, 0, none⟩) (v.after.length + 1) cap)).setCell ⟨vo, 3, none⟩ (.int .u64 (v.last + 1))) := typed_set O3
  have O4 : Blk ((W2.setCell ⟨vo, 2, none⟩ (.slice (some ⟨gN, 0, none⟩) (v.after.length + 1) cap)).setCell ⟨vo, 3, none⟩ (.int .u64 (v.last + 1))) vo 80 (vaC ro so (.slice (some ⟨gN, 0, none⟩) (v.after.length + 1) cap) (v.last + 1)) := O3.set 3 (.int .u64 (v.last + 1))
  have g4 := grown_setCell (W2.setCell ⟨vo, 2, none⟩ (.slice (some ⟨gN, 0, none⟩) (v.after.length + 1) cap)) vo 3 (.int .u64 (v.last + 1))
  have hm4 : Moved (fun b => V b ∧ B ≤ b) w ((W2.setCell ⟨vo, 2, none⟩ (.slice (some ⟨gN, 0, none⟩) (v.after.length + 1) cap)).setCell ⟨vo, 3, none⟩ (.int .u64 (v.last + 1))) := (hm2.then (moved_set voH.out g3)).then (moved_set voH.out g4)
  have fin : VaIn (fun b => V b ∨ (w.heap.size ≤ b ∧ b < ((W2.setCell ⟨vo, 2, none⟩ (.slice (some ⟨gN, 0, none⟩) (v.after.length + 1) cap)).setCell ⟨vo, 3, none⟩ (.int .u64 (v.last + 1))).heap.size)) B ((W2.setCell ⟨vo, 2, none⟩ (.slice (some ⟨gN, 0, none⟩) (v.after.length + 1) cap)).setCell ⟨vo, 3, none⟩ (.int .u64 (v.last + 1))) vo ro so fb g (.slice (some ⟨gN, 0, none⟩) (v.after.length + 1) cap) { v with last := v.last + 1, after := v.after ++ [p] } := by
    have hle : W2.heap.size ≤ ((W2.setCell ⟨vo, 2, none⟩ (.slice (some ⟨gN, 0, none⟩) (v.after.length + 1) cap)).setCell ⟨vo, 3, none⟩ (.int .u64 (v.last + 1))).heap.size := Nat.le_trans sz3 g4.size
    exact ⟨O4, ty4.blk (ty3.blk R2 (by decide)) (by decide), ty4.slot (ty3.slot S2 (by decide) (by decide)) (by decide) (by decide), (P2.typed ty3 (by decide) (by decide) (fun _ h => h)).typed ty4 (by decide) (by decide) (fun b hb => hb.imp id (fun h => ⟨h.1, Nat.lt_of_lt_of_le h.2 hle⟩)), ⟨.inl voH.out.1, voH.out.2⟩, .inl hV1.vr, .inl hV1.vs.1, .inl hV1.vs.2.1, hV1.vs.2.2⟩
  have finH := Lib.hid fin
  have mH := Lib.hid hm4
  clear ho1 hg2 hlie hlt2 ho2 ty2 R2 S2 sz2 hnew P2 hm2 ty3 O2 O3 g3 sz3 ty4 O4 g4 hm4 fin hV1 c2 c3 k3 f3
  go_wp2
  first
    | go_end0
    | refine bodyPost_ret (results_none rfl _ _ _) rfl ?_
  exact ⟨rfl, _, finH.out, mH.out⟩
end Go.Proofs.YtinmmhbiomcdoaaGreatDoor

/-
  A vault's Put and Compact. New memory is written, the disk's own, and the vault's. Conditions: a vault that Open made, of a disk that New made; fewer than 2^42 steps; the files hold bytes; at most 100000 records; what is put lies elsewhere.
-/
namespace Go.Proofs.YtinmmhbiomcdoaaGreatDoor
open Go.RowKit

/-- Behind a call that turns a vault: blocks N are new ones of its own. -/
def VaTo (Hs : (Nat → Prop) → World → DkV → Prop) (E V : Nat → Prop) (B : Nat) (w w' : World) (vo ro so fb g : Nat) (D' : DkV) (v' : VtV) : Prop :=
  ∃ (N : Nat → Prop) (rv' : Value), (∀ b, N b → w.heap.size ≤ b) ∧ Hs (fun b => E b ∨ N b) w' D' ∧ VaIn (fun b => V b ∨ N b) B w' vo ro so fb g rv' v' ∧ w.heap.size ≤ w'.heap.size ∧ ∀ b, E b → ¬ V b → w'.heap[b]? = w.heap[b]?
section
variable {Hs : (Nat → Prop) → World → DkV → Prop} {E V : Nat → Prop} {B : Nat} {w0 w w' : World} {g vo ro so fb : Nat} {D D' : DkV} {T : Nat} {rv : Value} {v v' : VtV} {o : Addr} {e : Int} {a : Option Addr} {n c : Nat} {x : List Int}
theorem h_ints {k : IntKind} (H : Host Hs B w0 g) (h : Hs E w D) (h' : Hs E w' D') (s : SameE E w w') (hI : Ints k w a n c x) (hp : ∀ y, a = some y → 0 < n → y.block < B ∨ E y.block) : Ints k w' a n c x :=
  ints_inR (R := fun b => b < B ∨ E b) hI hp (fun b hb _ => hb.elim (fun hb => ((H.low h').1.block b hb).trans ((H.low h).1.block b hb).symm) (s b))
theorem vaTo_stay (H : Host Hs B w0 g) (h' : Hs E w' D') (s : SameE E w w') (z : w.heap.size ≤ w'.heap.size) (hV : VaIn V B w vo ro so fb g rv v) (hVE : ∀ b, V b → E b) : VaTo Hs E V B w w' vo ro so fb g D' v :=
  ⟨fun _ => False, rv, fun _ h => h.elim, H.less h' (fun _ h => h.elim id False.elim), hV.same (fun b hb _ => s b (hVE b hb)) (fun _ h => .inl h), z, fun b hb _ => s b hb⟩

set_option maxRecDepth 100000 in
set_option maxHeartbeats 4000000 in
theorem vaPut_any (H : Host Hs B w0 g) (h : Hs E w D) (hV : VaIn V B w vo ro so fb g rv v) (hVE : ∀ b, V b → E b) (hO : D.Ok T) (hT : T < 4398046511103) (hk : VtOk D v) (hG : Glob22 o w0) (hB : w0.heap.size ≤ B) (hI : Ints .u8 w a n c x) (hx : ∀ y ∈ x, isByte y) (hp : ∀ y, a = some y → 0 < n → y.block < B ∨ E y.block) (hn : v.after.length ≤ 100000) (he : ptV D v x = (D', v', e)) :
    Calls Tryz.prog 12 #[.pointer (some ⟨vo, 0, none⟩), .slice a n c] w fun q w' => q = .returned (.int .i64 e) ∧ VaTo Hs E V B w w' vo ro so fb g D' v' := by
  have hu := vaUnmade_any hV.c0
  have c0 := hV.c0
  have c3 := hV.c3
  have hl := hI.len
  have hst := vaTo_stay H h (fun _ _ => rfl) (Nat.le_refl _) hV hVE
  unfold ptV at he
  by_cases hA : x.length < 1 ∨ 60000 < x.length ∨ 18446744073709551614 ≤ v.last
  · rw [if_pos hA] at he
    injection he with h1 he
    injection he with h2 h3
    subst h1; subst h2; subst h3
    have hstH := Lib.hid hst
    by_cases h1 : n < 1
    · have h1i : (n : Int) < 1 := by omega
      clear H h hV hVE hO hT hk hG hB hI hx hp hn hA hl hst h1
      go_enter Tryz.func12, Tryz.ntmps12
      go_wp2_with fail
      refine hu.mono ?_
      rintro q w1 ⟨rfl, rfl⟩
      clear hu
      go_wp2
      go_ret
      exact ⟨rfl, hstH.out⟩
    by_cases h2 : 60000 < n
    · have h1i : ¬ (n : Int) < 1 := by omega
      have h2i : (60000 : Int) < (n : Int) := by omega
      clear H h hV hVE hO hT hk hG hB hI hx hp hn hA hl hst h1 h2
      go_enter Tryz.func12, Tryz.ntmps12
      go_wp2_with fail
      refine hu.mono ?_
      rintro q w1 ⟨rfl, rfl⟩
      clear hu
      go_wp2
      go_ret
      exact ⟨rfl, hstH.out⟩
    · have h1i : ¬ (n : Int) < 1 := by omega
      have h2i : ¬ (60000 : Int) < (n : Int) := by omega
      have h3i : 18446744073709551614 ≤ v.last := by omega
      clear H h hV hVE hO hT hk hG hB hI hx hp hn hA hl hst h1 h2
      go_enter Tryz.func12, Tryz.ntmps12
      go_wp2_with fail
      refine hu.mono ?_
      rintro q w1 ⟨rfl, rfl⟩
      clear hu
      go_wp2
      go_ret
      exact ⟨rfl, hstH.out⟩
  rw [if_neg hA] at he
  have h1i : ¬ (n : Int) < 1 := by omega
  have h2i : ¬ (60000 : Int) < (n : Int) := by omega
  have h3i : ¬ 18446744073709551614 ≤ v.last := by omega
  have hla := hk.l
  have b4 : Below w.heap.size w w.drew := (Below.refl _ _).drew
  obtain ⟨X, hX⟩ : ∃ X, v.next x = X := ⟨_, rfl⟩
  have hXl := vnext_len v x
  have hXb := vnext_by v hx
  rw [hX] at he hXl hXb
  obtain ⟨D1, e1, hp1⟩ : ∃ D1 e1, prD D 0 X = (D1, e1) := ⟨_, _, rfl⟩
  rw [hp1] at he
  dsimp only at he
  have cN := vaNext_any (w := w.drew) (hV.keep b4).c0 (hV.keep b4).c3 (m := v.last + 1) (by omega)
  have cM := vaNumbered_any (v.last + 1) a n c x w.drew (by omega) (hI.keep b4) (by omega) (X := X) hX
  have cA := Lib.hid (fun w' (q : Below w.heap.size w w') (p : Option Addr) (d : Nat) (I : Ints .u8 w' p (8 + n) d X) => h_append H (H.keep h q) (hV.keep q).r (hVE ro hV.vr) hO hT hG.h hB I hXb (by omega) hp1)
  have S4 : w.drew.cell? ⟨vo, 0, none⟩ = some (.pointer (some ⟨ro, 0, none⟩)) := (hV.keep b4).c0
  have KC := Lib.hid (fun w' (q : Below w.heap.size w w') => (hV.keep q).c0)
  have voE := Lib.hid (hVE vo hV.vo.1)
  have sB := Lib.hid (fun w' (q : Below w.heap.size w w') => H.same h q)
  by_cases h1 : e1 = 0
  case neg =>
    rw [if_pos h1] at he
    injection he with k1 he
    injection he with k2 k3
    subst k1; subst k2; subst k3
    have ST := Lib.hid (fun w' (h' : Hs E w' D1) (s : SameE E w w') (z : w.heap.size ≤ w'.heap.size) => vaTo_stay H h' s z hV hVE)
    clear H h hV hVE hO hT hk hG hB hI hx hp hn hA hl hst hla hX hXl hXb hp1
    go_enter Tryz.func12, Tryz.ntmps12
    go_wp2_with fail
    refine hu.mono ?_
    rintro q w1 ⟨rfl, rfl⟩
    clear hu
    go_wp2_with fail
    refine region_seqS (fun w' => w'.cell? ⟨vo, 0, none⟩ = some (.pointer (some ⟨ro, 0, none⟩))) (by kernel_rfl) S4 ?_
    simp only [pairs, Nat.reduceAdd]
    repeat (first
      | (refine SeqS.take (v := ?_) (by first | assumption | trivial) (by kernel_rfl) (by decide +kernel) (by decide +kernel) (Or.inl ⟨by rfl, ?_⟩) ?_
         rotate_left
         focus
           intro w' hb'
           go_simp
           with_reducible rfl
         simp only [Act.put, List.setIfInBounds_toArray, List.set_cons_zero, List.set_cons_succ])
      | (refine SeqS.take (v := ?_) (by first | assumption | trivial) (by kernel_rfl) (by decide +kernel) (by decide +kernel) (Or.inl ⟨by rfl, ?_⟩) ?_
         rotate_left
         focus
           intro w' hb'
           have d0 := hb'
           go_simp
           with_reducible rfl
         simp only [Act.put, List.setIfInBounds_toArray, List.set_cons_zero, List.set_cons_succ])
      | (refine SeqS.take (v := undef) (by first | assumption | trivial) (by kernel_rfl) (by decide +kernel) (by decide +kernel) (Or.inr ⟨by rfl, rfl⟩) ?_
         simp only [Act.put, List.setIfInBounds_toArray, List.set_cons_zero, List.set_cons_succ])
      | (refine SeqS.take1 (v := ?_) (by first | assumption | trivial) (by kernel_rfl) (by decide +kernel) (by decide +kernel) (Or.inl ⟨by rfl, ?_⟩) ?_
         rotate_left
         focus
           intro w' hb'
           go_simp
           with_reducible rfl
         simp only [Act.put, List.setIfInBounds_toArray, List.set_cons_zero, List.set_cons_succ])
      | (refine SeqS.take1 (v := ?_) (by first | assumption | trivial) (by kernel_rfl) (by decide +kernel) (by decide +kernel) (Or.inl ⟨by rfl, ?_⟩) ?_
         rotate_left
         focus
           intro w' hb'
           have d0 := hb'
           go_simp
           with_reducible rfl
         simp only [Act.put, List.setIfInBounds_toArray, List.set_cons_zero, List.set_cons_succ])
      | (refine SeqS.take1 (v := undef) (by first | assumption | trivial) (by kernel_rfl) (by decide +kernel) (by decide +kernel) (Or.inr ⟨by rfl, rfl⟩) ?_
         simp only [Act.put, List.setIfInBounds_toArray, List.set_cons_zero, List.set_cons_succ])
      | (refine SeqS.take2 (v := ?_) (by first | assumption | trivial) (by kernel_rfl) (by decide +kernel) (by decide +kernel) (Or.inl ⟨by rfl, ?_⟩) ?_
         rotate_left
         focus
           intro w' hb'
           go_simp
           with_reducible rfl
         simp only [Act.put, List.setIfInBounds_toArray, List.set_cons_zero, List.set_cons_succ])
      | (refine SeqS.take2 (v := ?_) (by first | assumption | trivial) (by kernel_rfl) (by decide +kernel) (by decide +kernel) (Or.inl ⟨by rfl, ?_⟩) ?_
         rotate_left
         focus
           intro w' hb'
           have d0 := hb'
           go_simp
           with_reducible rfl
         simp only [Act.put, List.setIfInBounds_toArray, List.set_cons_zero, List.set_cons_succ])
      | (refine SeqS.take2 (v := undef) (by first | assumption | trivial) (by kernel_rfl) (by decide +kernel) (by decide +kernel) (Or.inr ⟨by rfl, rfl⟩) ?_
         simp only [Act.put, List.setIfInBounds_toArray, List.set_cons_zero, List.set_cons_succ]))
    refine SeqS.alone (by decide +kernel) (by rfl) (fun K hK => ?_)
    go_simp
    go_at_call 32
    refine cN.mono ?_
    rintro q w2 ⟨rfl, rfl⟩
    go_simp
    refine hK _ _ S4 ?_
    clear hK K cN
    repeat (first
      | (refine SeqS.take (v := ?_) (by first | assumption | trivial) (by kernel_rfl) (by decide +kernel) (by decide +kernel) (Or.inl ⟨by rfl, ?_⟩) ?_
         rotate_left
         focus
           intro w' hb'
           go_simp
           with_reducible rfl
         simp only [Act.put, List.setIfInBounds_toArray, List.set_cons_zero, List.set_cons_succ])
      | (refine SeqS.take (v := ?_) (by first | assumption | trivial) (by kernel_rfl) (by decide +kernel) (by decide +kernel) (Or.inl ⟨by rfl, ?_⟩) ?_
         rotate_left
         focus
           intro w' hb'
           have d0 := hb'
           go_simp
           with_reducible rfl
         simp only [Act.put, List.setIfInBounds_toArray, List.set_cons_zero, List.set_cons_succ])
      | (refine SeqS.take (v := undef) (by first | assumption | trivial) (by kernel_rfl) (by decide +kernel) (by decide +kernel) (Or.inr ⟨by rfl, rfl⟩) ?_
         simp only [Act.put, List.setIfInBounds_toArray, List.set_cons_zero, List.set_cons_succ])
      | (refine SeqS.take1 (v := ?_) (by first | assumption | trivial) (by kernel_rfl) (by decide +kernel) (by decide +kernel) (Or.inl ⟨by rfl, ?_⟩) ?_
         rotate_left
         focus
           intro w' hb'
           go_simp
           with_reducible rfl
         simp only [Act.put, List.setIfInBounds_toArray, List.set_cons_zero, List.set_cons_succ])
      | (refine SeqS.take1 (v := ?_) (by first | assumption | trivial) (by kernel_rfl) (by decide +kernel) (by decide +kernel) (Or.inl ⟨by rfl, ?_⟩) ?_
         rotate_left
         focus
           intro w' hb'
           have d0 := hb'
           go_simp
           with_reducible rfl
         simp only [Act.put, List.setIfInBounds_toArray, List.set_cons_zero, List.set_cons_succ])
      | (refine SeqS.take1 (v := undef) (by first | assumption | trivial) (by kernel_rfl) (by decide +kernel) (by decide +kernel) (Or.inr ⟨by rfl, rfl⟩) ?_
         simp only [Act.put, List.setIfInBounds_toArray, List.set_cons_zero, List.set_cons_succ])
      | (refine SeqS.take2 (v := ?_) (by first | assumption | trivial) (by kernel_rfl) (by decide +kernel) (by decide +kernel) (Or.inl ⟨by rfl, ?_⟩) ?_
         rotate_left
         focus
           intro w' hb'
           go_simp
           with_reducible rfl
         simp only [Act.put, List.setIfInBounds_toArray, List.set_cons_zero, List.set_cons_succ])
      | (refine SeqS.take2 (v := ?_) (by first | assumption | trivial) (by kernel_rfl) (by decide +kernel) (by decide +kernel) (Or.inl ⟨by rfl, ?_⟩) ?_
         rotate_left
         focus
           intro w' hb'
           have d0 := hb'
           go_simp
           with_reducible rfl
         simp only [Act.put, List.setIfInBounds_toArray, List.set_cons_zero, List.set_cons_succ])
      | (refine SeqS.take2 (v := undef) (by first | assumption | trivial) (by kernel_rfl) (by decide +kernel) (by decide +kernel) (Or.inr ⟨by rfl, rfl⟩) ?_
         simp only [Act.put, List.setIfInBounds_toArray, List.set_cons_zero, List.set_cons_succ]))
    refine SeqS.alone (by decide +kernel) (by rfl) (fun K hK => ?_)
    go_simp
    go_at_call 41
    refine cM.mono ?_
    rintro q w3 ⟨p3, e3, rfl, o3, b3⟩
    have B3 := b4.trans (b3.mono b4.size)
    have cA3 := cA.out w3 B3 p3 e3 (own_ints' o3)
    have S3 := KC.out w3 B3
    go_simp
    refine hK _ _ S3 ?_
    clear hK K cM cA S4 o3 b3
    repeat (first
      | (refine SeqS.take (v := ?_) (by first | assumption | trivial) (by kernel_rfl) (by decide +kernel) (by decide +kernel) (Or.inl ⟨by rfl, ?_⟩) ?_
         rotate_left
         focus
           intro w' hb'
           go_simp
           with_reducible rfl
         simp only [Act.put, List.setIfInBounds_toArray, List.set_cons_zero, List.set_cons_succ])
      | (refine SeqS.take (v := ?_) (by first | assumption | trivial) (by kernel_rfl) (by decide +kernel) (by decide +kernel) (Or.inl ⟨by rfl, ?_⟩) ?_
         rotate_left
         focus
           intro w' hb'
           have d0 := hb'
           go_simp
           with_reducible rfl
         simp only [Act.put, List.setIfInBounds_toArray, List.set_cons_zero, List.set_cons_succ])
      | (refine SeqS.take (v := undef) (by first | assumption | trivial) (by kernel_rfl) (by decide +kernel) (by decide +kernel) (Or.inr ⟨by rfl, rfl⟩) ?_
         simp only [Act.put, List.setIfInBounds_toArray, List.set_cons_zero, List.set_cons_succ])
      | (refine SeqS.take1 (v := ?_) (by first | assumption | trivial) (by kernel_rfl) (by decide +kernel) (by decide +kernel) (Or.inl ⟨by rfl, ?_⟩) ?_
         rotate_left
         focus
           intro w' hb'
           go_simp
           with_reducible rfl
         simp only [Act.put, List.setIfInBounds_toArray, List.set_cons_zero, List.set_cons_succ])
      | (refine SeqS.take1 (v := ?_) (by first | assumption | trivial) (by kernel_rfl) (by decide +kernel) (by decide +kernel) (Or.inl ⟨by rfl, ?_⟩) ?_
         rotate_left
         focus
           intro w' hb'
           have d0 := hb'
           go_simp
           with_reducible rfl
         simp only [Act.put, List.setIfInBounds_toArray, List.set_cons_zero, List.set_cons_succ])
      | (refine SeqS.take1 (v := undef) (by first | assumption | trivial) (by kernel_rfl) (by decide +kernel) (by decide +kernel) (Or.inr ⟨by rfl, rfl⟩) ?_
         simp only [Act.put, List.setIfInBounds_toArray, List.set_cons_zero, List.set_cons_succ])
      | (refine SeqS.take2 (v := ?_) (by first | assumption | trivial) (by kernel_rfl) (by decide +kernel) (by decide +kernel) (Or.inl ⟨by rfl, ?_⟩) ?_
         rotate_left
         focus
           intro w' hb'
           go_simp
           with_reducible rfl
         simp only [Act.put, List.setIfInBounds_toArray, List.set_cons_zero, List.set_cons_succ])
      | (refine SeqS.take2 (v := ?_) (by first | assumption | trivial) (by kernel_rfl) (by decide +kernel) (by decide +kernel) (Or.inl ⟨by rfl, ?_⟩) ?_
         rotate_left
         focus
           intro w' hb'
           have d0 := hb'
           go_simp
           with_reducible rfl
         simp only [Act.put, List.setIfInBounds_toArray, List.set_cons_zero, List.set_cons_succ])
      | (refine SeqS.take2 (v := undef) (by first | assumption | trivial) (by kernel_rfl) (by decide +kernel) (by decide +kernel) (Or.inr ⟨by rfl, rfl⟩) ?_
         simp only [Act.put, List.setIfInBounds_toArray, List.set_cons_zero, List.set_cons_succ]))
    refine SeqS.alone (by decide +kernel) (by rfl) (fun K hK => ?_)
    go_simp
    go_at_call 40
    refine cA3.mono ?_
    rintro q w4 ⟨rfl, h4, s4, z4⟩
    have S5 : w4.cell? ⟨vo, 0, none⟩ = some (.pointer (some ⟨ro, 0, none⟩)) := by
      have := s4 vo voE.out
      unfold World.cell? at S3 ⊢
      rw [this]
      exact S3
    go_simp
    refine hK _ _ S5 ?_
    clear hK K cA3 S3
    repeat (first
      | (refine SeqS.take (v := ?_) (by first | assumption | trivial) (by kernel_rfl) (by decide +kernel) (by decide +kernel) (Or.inl ⟨by rfl, ?_⟩) ?_
         rotate_left
         focus
           intro w' hb'
           go_simp
           with_reducible rfl
         simp only [Act.put, List.setIfInBounds_toArray, List.set_cons_zero, List.set_cons_succ])
      | (refine SeqS.take (v := undef) (by first | assumption | trivial) (by kernel_rfl) (by decide +kernel) (by decide +kernel) (Or.inr ⟨by rfl, rfl⟩) ?_
         simp only [Act.put, List.setIfInBounds_toArray, List.set_cons_zero, List.set_cons_succ])
      | (refine SeqS.take1 (v := ?_) (by first | assumption | trivial) (by kernel_rfl) (by decide +kernel) (by decide +kernel) (Or.inl ⟨by rfl, ?_⟩) ?_
         rotate_left
         focus
           intro w' hb'
           go_simp
           with_reducible rfl
         simp only [Act.put, List.setIfInBounds_toArray, List.set_cons_zero, List.set_cons_succ])
      | (refine SeqS.take1 (v := undef) (by first | assumption | trivial) (by kernel_rfl) (by decide +kernel) (by decide +kernel) (Or.inr ⟨by rfl, rfl⟩) ?_
         simp only [Act.put, List.setIfInBounds_toArray, List.set_cons_zero, List.set_cons_succ])
      | (refine SeqS.take2 (v := ?_) (by first | assumption | trivial) (by kernel_rfl) (by decide +kernel) (by decide +kernel) (Or.inl ⟨by rfl, ?_⟩) ?_
         rotate_left
         focus
           intro w' hb'
           go_simp
           with_reducible rfl
         simp only [Act.put, List.setIfInBounds_toArray, List.set_cons_zero, List.set_cons_succ])
      | (refine SeqS.take2 (v := undef) (by first | assumption | trivial) (by kernel_rfl) (by decide +kernel) (by decide +kernel) (Or.inr ⟨by rfl, rfl⟩) ?_
         simp only [Act.put, List.setIfInBounds_toArray, List.set_cons_zero, List.set_cons_succ]))
    refine SeqS.done (by decide +kernel) ?_
    have z4 := Nat.le_trans B3.size z4
    have sE : SameE E w w4 := fun b hb => (s4 b hb).trans (sB.out w3 B3 b hb)
    clear s4 B3 S5 c0 c3
    go_wp2
    go_ret
    exact ⟨rfl, ST.out w4 h4 sE z4⟩
  case pos =>
    subst h1
    rw [if_neg (by decide)] at he
    injection he with k1 he
    injection he with k2 k3
    subst k1; subst k2; subst k3
    have IH := Lib.hid (fun w' (h' : Hs E w' D1) (s : SameE E w w') => h_ints H h h' s hI hp)
    have VH := Lib.hid (fun w' (s : SameE E w w') => hV.same (w' := w') (V' := V) (fun b hb _ => s b (hVE b hb)) (fun _ h => h))
    have HH := Lib.hid H
    have nH := Lib.hid hn
    have lH := Lib.hid (show n ≤ 60000 ∧ 0 ≤ v.last ∧ v.last + 1 < 18446744073709551616 by omega)
    have vE := Lib.hid hVE
    have ltE := Lib.hid (H.low h).2.2
    have szw := Lib.hid (Nat.le_refl w.heap.size)
    clear H h hV hVE hO hT hk hG hB hI hx hp hn hA hl hst hla hX hXl hXb hp1
    go_enter Tryz.func12, Tryz.ntmps12
    go_wp2_with fail
    refine hu.mono ?_
    rintro q w1 ⟨rfl, rfl⟩
    clear hu
    go_wp2_with fail
    refine region_seqS (fun w' => w'.cell? ⟨vo, 0, none⟩ = some (.pointer (some ⟨ro, 0, none⟩))) (by kernel_rfl) S4 ?_
    simp only [pairs, Nat.reduceAdd]
    repeat (first
      | (refine SeqS.take (v := ?_) (by first | assumption | trivial) (by kernel_rfl) (by decide +kernel) (by decide +kernel) (Or.inl ⟨by rfl, ?_⟩) ?_
         rotate_left
         focus
           intro w' hb'
           go_simp
           with_reducible rfl
         simp only [Act.put, List.setIfInBounds_toArray, List.set_cons_zero, List.set_cons_succ])
      | (refine SeqS.take (v := ?_) (by first | assumption | trivial) (by kernel_rfl) (by decide +kernel) (by decide +kernel) (Or.inl ⟨by rfl, ?_⟩) ?_
         rotate_left
         focus
           intro w' hb'
           have d0 := hb'
           go_simp
           with_reducible rfl
         simp only [Act.put, List.setIfInBounds_toArray, List.set_cons_zero, List.set_cons_succ])
      | (refine SeqS.take (v := undef) (by first | assumption | trivial) (by kernel_rfl) (by decide +kernel) (by decide +kernel) (Or.inr ⟨by rfl, rfl⟩) ?_
         simp only [Act.put, List.setIfInBounds_toArray, List.set_cons_zero, List.set_cons_succ])
      | (refine SeqS.take1 (v := ?_) (by first | assumption | trivial) (by kernel_rfl) (by decide +kernel) (by decide +kernel) (Or.inl ⟨by rfl, ?_⟩) ?_
         rotate_left
         focus
           intro w' hb'
           go_simp
           with_reducible rfl
         simp only [Act.put, List.setIfInBounds_toArray, List.set_cons_zero, List.set_cons_succ])
      | (refine SeqS.take1 (v := ?_) (by first | assumption | trivial) (by kernel_rfl) (by decide +kernel) (by decide +kernel) (Or.inl ⟨by rfl, ?_⟩) ?_
         rotate_left
         focus
           intro w' hb'
           have d0 := hb'
           go_simp
           with_reducible rfl
         simp only [Act.put, List.setIfInBounds_toArray, List.set_cons_zero, List.set_cons_succ])
      | (refine SeqS.take1 (v := undef) (by first | assumption | trivial) (by kernel_rfl) (by decide +kernel) (by decide +kernel) (Or.inr ⟨by rfl, rfl⟩) ?_
         simp only [Act.put, List.setIfInBounds_toArray, List.set_cons_zero, List.set_cons_succ])
      | (refine SeqS.take2 (v := ?_) (by first | assumption | trivial) (by kernel_rfl) (by decide +kernel) (by decide +kernel) (Or.inl ⟨by rfl, ?_⟩) ?_
         rotate_left
         focus
           intro w' hb'
           go_simp
           with_reducible rfl
         simp only [Act.put, List.setIfInBounds_toArray, List.set_cons_zero, List.set_cons_succ])
      | (refine SeqS.take2 (v := ?_) (by first | assumption | trivial) (by kernel_rfl) (by decide +kernel) (by decide +kernel) (Or.inl ⟨by rfl, ?_⟩) ?_
         rotate_left
         focus
           intro w' hb'
           have d0 := hb'
           go_simp
           with_reducible rfl
         simp only [Act.put, List.setIfInBounds_toArray, List.set_cons_zero, List.set_cons_succ])
      | (refine SeqS.take2 (v := undef) (by first | assumption | trivial) (by kernel_rfl) (by decide +kernel) (by decide +kernel) (Or.inr ⟨by rfl, rfl⟩) ?_
         simp only [Act.put, List.setIfInBounds_toArray, List.set_cons_zero, List.set_cons_succ]))
    refine SeqS.alone (by decide +kernel) (by rfl) (fun K hK => ?_)
    go_simp
    go_at_call 32
    refine cN.mono ?_
    rintro q w2 ⟨rfl, rfl⟩
    go_simp
    refine hK _ _ S4 ?_
    clear hK K cN
    repeat (first
      | (refine SeqS.take (v := ?_) (by first | assumption | trivial) (by kernel_rfl) (by decide +kernel) (by decide +kernel) (Or.inl ⟨by rfl, ?_⟩) ?_
         rotate_left
         focus
           intro w' hb'
           go_simp
           with_reducible rfl
         simp only [Act.put, List.setIfInBounds_toArray, List.set_cons_zero, List.set_cons_succ])
      | (refine SeqS.take (v := ?_) (by first | assumption | trivial) (by kernel_rfl) (by decide +kernel) (by decide +kernel) (Or.inl ⟨by rfl, ?_⟩) ?_
         rotate_left
         focus
           intro w' hb'
           have d0 := hb'
           go_simp
           with_reducible rfl
         simp only [Act.put, List.setIfInBounds_toArray, List.set_cons_zero, List.set_cons_succ])
      | (refine SeqS.take (v := undef) (by first | assumption | trivial) (by kernel_rfl) (by decide +kernel) (by decide +kernel) (Or.inr ⟨by rfl, rfl⟩) ?_
         simp only [Act.put, List.setIfInBounds_toArray, List.set_cons_zero, List.set_cons_succ])
      | (refine SeqS.take1 (v := ?_) (by first | assumption | trivial) (by kernel_rfl) (by decide +kernel) (by decide +kernel) (Or.inl ⟨by rfl, ?_⟩) ?_
         rotate_left
         focus
           intro w' hb'
           go_simp
           with_reducible rfl
         simp only [Act.put, List.setIfInBounds_toArray, List.set_cons_zero, List.set_cons_succ])
      | (refine SeqS.take1 (v := ?_) (by first | assumption | trivial) (by kernel_rfl) (by decide +kernel) (by decide +kernel) (Or.inl ⟨by rfl, ?_⟩) ?_
         rotate_left
         focus
           intro w' hb'
           have d0 := hb'
           go_simp
           with_reducible rfl
         simp only [Act.put, List.setIfInBounds_toArray, List.set_cons_zero, List.set_cons_succ])
      | (refine SeqS.take1 (v := undef) (by first | assumption | trivial) (by kernel_rfl) (by decide +kernel) (by decide +kernel) (Or.inr ⟨by rfl, rfl⟩) ?_
         simp only [Act.put, List.setIfInBounds_toArray, List.set_cons_zero, List.set_cons_succ])
      | (refine SeqS.take2 (v := ?_) (by first | assumption | trivial) (by kernel_rfl) (by decide +kernel) (by decide +kernel) (Or.inl ⟨by rfl, ?_⟩) ?_
         rotate_left
         focus
           intro w' hb'
           go_simp
           with_reducible rfl
         simp only [Act.put, List.setIfInBounds_toArray, List.set_cons_zero, List.set_cons_succ])
      | (refine SeqS.take2 (v := ?_) (by first | assumption | trivial) (by kernel_rfl) (by decide +kernel) (by decide +kernel) (Or.inl ⟨by rfl, ?_⟩) ?_
         rotate_left
         focus
           intro w' hb'
           have d0 := hb'
           go_simp
           with_reducible rfl
         simp only [Act.put, List.setIfInBounds_toArray, List.set_cons_zero, List.set_cons_succ])
      | (refine SeqS.take2 (v := undef) (by first | assumption | trivial) (by kernel_rfl) (by decide +kernel) (by decide +kernel) (Or.inr ⟨by rfl, rfl⟩) ?_
         simp only [Act.put, List.setIfInBounds_toArray, List.set_cons_zero, List.set_cons_succ]))
    refine SeqS.alone (by decide +kernel) (by rfl) (fun K hK => ?_)
    go_simp
    go_at_call 41
    refine cM.mono ?_
    rintro q w3 ⟨p3, e3, rfl, o3, b3⟩
    have B3 := b4.trans (b3.mono b4.size)
    have cA3 := cA.out w3 B3 p3 e3 (own_ints' o3)
    have S3 := KC.out w3 B3
    go_simp
    refine hK _ _ S3 ?_
    clear hK K cM cA S4 o3 b3
    repeat (first
      | (refine SeqS.take (v := ?_) (by first | assumption | trivial) (by kernel_rfl) (by decide +kernel) (by decide +kernel) (Or.inl ⟨by rfl, ?_⟩) ?_
         rotate_left
         focus
           intro w' hb'
           go_simp
           with_reducible rfl
         simp only [Act.put, List.setIfInBounds_toArray, List.set_cons_zero, List.set_cons_succ])
      | (refine SeqS.take (v := ?_) (by first | assumption | trivial) (by kernel_rfl) (by decide +kernel) (by decide +kernel) (Or.inl ⟨by rfl, ?_⟩) ?_
         rotate_left
         focus
           intro w' hb'
           have d0 := hb'
           go_simp
           with_reducible rfl
         simp only [Act.put, List.setIfInBounds_toArray, List.set_cons_zero, List.set_cons_succ])
      | (refine SeqS.take (v := undef) (by first | assumption | trivial) (by kernel_rfl) (by decide +kernel) (by decide +kernel) (Or.inr ⟨by rfl, rfl⟩) ?_
         simp only [Act.put, List.setIfInBounds_toArray, List.set_cons_zero, List.set_cons_succ])
      | (refine SeqS.take1 (v := ?_) (by first | assumption | trivial) (by kernel_rfl) (by decide +kernel) (by decide +kernel) (Or.inl ⟨by rfl, ?_⟩) ?_
         rotate_left
         focus
           intro w' hb'
           go_simp
           with_reducible rfl
         simp only [Act.put, List.setIfInBounds_toArray, List.set_cons_zero, List.set_cons_succ])
      | (refine SeqS.take1 (v := ?_) (by first | assumption | trivial) (by kernel_rfl) (by decide +kernel) (by decide +kernel) (Or.inl ⟨by rfl, ?_⟩) ?_
         rotate_left
         focus
           intro w' hb'
           have d0 := hb'
           go_simp
           with_reducible rfl
         simp only [Act.put, List.setIfInBounds_toArray, List.set_cons_zero, List.set_cons_succ])
      | (refine SeqS.take1 (v := undef) (by first | assumption | trivial) (by kernel_rfl) (by decide +kernel) (by decide +kernel) (Or.inr ⟨by rfl, rfl⟩) ?_
         simp only [Act.put, List.setIfInBounds_toArray, List.set_cons_zero, List.set_cons_succ])
      | (refine SeqS.take2 (v := ?_) (by first | assumption | trivial) (by kernel_rfl) (by decide +kernel) (by decide +kernel) (Or.inl ⟨by rfl, ?_⟩) ?_
         rotate_left
         focus
           intro w' hb'
           go_simp
           with_reducible rfl
         simp only [Act.put, List.setIfInBounds_toArray, List.set_cons_zero, List.set_cons_succ])
      | (refine SeqS.take2 (v := ?_) (by first | assumption | trivial) (by kernel_rfl) (by decide +kernel) (by decide +kernel) (Or.inl ⟨by rfl, ?_⟩) ?_
         rotate_left
         focus
           intro w' hb'
           have d0 := hb'
           go_simp
           with_reducible rfl
         simp only [Act.put, List.setIfInBounds_toArray, List.set_cons_zero, List.set_cons_succ])
      | (refine SeqS.take2 (v := undef) (by first | assumption | trivial) (by kernel_rfl) (by decide +kernel) (by decide +kernel) (Or.inr ⟨by rfl, rfl⟩) ?_
         simp only [Act.put, List.setIfInBounds_toArray, List.set_cons_zero, List.set_cons_succ]))
    refine SeqS.alone (by decide +kernel) (by rfl) (fun K hK => ?_)
    go_simp
    go_at_call 40
    refine cA3.mono ?_
    rintro q w4 ⟨rfl, h4, s4, z4⟩
    have S5 : w4.cell? ⟨vo, 0, none⟩ = some (.pointer (some ⟨ro, 0, none⟩)) := by
      have := s4 vo voE.out
      unfold World.cell? at S3 ⊢
      rw [this]
      exact S3
    go_simp
    refine hK _ _ S5 ?_
    clear hK K cA3 S3
    repeat (first
      | (refine SeqS.take (v := ?_) (by first | assumption | trivial) (by kernel_rfl) (by decide +kernel) (by decide +kernel) (Or.inl ⟨by rfl, ?_⟩) ?_
         rotate_left
         focus
           intro w' hb'
           go_simp
           with_reducible rfl
         simp only [Act.put, List.setIfInBounds_toArray, List.set_cons_zero, List.set_cons_succ])
      | (refine SeqS.take (v := undef) (by first | assumption | trivial) (by kernel_rfl) (by decide +kernel) (by decide +kernel) (Or.inr ⟨by rfl, rfl⟩) ?_
         simp only [Act.put, List.setIfInBounds_toArray, List.set_cons_zero, List.set_cons_succ])
      | (refine SeqS.take1 (v := ?_) (by first | assumption | trivial) (by kernel_rfl) (by decide +kernel) (by decide +kernel) (Or.inl ⟨by rfl, ?_⟩) ?_
         rotate_left
         focus
           intro w' hb'
           go_simp
           with_reducible rfl
         simp only [Act.put, List.setIfInBounds_toArray, List.set_cons_zero, List.set_cons_succ])
      | (refine SeqS.take1 (v := undef) (by first | assumption | trivial) (by kernel_rfl) (by decide +kernel) (by decide +kernel) (Or.inr ⟨by rfl, rfl⟩) ?_
         simp only [Act.put, List.setIfInBounds_toArray, List.set_cons_zero, List.set_cons_succ])
      | (refine SeqS.take2 (v := ?_) (by first | assumption | trivial) (by kernel_rfl) (by decide +kernel) (by decide +kernel) (Or.inl ⟨by rfl, ?_⟩) ?_
         rotate_left
         focus
           intro w' hb'
           go_simp
           with_reducible rfl
         simp only [Act.put, List.setIfInBounds_toArray, List.set_cons_zero, List.set_cons_succ])
      | (refine SeqS.take2 (v := undef) (by first | assumption | trivial) (by kernel_rfl) (by decide +kernel) (by decide +kernel) (Or.inr ⟨by rfl, rfl⟩) ?_
         simp only [Act.put, List.setIfInBounds_toArray, List.set_cons_zero, List.set_cons_succ]))
    refine SeqS.done (by decide +kernel) ?_
    have z4 := Nat.le_trans B3.size z4
    have sE : SameE E w w4 := fun b hb => (s4 b hb).trans (sB.out w3 B3 b hb)
    clear s4 B3 S5 c0 c3
    have I4 := IH.out w4 h4 sE
    have V4 := VH.out w4 sE
    have lo4 := HH.out.low h4
    have cC := pClone_any a n c x w4 I4 (by have := lH.out; omega)
    have le4 := z4
    have h4H := Lib.hid h4
    have V4H := Lib.hid V4
    have lo4H := Lib.hid lo4
    have sEH := Lib.hid sE
    have le4H := Lib.hid le4
    clear h4 I4 V4 lo4 sE le4 z4 IH VH
    go_wp2_with fail
    refine cC.mono ?_
    rintro q w5 ⟨p5, d5, rfl, o5, b5⟩
    have V5 : VaIn (fun b => V b ∨ (w4.heap.size ≤ b ∧ b < w5.heap.size)) B w5 vo ro so fb g rv v := V4H.out.same (fun b _ hl => b5.block b hl) (fun _ h => .inl h)
    have E5 : ElemV (fun b => V b ∨ (w4.heap.size ≤ b ∧ b < w5.heap.size)) w5 p5 n d5 x := ElemV.of_owns o5 (fun b h1 h2 => .inr ⟨h1, h2⟩)
    have cD := vaAdd_any V5 (Nat.le_trans lo4H.out.2.1 b5.size) E5 lH.out.2 nH.out
    have h5 := HH.out.keepE (E' := fun b => E b ∨ (w4.heap.size ≤ b ∧ b < w5.heap.size)) h4H.out b5 (fun b hb => hb)
    have b5H := Lib.hid b5
    have h5H := Lib.hid h5
    clear cC o5 b5 V5 E5 h5
    go_wp2_with fail
    refine cD.mono ?_
    rintro q w6 ⟨rfl, rv6, V6, m6⟩
    have b5 := b5H.out
    have hEN := HH.out.movedE (E' := fun b => E b ∨ (w4.heap.size ≤ b ∧ b < w6.heap.size)) h5H.out m6 (fun b hb => ⟨hb.1.imp (vE.out b) id, hb.2⟩) (fun b hb => by
      rcases hb with hb | hb
      · exact .inl (.inl hb)
      · rcases Nat.lt_or_ge b w5.heap.size with hl | hl
        · exact .inl (.inr ⟨hb.1, hl⟩)
        · exact .inr ⟨hl, hb.2⟩)
    have hVN : VaIn (fun b => V b ∨ (w4.heap.size ≤ b ∧ b < w6.heap.size)) B w6 vo ro so fb g rv6 { v with last := v.last + 1, after := v.after ++ [x] } := V6.same (fun _ _ _ => rfl) (fun b hb => by
      rcases hb with (hb | hb) | hb
      · exact .inl hb
      · exact .inr ⟨hb.1, Nat.lt_of_lt_of_le hb.2 m6.size⟩
      · exact .inr ⟨Nat.le_trans b5.size hb.1, hb.2⟩)
    have hfr : ∀ b, E b → ¬ V b → w6.heap[b]? = w.heap[b]? := fun b hb hv => by
      have hb4 := lo4H.out.2.2 b hb
      refine ((m6.2 b (Nat.lt_of_lt_of_le hb4 b5.size) (fun hf => ?_)).trans (b5.block b hb4)).trans (sEH.out b hb)
      rcases hf.1 with hf | hf
      · exact hv hf
      · exact absurd hb4 (Nat.not_lt.2 hf.1)
    have fin := Lib.hid (show VaTo Hs E V B w w6 vo ro so fb g D1 _ from ⟨_, rv6, fun b hb => Nat.le_trans le4H.out hb.1, hEN, hVN, Nat.le_trans le4H.out (Nat.le_trans b5.size m6.size), hfr⟩)
    clear cD V6 m6 b5 hEN hVN hfr
    go_wp2
    go_ret
    exact ⟨rfl, fin.out⟩

set_option maxRecDepth 100000 in
set_option maxHeartbeats 4000000 in
theorem vaCompact_any (H : Host Hs B w0 g) (h : Hs E w D) (hV : VaIn V B w vo ro so fb g rv v) (hVE : ∀ b, V b → E b) (hO : D.Ok T) (hT : T < 4398046511000) (hD : D.By) (hk : VtOk D v) (hG : Glob22 o w0) (hB : w0.heap.size ≤ B) (hI : Ints .u8 w a n c x) (hx : ∀ y ∈ x, isByte y) (he : coV D v x = (D', v', e)) :
    Calls Tryz.prog 14 #[.pointer (some ⟨vo, 0, none⟩), .slice a n c] w fun q w' => q = .returned (.int .i64 e) ∧ VaTo Hs E V B w w' vo ro so fb g D' v' := by
  have hu := vaUnmade_any hV.c0
  have c1 := hV.c1
  have c3 := hV.c3
  have hl := hI.len
  unfold coV at he
  by_cases hA : 60000 < x.length
  · have hst := vaTo_stay H h (fun _ _ => rfl) (Nat.le_refl _) hV hVE
    rw [if_pos hA] at he
    injection he with h1 he
    injection he with h2 h3
    subst h1; subst h2; subst h3
    have hstH := Lib.hid hst
    have h2i : (60000 : Int) < (n : Int) := by omega
    clear H h hV hVE hO hT hD hk hG hB hI hx hA hl hst
    go_enter Tryz.func14, Tryz.ntmps14
    go_wp2_with fail
    refine hu.mono ?_
    rintro q w1 ⟨rfl, rfl⟩
    clear hu
    go_wp2
    go_ret
    exact ⟨rfl, hstH.out⟩
  rw [if_neg hA] at he
  have h2i : ¬ (60000 : Int) < (n : Int) := by omega
  have b4 : Below w.heap.size w w.drew := (Below.refl _ _).drew
  obtain ⟨X, hX⟩ : ∃ X, v.snap x = X := ⟨_, rfl⟩
  have hXl := vsnap_len v x
  have hXb := vsnap_by v hx
  have hok1 := ptS_ok hO v.s X
  rw [hX] at he hXl hXb
  obtain ⟨D1, s1, e1, hp1⟩ : ∃ D1 s1 e1, ptS D v.s X = (D1, s1, e1) := ⟨_, _, _, rfl⟩
  have hse := pt_err_s (D := D) (s := v.s) (x := X)
  have hso := pt_ok_s (D := D) (s := v.s) (x := X)
  rw [hp1] at he hok1 hse hso
  dsimp only at he hok1 hse hso
  obtain ⟨va1, va2⟩ := hk.ab
  have cM := vaNumbered_any v.last a n c x w.drew hk.l (hI.keep b4) (by omega) (X := X) hX
  have hvs : ∀ w', Below w.heap.size w w' → SlotAt w' so g fb v.s.a v.s.b v.s.now := fun w' q => by
    have := (hV.keep q).s
    rw [va1, va2]
    exact this
  have cA := Lib.hid (fun w' (q : Below w.heap.size w w') (p : Option Addr) (d : Nat) (I : Ints .u8 w' p (8 + n) d X) (hp : ∀ y, p = some y → 0 < 8 + n → w.heap.size ≤ y.block ∧ y.block < w'.heap.size) => h_slput H (H.keepE (E' := fun b => E b ∨ (w.heap.size ≤ b ∧ b < w'.heap.size)) h q (fun b hb => hb)) (hvs w' q) ⟨.inl (hVE so hV.vs.1), .inl (hVE fb hV.vs.2.1)⟩ hV.vs.2.2.1 hV.vs.2.2.2 hO (by omega) hD hk.s hk.c hG.h hB I (fun y hy h0 => .inr (.inr (hp y hy h0))) hXb hp1)
  have S4 : w.drew.cell? ⟨vo, 1, none⟩ = some (.pointer (some ⟨so, 0, none⟩)) ∧ w.drew.cell? ⟨vo, 3, none⟩ = some (.int .u64 v.last) := ⟨(hV.keep b4).c1, (hV.keep b4).c3⟩
  have KC := Lib.hid (fun w' (q : Below w.heap.size w w') => show w'.cell? ⟨vo, 1, none⟩ = some (.pointer (some ⟨so, 0, none⟩)) ∧ w'.cell? ⟨vo, 3, none⟩ = some (.int .u64 v.last) from ⟨(hV.keep q).c1, (hV.keep q).c3⟩)
  have hne : vo ≠ so := fun e => by
    subst e
    have h1 := hV.o
    have h2 := hV.s.s
    unfold Blk at h1 h2
    rw [h1] at h2
    injection h2 with h2
    injection h2 with _ h2 _
    exact absurd h2 (by decide)
  have voE := Lib.hid (show E vo ∧ vo ≠ so from ⟨hVE vo hV.vo.1, hne⟩)
  have sB := Lib.hid (fun w' (q : Below w.heap.size w w') => H.same h q)
  have hne2 : ∀ b t cs, Blk w b t cs → t ≠ 166 → b ≠ so := fun b t cs h1 ht e => by
    subst e
    have h2 := hV.s.s
    unfold Blk at h1 h2
    rw [h1] at h2
    injection h2 with h2
    injection h2 with _ h2 _
    exact ht h2
  have rowne : ∀ b, rv.ownBlock = some b → b ≠ so := fun b hb e => by
    subst e
    have h2 := hV.s.s
    obtain ⟨SL, ho, _⟩ := hV.p
    rcases ho.2 with ⟨hv, _⟩ | ⟨g2, cap, cur, hv, _, hg, _⟩
    · rw [hv] at hb; cases hb
    · rw [hv] at hb
      injection hb with hb
      have hb : g2 = b := hb
      subst hb
      unfold Blk at h2
      rw [hg] at h2
      injection h2 with h2
      injection h2 with _ h2 _
      exact absurd h2 (by decide)
  -- the vault's other parts, behind a call that writes so alone
  have VR := Lib.hid (fun (w' : World) (s : ∀ b, E b → b ≠ so → w'.heap[b]? = w.heap[b]?) => show RollAt w' ro g 0 ∧ Blk w' vo 80 (vaC ro so rv v.last) ∧ RowV V B w' rv v.after from
    ⟨(s ro (hVE ro hV.vr) (hne2 ro _ _ hV.r (by decide))).trans hV.r, (s vo (hVE vo hV.vo.1) hne).trans hV.o, by
      obtain ⟨SL, ho, hr, hxx⟩ := hV.p
      refine ⟨SL, own_same ho (fun b hb => s b (hVE b (hr b hb)) (rowne b hb)), hr, fun i hi => ?_⟩
      obtain ⟨a', n', c', j1, j2⟩ := hxx i hi
      exact ⟨a', n', c', j1, j2.same (fun b hb ⟨cur, hc⟩ => s b (hVE b hb) (hne2 b 5 cur.toList (show w.heap[b]? = some (.cells cur.toList.toArray 5 (0, 0)) by simpa using hc) (by decide))) (fun _ h => h)⟩⟩)
  have vF := Lib.hid (show (V vo ∧ B ≤ vo) ∧ V ro ∧ V so ∧ V fb ∧ so ≠ fb ∧ B ≤ so from ⟨hV.vo, hV.vr, hV.vs⟩)
  have HH := Lib.hid H
  have vE := Lib.hid hVE
  by_cases h1 : e1 = 0
  case neg =>
    rw [if_pos h1] at he
    injection he with k1 he
    injection he with k2 k3
    subst k1; subst k2; subst k3
    have hs1 := hse h1
    subst hs1
    clear H h hV hVE hO hT hD hk hG hB hI hx hA hl hX hXl hXb hp1 hok1 hse hso hvs hne hne2 rowne
    go_enter Tryz.func14, Tryz.ntmps14
    go_wp2_with fail
    refine hu.mono ?_
    rintro q w1 ⟨rfl, rfl⟩
    clear hu
    go_wp2_with fail
    refine region_seqS (fun w' => w'.cell? ⟨vo, 1, none⟩ = some (.pointer (some ⟨so, 0, none⟩)) ∧ w'.cell? ⟨vo, 3, none⟩ = some (.int .u64 v.last)) (by kernel_rfl) S4 ?_
    simp only [pairs, Nat.reduceAdd]
    repeat (first
      | (refine SeqS.take (v := ?_) (by first | assumption | trivial) (by kernel_rfl) (by decide +kernel) (by decide +kernel) (Or.inl ⟨by rfl, ?_⟩) ?_
         rotate_left
         focus
           intro w' hb'
           go_simp
           with_reducible rfl
         simp only [Act.put, List.setIfInBounds_toArray, List.set_cons_zero, List.set_cons_succ])
      | (refine SeqS.take (v := ?_) (by first | assumption | trivial) (by kernel_rfl) (by decide +kernel) (by decide +kernel) (Or.inl ⟨by rfl, ?_⟩) ?_
         rotate_left
         focus
           intro w' hb'
           have d0 := hb'.1
           go_simp
           with_reducible rfl
         simp only [Act.put, List.setIfInBounds_toArray, List.set_cons_zero, List.set_cons_succ])
      | (refine SeqS.take (v := ?_) (by first | assumption | trivial) (by kernel_rfl) (by decide +kernel) (by decide +kernel) (Or.inl ⟨by rfl, ?_⟩) ?_
         rotate_left
         focus
           intro w' hb'
           have d0 := hb'.2
           go_simp
           with_reducible rfl
         simp only [Act.put, List.setIfInBounds_toArray, List.set_cons_zero, List.set_cons_succ])
      | (refine SeqS.take (v := undef) (by first | assumption | trivial) (by kernel_rfl) (by decide +kernel) (by decide +kernel) (Or.inr ⟨by rfl, rfl⟩) ?_
         simp only [Act.put, List.setIfInBounds_toArray, List.set_cons_zero, List.set_cons_succ])
      | (refine SeqS.take1 (v := ?_) (by first | assumption | trivial) (by kernel_rfl) (by decide +kernel) (by decide +kernel) (Or.inl ⟨by rfl, ?_⟩) ?_
         rotate_left
         focus
           intro w' hb'
           go_simp
           with_reducible rfl
         simp only [Act.put, List.setIfInBounds_toArray, List.set_cons_zero, List.set_cons_succ])
      | (refine SeqS.take1 (v := ?_) (by first | assumption | trivial) (by kernel_rfl) (by decide +kernel) (by decide +kernel) (Or.inl ⟨by rfl, ?_⟩) ?_
         rotate_left
         focus
           intro w' hb'
           have d0 := hb'.1
           go_simp
           with_reducible rfl
         simp only [Act.put, List.setIfInBounds_toArray, List.set_cons_zero, List.set_cons_succ])
      | (refine SeqS.take1 (v := ?_) (by first | assumption | trivial) (by kernel_rfl) (by decide +kernel) (by decide +kernel) (Or.inl ⟨by rfl, ?_⟩) ?_
         rotate_left
         focus
           intro w' hb'
           have d0 := hb'.2
           go_simp
           with_reducible rfl
         simp only [Act.put, List.setIfInBounds_toArray, List.set_cons_zero, List.set_cons_succ])
      | (refine SeqS.take1 (v := undef) (by first | assumption | trivial) (by kernel_rfl) (by decide +kernel) (by decide +kernel) (Or.inr ⟨by rfl, rfl⟩) ?_
         simp only [Act.put, List.setIfInBounds_toArray, List.set_cons_zero, List.set_cons_succ])
      | (refine SeqS.take2 (v := ?_) (by first | assumption | trivial) (by kernel_rfl) (by decide +kernel) (by decide +kernel) (Or.inl ⟨by rfl, ?_⟩) ?_
         rotate_left
         focus
           intro w' hb'
           go_simp
           with_reducible rfl
         simp only [Act.put, List.setIfInBounds_toArray, List.set_cons_zero, List.set_cons_succ])
      | (refine SeqS.take2 (v := ?_) (by first | assumption | trivial) (by kernel_rfl) (by decide +kernel) (by decide +kernel) (Or.inl ⟨by rfl, ?_⟩) ?_
         rotate_left
         focus
           intro w' hb'
           have d0 := hb'.1
           go_simp
           with_reducible rfl
         simp only [Act.put, List.setIfInBounds_toArray, List.set_cons_zero, List.set_cons_succ])
      | (refine SeqS.take2 (v := ?_) (by first | assumption | trivial) (by kernel_rfl) (by decide +kernel) (by decide +kernel) (Or.inl ⟨by rfl, ?_⟩) ?_
         rotate_left
         focus
           intro w' hb'
           have d0 := hb'.2
           go_simp
           with_reducible rfl
         simp only [Act.put, List.setIfInBounds_toArray, List.set_cons_zero, List.set_cons_succ])
      | (refine SeqS.take2 (v := undef) (by first | assumption | trivial) (by kernel_rfl) (by decide +kernel) (by decide +kernel) (Or.inr ⟨by rfl, rfl⟩) ?_
         simp only [Act.put, List.setIfInBounds_toArray, List.set_cons_zero, List.set_cons_succ]))
    refine SeqS.alone (by decide +kernel) (by rfl) (fun K hK => ?_)
    go_simp
    go_at_call 41
    refine cM.mono ?_
    rintro q w3 ⟨p3, e3, rfl, o3, b3⟩
    have B3 := b4.trans (b3.mono b4.size)
    have cA3 := cA.out w3 B3 p3 e3 (own_ints' o3) (fun y hy h0 => by
      rcases o3.2 with ⟨e, _⟩ | ⟨g2, cap, cur, e, hl, hg, _⟩
      · injection e with _ e _; omega
      · injection e with e _ _
        rw [hy] at e
        injection e with e
        rw [e]
        refine ⟨Nat.le_trans b4.size hl, ?_⟩
        rcases Nat.lt_or_ge g2 w3.heap.size with h | h
        · exact h
        · rw [Array.getElem?_eq_none h] at hg; cases hg)
    have S3 := KC.out w3 B3
    go_simp
    refine hK _ _ S3 ?_
    clear hK K cM cA S4 o3 b3
    repeat (first
      | (refine SeqS.take (v := ?_) (by first | assumption | trivial) (by kernel_rfl) (by decide +kernel) (by decide +kernel) (Or.inl ⟨by rfl, ?_⟩) ?_
         rotate_left
         focus
           intro w' hb'
           go_simp
           with_reducible rfl
         simp only [Act.put, List.setIfInBounds_toArray, List.set_cons_zero, List.set_cons_succ])
      | (refine SeqS.take (v := undef) (by first | assumption | trivial) (by kernel_rfl) (by decide +kernel) (by decide +kernel) (Or.inr ⟨by rfl, rfl⟩) ?_
         simp only [Act.put, List.setIfInBounds_toArray, List.set_cons_zero, List.set_cons_succ])
      | (refine SeqS.take1 (v := ?_) (by first | assumption | trivial) (by kernel_rfl) (by decide +kernel) (by decide +kernel) (Or.inl ⟨by rfl, ?_⟩) ?_
         rotate_left
         focus
           intro w' hb'
           go_simp
           with_reducible rfl
         simp only [Act.put, List.setIfInBounds_toArray, List.set_cons_zero, List.set_cons_succ])
      | (refine SeqS.take1 (v := undef) (by first | assumption | trivial) (by kernel_rfl) (by decide +kernel) (by decide +kernel) (Or.inr ⟨by rfl, rfl⟩) ?_
         simp only [Act.put, List.setIfInBounds_toArray, List.set_cons_zero, List.set_cons_succ])
      | (refine SeqS.take2 (v := ?_) (by first | assumption | trivial) (by kernel_rfl) (by decide +kernel) (by decide +kernel) (Or.inl ⟨by rfl, ?_⟩) ?_
         rotate_left
         focus
           intro w' hb'
           go_simp
           with_reducible rfl
         simp only [Act.put, List.setIfInBounds_toArray, List.set_cons_zero, List.set_cons_succ])
      | (refine SeqS.take2 (v := undef) (by first | assumption | trivial) (by kernel_rfl) (by decide +kernel) (by decide +kernel) (Or.inr ⟨by rfl, rfl⟩) ?_
         simp only [Act.put, List.setIfInBounds_toArray, List.set_cons_zero, List.set_cons_succ]))
    refine SeqS.alone (by decide +kernel) (by rfl) (fun K hK => ?_)
    go_simp
    go_at_call 45
    refine cA3.mono ?_
    rintro q w4 ⟨rfl, h4, t4, z4, s4⟩
    have S5 : w4.cell? ⟨vo, 1, none⟩ = some (.pointer (some ⟨so, 0, none⟩)) ∧ w4.cell? ⟨vo, 3, none⟩ = some (.int .u64 v.last) := by
      have := s4 vo (.inl voE.out.1) voE.out.2
      unfold World.cell? at S3 ⊢
      rw [this]
      exact S3
    go_simp
    refine hK _ _ S5 ?_
    clear hK K cA3 S3
    repeat (first
      | (refine SeqS.take (v := ?_) (by first | assumption | trivial) (by kernel_rfl) (by decide +kernel) (by decide +kernel) (Or.inl ⟨by rfl, ?_⟩) ?_
         rotate_left
         focus
           intro w' hb'
           go_simp
           with_reducible rfl
         simp only [Act.put, List.setIfInBounds_toArray, List.set_cons_zero, List.set_cons_succ])
      | (refine SeqS.take (v := undef) (by first | assumption | trivial) (by kernel_rfl) (by decide +kernel) (by decide +kernel) (Or.inr ⟨by rfl, rfl⟩) ?_
         simp only [Act.put, List.setIfInBounds_toArray, List.set_cons_zero, List.set_cons_succ])
      | (refine SeqS.take1 (v := ?_) (by first | assumption | trivial) (by kernel_rfl) (by decide +kernel) (by decide +kernel) (Or.inl ⟨by rfl, ?_⟩) ?_
         rotate_left
         focus
           intro w' hb'
           go_simp
           with_reducible rfl
         simp only [Act.put, List.setIfInBounds_toArray, List.set_cons_zero, List.set_cons_succ])
      | (refine SeqS.take1 (v := undef) (by first | assumption | trivial) (by kernel_rfl) (by decide +kernel) (by decide +kernel) (Or.inr ⟨by rfl, rfl⟩) ?_
         simp only [Act.put, List.setIfInBounds_toArray, List.set_cons_zero, List.set_cons_succ])
      | (refine SeqS.take2 (v := ?_) (by first | assumption | trivial) (by kernel_rfl) (by decide +kernel) (by decide +kernel) (Or.inl ⟨by rfl, ?_⟩) ?_
         rotate_left
         focus
           intro w' hb'
           go_simp
           with_reducible rfl
         simp only [Act.put, List.setIfInBounds_toArray, List.set_cons_zero, List.set_cons_succ])
      | (refine SeqS.take2 (v := undef) (by first | assumption | trivial) (by kernel_rfl) (by decide +kernel) (by decide +kernel) (Or.inr ⟨by rfl, rfl⟩) ?_
         simp only [Act.put, List.setIfInBounds_toArray, List.set_cons_zero, List.set_cons_succ]))
    refine SeqS.done (by decide +kernel) ?_
    have z4 := Nat.le_trans B3.size z4
    have sE : ∀ b, E b → b ≠ so → w4.heap[b]? = w.heap[b]? := fun b hb hn => (s4 b (.inl hb) hn).trans (sB.out w3 B3 b hb)
    clear s4 B3 S5 c1 c3
    have h4' := HH.out.less (E' := fun b => E b ∨ False) h4 (fun b hb => .inl (hb.elim id False.elim))
    obtain ⟨r1, r2, r3⟩ := VR.out w4 sE
    rw [va1, va2] at t4
    have fin := Lib.hid (show VaTo Hs E V B w w4 vo ro so fb g D1 v from ⟨fun _ => False, rv, fun _ h => h.elim, h4', ⟨r2, r1, t4, r3.same (fun _ _ _ => rfl) (fun _ h => .inl h), ⟨.inl vF.out.1.1, vF.out.1.2⟩, .inl vF.out.2.1, .inl vF.out.2.2.1, .inl vF.out.2.2.2.1, vF.out.2.2.2.2⟩, z4, fun b hb hn => sE b hb (fun e => hn (e ▸ vF.out.2.2.1))⟩)
    clear h4 h4' r1 r2 r3 t4 sE z4 VR vF
    go_wp2
    go_ret
    exact ⟨rfl, fin.out⟩
  case pos =>
    subst h1
    rw [if_neg (by decide)] at he
    obtain ⟨D2, e2, hke⟩ : ∃ D2 e2, keD D1 0 0 = (D2, e2) := ⟨_, _, rfl⟩
    rw [hke] at he
    injection he with k1 he
    injection he with k2 k3
    subst k1; subst k2; subst k3
    have hs1 := hso rfl
    have sab : s1.a = 1 ∧ s1.b = 2 := by rw [hs1]; exact ⟨va1, va2⟩
    have cK := Lib.hid (fun (E' : Nat → Prop) (w' : World) (h' : Hs E' w' D1) (r' : RollAt w' ro g 0) (hr : E' ro) => h_clear HH.out h' r' hr hok1 (by omega) hke)
    have soT := Lib.hid (show 80 ≠ 166 ∧ 80 ≠ 157 from ⟨by decide, by decide⟩)
    clear H h hV hVE hO hT hD hk hG hB hI hx hA hl hX hXl hXb hp1 hok1 hse hso hvs hne hne2 rowne hke hs1
    go_enter Tryz.func14, Tryz.ntmps14
    go_wp2_with fail
    refine hu.mono ?_
    rintro q w1 ⟨rfl, rfl⟩
    clear hu
    go_wp2_with fail
    refine region_seqS (fun w' => w'.cell? ⟨vo, 1, none⟩ = some (.pointer (some ⟨so, 0, none⟩)) ∧ w'.cell? ⟨vo, 3, none⟩ = some (.int .u64 v.last)) (by kernel_rfl) S4 ?_
    simp only [pairs, Nat.reduceAdd]
    repeat (first
      | (refine SeqS.take (v := ?_) (by first | assumption | trivial) (by kernel_rfl) (by decide +kernel) (by decide +kernel) (Or.inl ⟨by rfl, ?_⟩) ?_
         rotate_left
         focus
           intro w' hb'
           go_simp
           with_reducible rfl
         simp only [Act.put, List.setIfInBounds_toArray, List.set_cons_zero, List.set_cons_succ])
      | (refine SeqS.take (v := ?_) (by first | assumption | trivial) (by kernel_rfl) (by decide +kernel) (by decide +kernel) (Or.inl ⟨by rfl, ?_⟩) ?_
         rotate_left
         focus
           intro w' hb'
           have d0 := hb'.1
           go_simp
           with_reducible rfl
         simp only [Act.put, List.setIfInBounds_toArray, List.set_cons_zero, List.set_cons_succ])
      | (refine SeqS.take (v := ?_) (by first | assumption | trivial) (by kernel_rfl) (by decide +kernel) (by decide +kernel) (Or.inl ⟨by rfl, ?_⟩) ?_
         rotate_left
         focus
           intro w' hb'
           have d0 := hb'.2
           go_simp
           with_reducible rfl
         simp only [Act.put, List.setIfInBounds_toArray, List.set_cons_zero, List.set_cons_succ])
      | (refine SeqS.take (v := undef) (by first | assumption | trivial) (by kernel_rfl) (by decide +kernel) (by decide +kernel) (Or.inr ⟨by rfl, rfl⟩) ?_
         simp only [Act.put, List.setIfInBounds_toArray, List.set_cons_zero, List.set_cons_succ])
      | (refine SeqS.take1 (v := ?_) (by first | assumption | trivial) (by kernel_rfl) (by decide +kernel) (by decide +kernel) (Or.inl ⟨by rfl, ?_⟩) ?_
         rotate_left
         focus
           intro w' hb'
           go_simp
           with_reducible rfl
         simp only [Act.put, List.setIfInBounds_toArray, List.set_cons_zero, List.set_cons_succ])
      | (refine SeqS.take1 (v := ?_) (by first | assumption | trivial) (by kernel_rfl) (by decide +kernel) (by decide +kernel) (Or.inl ⟨by rfl, ?_⟩) ?_
         rotate_left
         focus
           intro w' hb'
           have d0 := hb'.1
           go_simp
           with_reducible rfl
         simp only [Act.put, List.setIfInBounds_toArray, List.set_cons_zero, List.set_cons_succ])
      | (refine SeqS.take1 (v := ?_) (by first | assumption | trivial) (by kernel_rfl) (by decide +kernel) (by decide +kernel) (Or.inl ⟨by rfl, ?_⟩) ?_
         rotate_left
         focus
           intro w' hb'
           have d0 := hb'.2
           go_simp
           with_reducible rfl
         simp only [Act.put, List.setIfInBounds_toArray, List.set_cons_zero, List.set_cons_succ])
      | (refine SeqS.take1 (v := undef) (by first | assumption | trivial) (by kernel_rfl) (by decide +kernel) (by decide +kernel) (Or.inr ⟨by rfl, rfl⟩) ?_
         simp only [Act.put, List.setIfInBounds_toArray, List.set_cons_zero, List.set_cons_succ])
      | (refine SeqS.take2 (v := ?_) (by first | assumption | trivial) (by kernel_rfl) (by decide +kernel) (by decide +kernel) (Or.inl ⟨by rfl, ?_⟩) ?_
         rotate_left
         focus
           intro w' hb'
           go_simp
           with_reducible rfl
         simp only [Act.put, List.setIfInBounds_toArray, List.set_cons_zero, List.set_cons_succ])
      | (refine SeqS.take2 (v := ?_) (by first | assumption | trivial) (by kernel_rfl) (by decide +kernel) (by decide +kernel) (Or.inl ⟨by rfl, ?_⟩) ?_
         rotate_left
         focus
           intro w' hb'
           have d0 := hb'.1
           go_simp
           with_reducible rfl
         simp only [Act.put, List.setIfInBounds_toArray, List.set_cons_zero, List.set_cons_succ])
      | (refine SeqS.take2 (v := ?_) (by first | assumption | trivial) (by kernel_rfl) (by decide +kernel) (by decide +kernel) (Or.inl ⟨by rfl, ?_⟩) ?_
         rotate_left
         focus
           intro w' hb'
           have d0 := hb'.2
           go_simp
           with_reducible rfl
         simp only [Act.put, List.setIfInBounds_toArray, List.set_cons_zero, List.set_cons_succ])
      | (refine SeqS.take2 (v := undef) (by first | assumption | trivial) (by kernel_rfl) (by decide +kernel) (by decide +kernel) (Or.inr ⟨by rfl, rfl⟩) ?_
         simp only [Act.put, List.setIfInBounds_toArray, List.set_cons_zero, List.set_cons_succ]))
    refine SeqS.alone (by decide +kernel) (by rfl) (fun K hK => ?_)
    go_simp
    go_at_call 41
    refine cM.mono ?_
    rintro q w3 ⟨p3, e3, rfl, o3, b3⟩
    have B3 := b4.trans (b3.mono b4.size)
    have cA3 := cA.out w3 B3 p3 e3 (own_ints' o3) (fun y hy h0 => by
      rcases o3.2 with ⟨e, _⟩ | ⟨g2, cap, cur, e, hl, hg, _⟩
      · injection e with _ e _; omega
      · injection e with e _ _
        rw [hy] at e
        injection e with e
        rw [e]
        refine ⟨Nat.le_trans b4.size hl, ?_⟩
        rcases Nat.lt_or_ge g2 w3.heap.size with h | h
        · exact h
        · rw [Array.getElem?_eq_none h] at hg; cases hg)
    have S3 := KC.out w3 B3
    go_simp
    refine hK _ _ S3 ?_
    clear hK K cM cA S4 o3 b3
    repeat (first
      | (refine SeqS.take (v := ?_) (by first | assumption | trivial) (by kernel_rfl) (by decide +kernel) (by decide +kernel) (Or.inl ⟨by rfl, ?_⟩) ?_
         rotate_left
         focus
           intro w' hb'
           go_simp
           with_reducible rfl
         simp only [Act.put, List.setIfInBounds_toArray, List.set_cons_zero, List.set_cons_succ])
      | (refine SeqS.take (v := undef) (by first | assumption | trivial) (by kernel_rfl) (by decide +kernel) (by decide +kernel) (Or.inr ⟨by rfl, rfl⟩) ?_
         simp only [Act.put, List.setIfInBounds_toArray, List.set_cons_zero, List.set_cons_succ])
      | (refine SeqS.take1 (v := ?_) (by first | assumption | trivial) (by kernel_rfl) (by decide +kernel) (by decide +kernel) (Or.inl ⟨by rfl, ?_⟩) ?_
         rotate_left
         focus
           intro w' hb'
           go_simp
           with_reducible rfl
         simp only [Act.put, List.setIfInBounds_toArray, List.set_cons_zero, List.set_cons_succ])
      | (refine SeqS.take1 (v := undef) (by first | assumption | trivial) (by kernel_rfl) (by decide +kernel) (by decide +kernel) (Or.inr ⟨by rfl, rfl⟩) ?_
         simp only [Act.put, List.setIfInBounds_toArray, List.set_cons_zero, List.set_cons_succ])
      | (refine SeqS.take2 (v := ?_) (by first | assumption | trivial) (by kernel_rfl) (by decide +kernel) (by decide +kernel) (Or.inl ⟨by rfl, ?_⟩) ?_
         rotate_left
         focus
           intro w' hb'
           go_simp
           with_reducible rfl
         simp only [Act.put, List.setIfInBounds_toArray, List.set_cons_zero, List.set_cons_succ])
      | (refine SeqS.take2 (v := undef) (by first | assumption | trivial) (by kernel_rfl) (by decide +kernel) (by decide +kernel) (Or.inr ⟨by rfl, rfl⟩) ?_
         simp only [Act.put, List.setIfInBounds_toArray, List.set_cons_zero, List.set_cons_succ]))
    refine SeqS.alone (by decide +kernel) (by rfl) (fun K hK => ?_)
    go_simp
    go_at_call 45
    refine cA3.mono ?_
    rintro q w4 ⟨rfl, h4, t4, z4, s4⟩
    have S5 : w4.cell? ⟨vo, 1, none⟩ = some (.pointer (some ⟨so, 0, none⟩)) ∧ w4.cell? ⟨vo, 3, none⟩ = some (.int .u64 v.last) := by
      have := s4 vo (.inl voE.out.1) voE.out.2
      unfold World.cell? at S3 ⊢
      rw [this]
      exact S3
    go_simp
    refine hK _ _ S5 ?_
    clear hK K cA3 S3
    repeat (first
      | (refine SeqS.take (v := ?_) (by first | assumption | trivial) (by kernel_rfl) (by decide +kernel) (by decide +kernel) (Or.inl ⟨by rfl, ?_⟩) ?_
         rotate_left
         focus
           intro w' hb'
           go_simp
           with_reducible rfl
         simp only [Act.put, List.setIfInBounds_toArray, List.set_cons_zero, List.set_cons_succ])
      | (refine SeqS.take (v := undef) (by first | assumption | trivial) (by kernel_rfl) (by decide +kernel) (by decide +kernel) (Or.inr ⟨by rfl, rfl⟩) ?_
         simp only [Act.put, List.setIfInBounds_toArray, List.set_cons_zero, List.set_cons_succ])
      | (refine SeqS.take1 (v := ?_) (by first | assumption | trivial) (by kernel_rfl) (by decide +kernel) (by decide +kernel) (Or.inl ⟨by rfl, ?_⟩) ?_
         rotate_left
         focus
           intro w' hb'
           go_simp
           with_reducible rfl
         simp only [Act.put, List.setIfInBounds_toArray, List.set_cons_zero, List.set_cons_succ])
      | (refine SeqS.take1 (v := undef) (by first | assumption | trivial) (by kernel_rfl) (by decide +kernel) (by decide +kernel) (Or.inr ⟨by rfl, rfl⟩) ?_
         simp only [Act.put, List.setIfInBounds_toArray, List.set_cons_zero, List.set_cons_succ])
      | (refine SeqS.take2 (v := ?_) (by first | assumption | trivial) (by kernel_rfl) (by decide +kernel) (by decide +kernel) (Or.inl ⟨by rfl, ?_⟩) ?_
         rotate_left
         focus
           intro w' hb'
           go_simp
           with_reducible rfl
         simp only [Act.put, List.setIfInBounds_toArray, List.set_cons_zero, List.set_cons_succ])
      | (refine SeqS.take2 (v := undef) (by first | assumption | trivial) (by kernel_rfl) (by decide +kernel) (by decide +kernel) (Or.inr ⟨by rfl, rfl⟩) ?_
         simp only [Act.put, List.setIfInBounds_toArray, List.set_cons_zero, List.set_cons_succ]))
    refine SeqS.done (by decide +kernel) ?_
    have z4 := Nat.le_trans B3.size z4
    have sE : ∀ b, E b → b ≠ so → w4.heap[b]? = w.heap[b]? := fun b hb hn => (s4 b (.inl hb) hn).trans (sB.out w3 B3 b hb)
    clear s4 B3 S5 c1 c3
    obtain ⟨r1, r2, r3⟩ := VR.out w4 sE
    rw [sab.1, sab.2] at t4
    have f2 := r2.frozen 2
    have k2 : w4.cell? ⟨vo, 2, none⟩ = some rv := r2.cell 2
    have O5 : Blk (w4.setCell ⟨vo, 2, none⟩ (.slice none 0 0)) vo 80 (vaC ro so (.slice none 0 0) v.last) := r2.set 2 (.slice none 0 0)
    have ty5 : Typed 80 w4 (w4.setCell ⟨vo, 2, none⟩ (.slice none 0 0)) := typed_set r2
    have g5 := grown_setCell w4 vo 2 (.slice none 0 0)
    have h5 := HH.out.movedE (E' := E) h4 (moved_set (F := fun b => b = vo) rfl g5) (fun b hb => by subst hb; exact ⟨.inl (vE.out _ vF.out.1.1), vF.out.1.2⟩) (fun b hb => .inl (.inl hb))
    have R5 : RollAt (w4.setCell ⟨vo, 2, none⟩ (.slice none 0 0)) ro g 0 := ty5.blk r1 (by decide)
    have T5 := ty5.slot t4 (by decide) (by decide)
    have k0 : w4.cell? ⟨vo, 0, none⟩ = some (.pointer (some ⟨ro, 0, none⟩)) := r2.cell 0
    have k50 : (w4.setCell ⟨vo, 2, none⟩ (.slice none 0 0)).cell? ⟨vo, 0, none⟩ = some (.pointer (some ⟨ro, 0, none⟩)) := O5.cell 0
    have cK5 := cK.out E _ h5 R5 (vE.out _ vF.out.2.1)
    have s5 : ∀ b, E b → ¬ V b → (w4.setCell ⟨vo, 2, none⟩ (.slice none 0 0)).heap[b]? = w.heap[b]? := fun b hb hn => (g5.block b ((HH.out.low h4).2.2 b (.inl hb)) (fun e => by injection e with e; subst e; exact hn vF.out.1.1)).trans (sE b hb (fun e => hn (e ▸ vF.out.2.2.1)))
    have z5 := Nat.le_trans z4 g5.size
    have O5H := Lib.hid O5
    have T5H := Lib.hid T5
    have R5H := Lib.hid R5
    have s5H := Lib.hid s5
    have z5H := Lib.hid z5
    obtain ⟨W5, hW5⟩ : ∃ W, w4.setCell ⟨vo, 2, none⟩ (.slice none 0 0) = W := ⟨_, rfl⟩
    have hW5H := Lib.hid hW5
    rw [hW5] at O5H T5H R5H s5H z5H cK5
    clear O5 T5 R5 s5 z5 h4 h5 r1 r3 t4 sE z4 ty5 g5 cK VR k50 hW5
    go_wp2_with fail
    rw [hW5H.out]
    refine cK5.mono ?_
    rintro q w6 ⟨rfl, h6, s6, z6⟩
    have h6' := HH.out.less (E' := fun b => E b ∨ False) h6 (fun b hb => hb.elim id False.elim)
    have O6 := (s6 vo (vE.out _ vF.out.1.1)).trans O5H.out
    have R6 := (s6 ro (vE.out _ vF.out.2.1)).trans R5H.out
    have T6 := T5H.out.same (s6 so (vE.out _ vF.out.2.2.1)) (s6 fb (vE.out _ vF.out.2.2.2.1))
    have fin := Lib.hid (show VaTo Hs E V B w w6 vo ro so fb g D2 { v with s := s1, some := true, body := x, after := [] } from ⟨fun _ => False, .slice none 0 0, fun _ h => h.elim, h6', ⟨O6, R6, T6, RowV.nil _ _ _, ⟨.inl vF.out.1.1, vF.out.1.2⟩, .inl vF.out.2.1, .inl vF.out.2.2.1, .inl vF.out.2.2.2.1, vF.out.2.2.2.2⟩, Nat.le_trans z5H.out z6, fun b hb hn => (s6 b hb).trans (s5H.out b hb hn)⟩)
    clear h6 h6' O6 R6 T6 s6 z6 cK5
    go_wp2
    go_ret
    exact ⟨rfl, fin.out⟩
end
end Go.Proofs.YtinmmhbiomcdoaaGreatDoor

/-
  A vault's Snapshot, Records and Size. New memory alone is written. Conditions: a vault that Open made, of a disk that New made; fewer than 2^42 steps; the files hold bytes; at most 2^32 bytes a record.
-/
namespace Go.Proofs.YtinmmhbiomcdoaaGreatDoor
open Go.RowKit

section
variable {Hs : (Nat → Prop) → World → DkV → Prop} {E V : Nat → Prop} {B : Nat} {w0 w : World} {g vo ro so fb : Nat} {D : DkV} {T : Nat} {rv : Value} {v : VtV} {o : Addr}
theorem h_vaget (H : Host Hs B w0 g) (h : Hs E w D) (hV : VaIn V B w vo ro so fb g rv v) (hO : D.Ok T) (hD : D.By) (hk : VtOk D v) (hG : Glob22 o w0) (hB : w0.heap.size ≤ B) {x : List Int} (hx : v.s.body = x) {n : Nat} (hn : x.length = n) {m : Bool} (hm : v.some = m) :
    Calls Tryz.prog 65 #[.pointer (some ⟨so, 0, none⟩)] w fun q w' => ∃ a c, q = .returned (.tuple #[.slice a n c, .bool m]) ∧ w'.ownsRow w.heap.size 5 1 (.slice a n c) n (x.map (Value.int .u8)) ∧ Below w.heap.size w w' := by
  have hs := hV.s
  rw [← hk.ab.1, ← hk.ab.2] at hs
  have e1 := hk.ab.1
  have e2 := hk.ab.2
  have hs : SlotAt w so g fb v.s.a v.s.b v.s.now := by
    have := hV.s
    rw [e1, e2]
    exact this
  exact h_slget H h hs hO hD hk.s hk.c hG.h hB hx hn (by rw [← hk.m]; exact hm)

set_option maxRecDepth 100000 in
set_option maxHeartbeats 4000000 in
theorem vaSnapshot_any (H : Host Hs B w0 g) (h : Hs E w D) (hV : VaIn V B w vo ro so fb g rv v) (hO : D.Ok T) (hD : D.By) (hk : VtOk D v) (hG : Glob22 o w0) (hB : w0.heap.size ≤ B) {x : List Int} (hx : v.body = x) {n : Nat} (hn : x.length = n) {m : Bool} (hm : v.some = m) :
    Calls Tryz.prog 29 #[.pointer (some ⟨vo, 0, none⟩)] w fun q w' => ∃ a c, q = .returned (.tuple #[.slice a n c, .bool m]) ∧ w'.ownsRow w.heap.size 5 1 (.slice a n c) n (x.map (Value.int .u8)) ∧ Below w.heap.size w w' := by
  have hu := vaUnmade_any hV.c0
  have c1 := hV.c1
  by_cases ht : 0 < v.s.turn
  · obtain ⟨h8, hb⟩ := hk.b1 ht
    obtain ⟨X, hX⟩ : ∃ X, v.s.body = X := ⟨_, rfl⟩
    obtain ⟨N, hN⟩ : ∃ N, X.length = N := ⟨_, rfl⟩
    have hG1 := h_vaget H h hV hO hD hk hG hB hX hN hm
    have hby := hk.s.bb
    have hbl := hk.s.bl
    rw [hX] at hby hbl h8 hb
    obtain ⟨M, hM⟩ : ∃ M, be (X.take 8) = M := ⟨_, rfl⟩
    have hd : X.drop 8 = x := by rw [← hb, hx]
    have hmt : m = true := by rw [← hm, hk.m]; exact decide_eq_true ht
    subst hmt
    have cP := Lib.hid (fun (w' : World) (a : Option Addr) (c : Nat) (I : Ints .u8 w' a N c X) => vaParted_any (least := 0) a N c X w' I hby (by omega) (by decide) (by omega) hM hd hn)
    clear H h hV hO hD hk hG hB hx hn hm ht h8 hb hX hN hby hbl hM hd
    go_enter Tryz.func29, Tryz.ntmps29
    go_wp2_with fail
    refine hu.mono ?_
    rintro q w1 ⟨rfl, rfl⟩
    clear hu
    go_wp2_with fail
    refine hG1.mono ?_
    rintro q w2 ⟨a2, c2, rfl, o2, b2⟩
    have cP2 := cP.out w2 a2 c2 (own_ints' o2)
    clear hG1 cP o2 c1
    go_wp2_with fail
    refine cP2.mono ?_
    rintro q w3 ⟨a3, c3, rfl, o3, b3⟩
    have B3 := b2.trans (b3.mono b2.size)
    have O3 := Lib.hid (own_weak o3 b2.size)
    clear cP2 b2 b3 o3
    have b4 : Below w3.heap.size w3 w3.drew := (Below.refl _ _).drew
    have O4 := Lib.hid (own_stay9 O3.out b4)
    have B4 := B3.trans (b4.mono B3.size)
    clear O3 B3
    go_wp2_with fail
    refine region_seqS (fun w' => Below w3.heap.size w3 w') (by kernel_rfl) b4 ?_
    simp only [pairs, Nat.reduceAdd]
    repeat (first
      | (refine SeqS.take (v := ?_) (by first | assumption | trivial) (by kernel_rfl) (by decide +kernel) (by decide +kernel) (Or.inl ⟨by rfl, ?_⟩) ?_
         rotate_left
         focus
           intro w' hb'
           go_simp
           with_reducible rfl
         simp only [Act.put, List.setIfInBounds_toArray, List.set_cons_zero, List.set_cons_succ])
      | (refine SeqS.take (v := undef) (by first | assumption | trivial) (by kernel_rfl) (by decide +kernel) (by decide +kernel) (Or.inr ⟨by rfl, rfl⟩) ?_
         simp only [Act.put, List.setIfInBounds_toArray, List.set_cons_zero, List.set_cons_succ])
      | (refine SeqS.take1 (v := ?_) (by first | assumption | trivial) (by kernel_rfl) (by decide +kernel) (by decide +kernel) (Or.inl ⟨by rfl, ?_⟩) ?_
         rotate_left
         focus
           intro w' hb'
           go_simp
           with_reducible rfl
         simp only [Act.put, List.setIfInBounds_toArray, List.set_cons_zero, List.set_cons_succ])
      | (refine SeqS.take1 (v := undef) (by first | assumption | trivial) (by kernel_rfl) (by decide +kernel) (by decide +kernel) (Or.inr ⟨by rfl, rfl⟩) ?_
         simp only [Act.put, List.setIfInBounds_toArray, List.set_cons_zero, List.set_cons_succ])
      | (refine SeqS.take2 (v := ?_) (by first | assumption | trivial) (by kernel_rfl) (by decide +kernel) (by decide +kernel) (Or.inl ⟨by rfl, ?_⟩) ?_
         rotate_left
         focus
           intro w' hb'
           go_simp
           with_reducible rfl
         simp only [Act.put, List.setIfInBounds_toArray, List.set_cons_zero, List.set_cons_succ])
      | (refine SeqS.take2 (v := undef) (by first | assumption | trivial) (by kernel_rfl) (by decide +kernel) (by decide +kernel) (Or.inr ⟨by rfl, rfl⟩) ?_
         simp only [Act.put, List.setIfInBounds_toArray, List.set_cons_zero, List.set_cons_succ]))
    refine SeqS.done (by decide +kernel) ?_
    go_wp2
    go_ret2
    exact ⟨_, _, rfl, O4.out, B4⟩
  · have hb0 := hk.b0 ht
    have hs0 : v.s.body = [] := by
      rcases hk.s.n with ⟨_, _, h3⟩ | ⟨h1, _⟩
      · exact h3
      · exact absurd h1 ht
    have hG1 := h_vaget H h hV hO hD hk hG hB hs0 (n := 0) rfl hm
    have hmt : m = false := by rw [← hm, hk.m]; exact decide_eq_false ht
    subst hmt
    have hx0 : x = [] := by rw [← hx, hb0]
    subst hx0
    subst hn
    clear H h hV hO hD hk hG hB hx hm ht hb0 hs0
    go_enter Tryz.func29, Tryz.ntmps29
    go_wp2_with fail
    refine hu.mono ?_
    rintro q w1 ⟨rfl, rfl⟩
    clear hu
    go_wp2_with fail
    refine hG1.mono ?_
    rintro q w2 ⟨a2, c2, rfl, o2, b2⟩
    clear hG1 o2 c1
    go_wp2
    go_ret2
    exact ⟨none, 0, rfl, World.ownsRow_nil _ _ _ _, b2⟩

set_option maxRecDepth 100000 in
set_option maxHeartbeats 1000000 in
theorem vaSize_any (H : Host Hs B w0 g) (h : Hs E w D) (hV : VaIn V B w vo ro so fb g rv v) (hO : D.Ok T) {n : Nat} (hn : (heldR D 0).length = n) :
    Calls Tryz.prog 31 #[.pointer (some ⟨vo, 0, none⟩)] w fun q w' => q = .returned (.int .i64 (n : Int)) ∧ Below w.heap.size w w' := by
  have hu := vaUnmade_any hV.c0
  have c0 := hV.c0
  have hC := h_ysize H h hV.r hO hn
  clear H h hV hO hn
  go_enter Tryz.func31, Tryz.ntmps31
  go_wp2_with fail
  refine hu.mono ?_
  rintro q w1 ⟨rfl, rfl⟩
  clear hu
  go_wp2_with fail
  refine hC.mono ?_
  rintro q w2 ⟨rfl, b2⟩
  clear hC
  go_wp2
  go_ret
  exact ⟨rfl, b2⟩
end

/-- The first j are copied. -/
def CopyN (w w' : World) (ps : List (List Int)) (j : Nat) (cs : List Value) : Prop := cs.length = j ∧ ∀ i, i < j → ∃ a n c, cs[i]? = some (.slice a n c) ∧ Ints .u8 w' a n c (ps.getD i []) ∧ InR (fun b => w.heap.size ≤ b) a n
theorem copy_set {cs : List Value} {m j : Nat} (h : cs.length = j) (hj : j < m) (u : Value) : (cs ++ List.replicate (m - j) (Value.slice none 0 0)).set j u = (cs ++ [u]) ++ List.replicate (m - (j + 1)) (Value.slice none 0 0) := by
  rw [List.set_append_right _ _ (by omega), h, Nat.sub_self, show m - j = (m - (j + 1)) + 1 by omega, List.replicate_succ, List.set_cons_zero, List.append_assoc]
  rfl
theorem CopyN.more {w w1 w2 : World} {ps : List (List Int)} {j : Nat} {cs : List Value} (h : CopyN w w1 ps j cs) (hk : ∀ b, w.heap.size ≤ b → b < w1.heap.size → (∃ x : Int, ∃ i, w1.cell? ⟨b, i, none⟩ = some (.int .u8 x)) → w2.heap[b]? = w1.heap[b]?) {a : Option Addr} {n c : Nat} (hI : Ints .u8 w2 a n c (ps.getD j [])) (hr : InR (fun b => w.heap.size ≤ b) a n) : CopyN w w2 ps (j + 1) (cs ++ [.slice a n c]) := by
  refine ⟨by rw [List.length_append, h.1]; rfl, fun i hi => ?_⟩
  by_cases hlt : i < j
  · obtain ⟨a', n', c', h1, h2, h3⟩ := h.2 i hlt
    refine ⟨a', n', c', by rw [List.getElem?_append_left (by have := h.1; omega)]; exact h1, ?_, h3⟩
    refine ⟨h2.1, h2.2.1, ?_⟩
    rcases h2.2.2 with h0 | ⟨b, off, ha, hc⟩
    · exact .inl h0
    by_cases hn : n' = 0
    · exact .inl hn
    refine .inr ⟨b, off, ha, fun k hk2 => ?_⟩
    have hb := hc k hk2
    have he := hk b (h3 _ ha (Nat.pos_of_ne_zero hn)) (World.block_lt_of_cell? _ _ hb) ⟨_, _, hb⟩
    unfold World.cell? at hb ⊢
    rw [he]
    exact hb
  · obtain rfl : i = j := by omega
    exact ⟨a, n, c, by rw [List.getElem?_append_right (by have := h.1; omega), h.1, Nat.sub_self]; rfl, hI, hr⟩
theorem CopyN.parts {w w' : World} {ps : List (List Int)} {n G : Nat} {t : TypeId} {cs : List Value} (h : CopyN w w' ps n cs) (hl : ps.length = n) (hb : Blk w' G t cs) (hG : w.heap.size ≤ G) : PartsR (fun b => w.heap.size ≤ b) w' (some ⟨G, 0, none⟩) n n ps := by
  refine ⟨hl, Nat.le_refl _, .inr ⟨G, 0, rfl, hG, fun i hi => ?_⟩⟩
  obtain ⟨a, n', c, h1, h2, h3⟩ := h.2 i hi
  exact ⟨a, n', c, by rw [hb.cell, Nat.zero_add]; exact h1, h2, h3⟩
theorem blk_noint {w : World} {G : Nat} {cs : List Value} {n : Nat} (h : Blk w G 34 (cs ++ List.replicate n (Value.slice none 0 0))) (hc : ∀ u ∈ cs, ∃ a n c, u = .slice a n c) : ¬ ∃ x : Int, ∃ i, w.cell? ⟨G, i, none⟩ = some (.int .u8 x) := by
  rintro ⟨x, i, hx⟩
  rw [h.cell] at hx
  rcases List.mem_append.1 (List.mem_of_getElem? hx) with h1 | h1
  · obtain ⟨a, n, c, e⟩ := hc _ h1
    cases e
  · cases List.eq_of_mem_replicate h1
theorem CopyN.slices {w w' : World} {ps : List (List Int)} {j : Nat} {cs : List Value} (h : CopyN w w' ps j cs) : ∀ u ∈ cs, ∃ a n c, u = Value.slice a n c := by
  intro u hu
  obtain ⟨i, hi, e⟩ := List.getElem_of_mem hu
  obtain ⟨a, n, c, h1, _⟩ := h.2 i (by rw [← h.1]; exact hi)
  rw [List.getElem?_eq_getElem hi] at h1
  injection h1 with h1
  exact ⟨a, n, c, by rw [← e, h1]⟩

set_option maxRecDepth 100000 in
set_option maxHeartbeats 4000000 in
theorem vaRecords_any {V : Nat → Prop} {B : Nat} {w : World} {g vo ro so fb : Nat} {rv : Value} {v : VtV} (hV : VaIn V B w vo ro so fb g rv v) {ps : List (List Int)} (hp : v.after = ps) {n : Nat} (hn : ps.length = n) (hm : n ≤ 4398046511104) (hx : ∀ p ∈ ps, p.length ≤ 4294967296) :
    Calls Tryz.prog 30 #[.pointer (some ⟨vo, 0, none⟩)] w fun q w' => ∃ a c, q = .returned (.slice a n c) ∧ PartsR (fun b => w.heap.size ≤ b) w' a n c ps ∧ Below w.heap.size w w' := by
  obtain ⟨i0, hi, hz0, hz1, hz2⟩ := info_sl
  have hu := vaUnmade_any hV.c0
  obtain ⟨ra, rc, rfl, hP⟩ := hV.p.parts
  have c2 := hV.c2
  rw [hp] at hP c2
  rw [hn] at hP c2
  have PK := Lib.hid (fun w' (q : Below w.heap.size w w') => hP.keep q)
  have CK := Lib.hid (fun w' (q : Below w.heap.size w w') => (hV.keep q).c2)
  rw [hp, hn] at CK
  obtain ⟨G, hG⟩ : ∃ G, w.heap.size = G := ⟨_, rfl⟩
  have hGH := Lib.hid hG
  have hmH := Lib.hid hm
  have hxH := Lib.hid hx
  have hnH := Lib.hid hn
  clear hV hP hp hG hx hn
  go_enter Tryz.func30, Tryz.ntmps30
  go_wp2_with fail
  refine hu.mono ?_
  rintro q w1 ⟨rfl, rfl⟩
  clear hu
  go_wp2_with (at_make; refine wpList_make_two rfl (.tmp 12) (.tmp 12) 44 rfl w.heap.size 34 i0 (.slice none 0 0) Tryz.underlying44 hi hz0 hz1 rfl rfl rfl (n := n) (C := n) rfl rfl (Nat.le_refl _) ?_ ?_ (Nat.le_refl _) ?_; (rw [hz2]; have := hmH.out; omega); (unfold maxLen; have := hmH.out; omega); intro v1 own1 hk1 g1; refine RowKit.Hid.out ?_)
  refine Lib.hid ?_
  have hB1 : Below w.heap.size w v1 := (Below.refl _ _).grown g1 (Nat.le_refl _) (by simp)
  have c2v := CK.out v1 hB1
  rw [hGH.out] at hk1 ⊢
  clear own1 g1 c2
  go_wp2_with fail
  go_loopw [19] (fun i wr => ∃ (j : Nat) (cs : List Value), j ≤ n ∧ i = .int .i64 j ∧ CopyN w wr ps j cs ∧ Blk wr G 34 (cs ++ List.replicate (n - j) (Value.slice none 0 0)) ∧ Below w.heap.size w wr) (fun i _ => n - (intOf i).toNat)
  case atStart => exact ⟨0, [], Nat.zero_le _, rfl, ⟨rfl, fun i hi => absurd hi (Nat.not_lt_zero _)⟩, hk1, hB1⟩
  case round =>
    clear hk1 hB1 c2v
    obtain ⟨j, cs, hj, rfl, hC, hk, hB⟩ := hrel
    by_cases hlt : j < n
    · have hji : (j : Int) < (n : Int) := by omega
      have hPr := PK.out wr hB
      obtain ⟨b, off, rfl, hat⟩ := hPr.at (by omega)
      obtain ⟨A, m, k, hcell, hI⟩ := hat j hlt
      have hml : m ≤ 4294967296 := by
        have := hI.len
        have h2 := hxH.out (ps.getD j []) (by rw [List.getD_eq_getElem?_getD, List.getElem?_eq_getElem (by have := hnH.out; omega)]; exact List.getElem_mem _)
        omega
      have hcl := pClone_any A m k _ wr hI hml
      have ltG := hk.lt
      have hCH := Lib.hid hC
      have hltH := Lib.hid hlt
      have hBH := Lib.hid hB
      have hkH := Lib.hid hk
      clear hlt hj hPr hat hI hml hC hB hk
      go_wp2_with fail
      refine hcl.mono ?_
      rintro q w2 ⟨b2, d2, rfl, o2, q2⟩
      have hk2 := hkH.out.keep q2 ltG
      have hB2 := hBH.out.trans (q2.mono hBH.out.size)
      have hC := hCH.out
      obtain ⟨v0, hc0⟩ : ∃ v0, w2.cell? ⟨G, j, none⟩ = some v0 := ⟨_, (hk2.cell j).trans (List.getElem?_eq_getElem (by rw [List.length_append, hC.1, List.length_replicate]; have := hltH.out; omega))⟩
      have hf := hk2.frozen j
      have hk3 := hk2.set j (.slice b2 m d2)
      rw [copy_set hC.1 hltH.out] at hk3
      have hB3 := hB2.setCell (p := ⟨G, j, none⟩) (by show w.heap.size ≤ G; rw [hGH.out]; exact Nat.le_refl _) (.slice b2 m d2)
      have gS := grown_setCell w2 G j (.slice b2 m d2)
      have ne2 : ∀ x, b2 = some x → 0 < m → wr.heap.size ≤ x.block := by
        intro x hx h0
        rcases o2.2 with ⟨e, _⟩ | ⟨g2, cap, cur, e, hl, _⟩
        · injection e with _ e _; omega
        · injection e with e _ _
          rw [hx] at e
          injection e with e
          rw [e]
          exact hl
      have I2 := own_ints' o2
      have I3 : Ints .u8 (w2.setCell ⟨G, j, none⟩ (.slice b2 m d2)) b2 m d2 (ps.getD j []) := ints_inR (R := fun b => wr.heap.size ≤ b) I2 ne2 (fun b hb hl => gS.block b hl (fun e => by injection e with e; omega))
      have C3 := hC.more (w2 := w2.setCell ⟨G, j, none⟩ (.slice b2 m d2)) (fun b hb hl hi => (gS.block b (Nat.lt_of_lt_of_le hl q2.size) (fun e => by injection e with e; subst e; exact blk_noint hkH.out hC.slices hi)).trans (q2.block b hl)) I3 (fun x hx h0 => Nat.le_trans hBH.out.size (ne2 x hx h0))
      clear hcl hC o2 I2 I3 gS ne2 hk2 hB2 q2
      go_wp2
      exact ⟨⟨j + 1, _, by have := hltH.out; omega, by congr 1, C3, hk3, hB3⟩, by simp only [intOf]; have := hltH.out; omega⟩
    · obtain rfl : j = n := by omega
      have hji : ¬ (j : Int) < (j : Int) := by omega
      rw [Nat.sub_self, List.replicate_zero, List.append_nil] at hk
      have hR := hC.parts hnH.out hk (by rw [hGH.out]; exact Nat.le_refl _)
      clear hlt hj hC hk
      go_wp2
      go_ret
      exact ⟨_, _, rfl, hR, hB⟩
end Go.Proofs.YtinmmhbiomcdoaaGreatDoor

/-
  A vault's begin and follow, as Open goes through what is there. New memory is written, and the vault's. Conditions: slots that Open made, of a disk that New made; fewer than 2^42 steps; the files hold bytes; at most 100000 bytes a body, and records.
-/
namespace Go.Proofs.YtinmmhbiomcdoaaGreatDoor
open Go.RowKit

/-- The error of a body that is passed over. -/
def faultO (s : ByteArray) (o : Addr) : Value := .iface 132 (.agg #[.string s, .iface 239 (.pointer (some o))])
def fault2 (s s2 : ByteArray) (k : Int) : Value := .iface 132 (.agg #[.string s, fault1 s2 k])
theorem neF22 (v : Value) (w : World) : Sem.run Tryz.prog (binOp BinOp.neq 94 (.iface 132 v) .nilIface) w = .ok (.bool true) w := by kernel_rfl
theorem neN22 (w : World) : Sem.run Tryz.prog (binOp BinOp.neq 94 .nilIface .nilIface) w = .ok (.bool false) w := by kernel_rfl
theorem built_f1 (S : ByteArray) (T : TypeId) (v : Value) : Tryz.prog.built 132 [(0, .string S), (1, .iface T v)] = some #[.string S, .iface T v] := by kernel_rfl

/-! ### begin -/
set_option maxRecDepth 100000 in
set_option maxHeartbeats 4000000 in
theorem vaBegin_any {Hs : (Nat → Prop) → World → DkV → Prop} {E V : Nat → Prop} {B : Nat} {w0 w : World} {g vo ro so fb : Nat} {D : DkV} {T : Nat} {rv : Value} {v : VtV} {o : Addr} (H : Host Hs B w0 g) (h : Hs E w D) (hV : VaIn V B w vo ro so fb g rv v) (hab : v.s.a = 1 ∧ v.s.b = 2) (hO : D.Ok T) (hD : D.By) (hk : v.s.Ok) (hc : Cur D v.s) (hG : Glob22 o w0) (hB : w0.heap.size ≤ B) (h0 : v.last = 0) {L : Int} (hL : (if 0 < v.s.turn ∧ 8 ≤ v.s.body.length then be (v.s.body.take 8) else 0) = L) :
    Calls Tryz.prog 70 #[.pointer (some ⟨vo, 0, none⟩)] w fun q w' => ((0 < v.s.turn ∧ v.s.body.length < 8) ∧ (∃ s, q = .returned (fault1 s 4)) ∨ ¬ (0 < v.s.turn ∧ v.s.body.length < 8) ∧ q = .returned .nilIface) ∧ VaIn V B w' vo ro so fb g rv { v with last := L } ∧ Moved (fun b => b = vo) w w' := by
  have c1 := hV.c1
  obtain ⟨va1, va2⟩ := hab
  have hs : SlotAt w so g fb v.s.a v.s.b v.s.now := by
    have := hV.s
    rw [va1, va2]
    exact this
  obtain ⟨X, hX⟩ : ∃ X, v.s.body = X := ⟨_, rfl⟩
  obtain ⟨N, hN⟩ : ∃ N, X.length = N := ⟨_, rfl⟩
  have hby := hk.bb
  have hbl := hk.bl
  by_cases ht : 0 < v.s.turn
  · have hGt := h_slget H h hs hO hD hk hc hG.h hB hX hN (decide_eq_true ht)
    rw [hX] at hL hby hbl ⊢
    rw [hN] at hL hbl ⊢
    have GK := Lib.hid (fun w' (q : Below w.heap.size w w') => (H.gl h hG hB).keep q (Nat.le_refl _))
    have VK := Lib.hid (fun w' (q : Below w.heap.size w w') => hV.keep q)
    have ltH := Lib.hid hV.o.lt
    by_cases h8 : 8 ≤ N
    · rw [if_pos ⟨ht, h8⟩] at hL
      have cP := Lib.hid (fun (w' : World) (a : Option Addr) (c : Nat) (I : Ints .u8 w' a N c X) => vaParted_any (least := 0) a N c X w' I hby (by omega) (by decide) (by omega) hL (X := X.drop 8) rfl (m := N - 8) (by rw [List.length_drop, hN]))
      have h8i := Lib.hid (show ¬ (0 < v.s.turn ∧ N < 8) by omega)
      clear H h hV hO hD hk hc hG hB h0 hL hs hX hN hby hbl ht h8
      go_enter Tryz.func70, Tryz.ntmps70
      go_wp2_with fail
      refine hGt.mono ?_
      rintro q w2 ⟨a2, c2, rfl, o2, b2⟩
      have cP2 := cP.out w2 a2 c2 (own_ints' o2)
      clear hGt cP o2 c1
      go_wp2_with fail
      refine cP2.mono ?_
      rintro q w3 ⟨a3, c3, rfl, _, b3⟩
      have B3 := b2.trans (b3.mono b2.size)
      have V3 := VK.out w3 B3
      have f3 := V3.o.frozen 3
      have k3 := V3.c3
      have g4 := grown_setCell w3 vo 3 (.int .u64 L)
      have O4 : Blk (w3.setCell ⟨vo, 3, none⟩ (.int .u64 L)) vo 80 (vaC ro so rv L) := V3.o.set 3 (.int .u64 L)
      have ty := typed_set (i := 3) (u := .int .u64 L) V3.o
      have fin : VaIn V B (w3.setCell ⟨vo, 3, none⟩ (.int .u64 L)) vo ro so fb g rv { v with last := L } := ⟨O4, ty.blk V3.r (by decide), ty.slot V3.s (by decide) (by decide), V3.p.typed ty (by decide) (by decide) (fun _ h => h), V3.vo, V3.vr, V3.vs⟩
      have mv : Moved (fun b => b = vo) w (w3.setCell ⟨vo, 3, none⟩ (.int .u64 L)) := (Moved.of_below B3).then (moved_set rfl g4)
      have finH := Lib.hid fin
      have mvH := Lib.hid mv
      clear cP2 b2 b3 B3 V3 g4 O4 ty fin mv VK GK
      go_wp2
      go_ret
      exact ⟨.inr ⟨h8i.out, rfl⟩, finH.out, mvH.out⟩
    · rw [if_neg (by omega)] at hL
      subst hL
      have cP := Lib.hid (fun (w' : World) (q : Below w.heap.size w w') (a : Option Addr) (c : Nat) (I : Ints .u8 w' a N c X) => vaParted_bad (least := 0) a N c X w' (GK.out w' q) I hby (by omega) (by decide) (by omega))
      have h8i := Lib.hid (show (0 < v.s.turn ∧ N < 8) by omega)
      clear H h hV hO hD hk hc hG hB h0 hs hX hN hby hbl ht h8
      go_enter Tryz.func70, Tryz.ntmps70
      go_wp2_with fail
      refine hGt.mono ?_
      rintro q w2 ⟨a2, c2, rfl, o2, b2⟩
      have cP2 := cP.out w2 b2 a2 c2 (own_ints' o2)
      clear hGt cP o2 c1
      go_wp2_with fail
      refine cP2.mono ?_
      rintro q w3 ⟨s3, rfl, b3⟩
      have B3 := b2.trans (b3.mono b2.size)
      have V3 := VK.out w3 B3
      have f3 := V3.o.frozen 3
      have k3 := V3.c3
      have g4 := grown_setCell w3 vo 3 (.int .u64 0)
      have O4 : Blk (w3.setCell ⟨vo, 3, none⟩ (.int .u64 0)) vo 80 (vaC ro so rv 0) := V3.o.set 3 (.int .u64 0)
      have ty := typed_set (i := 3) (u := .int .u64 0) V3.o
      have fin : VaIn V B (w3.setCell ⟨vo, 3, none⟩ (.int .u64 0)) vo ro so fb g rv { v with last := 0 } := ⟨O4, ty.blk V3.r (by decide), ty.slot V3.s (by decide) (by decide), V3.p.typed ty (by decide) (by decide) (fun _ h => h), V3.vo, V3.vr, V3.vs⟩
      have mv : Moved (fun b => b = vo) w (w3.setCell ⟨vo, 3, none⟩ (.int .u64 0)) := (Moved.of_below B3).then (moved_set rfl g4)
      have finH := Lib.hid fin
      have mvH := Lib.hid mv
      obtain ⟨F, hF⟩ : ∃ F, fault1 s3 4 = F := ⟨_, rfl⟩
      have hFH := Lib.hid hF
      have hFi : F.oneCell' = true := by rw [← hF]; rfl
      clear cP2 b2 b3 B3 V3 g4 O4 ty fin mv VK GK
      unfold fault1 at hF
      subst hF
      go_wp2
      go_ret
      exact ⟨.inl ⟨h8i.out, s3, rfl⟩, finH.out, mvH.out⟩
  · have hb0 : v.s.body = [] := by
      rcases hk.n with ⟨_, _, h3⟩ | ⟨h1, _⟩
      · exact h3
      · exact absurd h1 ht
    have hGt := h_slget H h hs hO hD hk hc hG.h hB hb0 (n := 0) rfl (decide_eq_false ht)
    rw [if_neg (fun h => ht h.1)] at hL
    subst hL
    have VK := Lib.hid (fun w' (q : Below w.heap.size w w') => hV.keep q)
    have v0 : { v with last := 0 } = v := by rw [← h0]
    rw [v0]
    have htH := Lib.hid ht
    clear H h hV hO hD hk hc hG hB h0 hs hX hN hby hbl ht hb0 v0
    go_enter Tryz.func70, Tryz.ntmps70
    go_wp2_with fail
    refine hGt.mono ?_
    rintro q w2 ⟨a2, c2, rfl, o2, b2⟩
    have V2 := VK.out w2 b2
    have m2 : Moved (fun b => b = vo) w w2 := Moved.of_below b2
    clear hGt o2 c1 VK b2
    go_wp2
    go_ret
    exact ⟨.inr ⟨fun h => by have := htH.out; omega, rfl⟩, V2, m2⟩

/-! ### follow -/
section
variable {V : Nat → Prop} {B : Nat} {w : World} {vo ro so fb g : Nat} {rv : Value} {v : VtV} {o : Addr} {a : Option Addr} {n c : Nat} {b : List Int}
set_option maxRecDepth 100000 in
set_option maxHeartbeats 4000000 in
theorem vaFollow_few (hG : Glob22 o w) (hI : Ints .u8 w a n c b) (hb : ∀ y ∈ b, isByte y) (hn : n ≤ 100000) (h9 : n < 9) :
    Calls Tryz.prog 72 #[.pointer (some ⟨vo, 0, none⟩), .slice a n c] w fun q w' => (∃ s, q = .returned (fault1 s 4)) ∧ Below w.heap.size w w' := by
  have cP := vaParted_bad (least := 1) a n c b w hG hI hb hn (Nat.le_refl _) (by omega)
  have ne := neF22
  clear hG hI hb hn h9
  go_enter Tryz.func72, Tryz.ntmps72
  go_wp2_with fail
  refine cP.mono ?_
  rintro q w2 ⟨s, rfl, b2⟩
  unfold fault1
  clear cP
  go_wp2
  go_ret
  exact ⟨⟨s, rfl⟩, b2⟩

set_option maxRecDepth 100000 in
set_option maxHeartbeats 4000000 in
theorem vaFollow_over (hV : VaIn V B w vo ro so fb g rv v) (hG : Glob22 o w) (hI : Ints .u8 w a n c b) (hb : ∀ y ∈ b, isByte y) (hn : n ≤ 100000) (h9 : 9 ≤ n) (hN : be (b.take 8) ≤ v.last) :
    Calls Tryz.prog 72 #[.pointer (some ⟨vo, 0, none⟩), .slice a n c] w fun q w' => (∃ s, q = .returned (faultO s o)) ∧ Below w.heap.size w w' := by
  have hNr := be8_lim22 hb 8 (Nat.le_refl _)
  obtain ⟨N, hNe⟩ : ∃ N, be (b.take 8) = N := ⟨_, rfl⟩
  rw [hNe] at hN hNr
  have cP := vaParted_any (least := 1) a n c b w hI hb hn (Nat.le_refl _) (by omega) hNe (X := b.drop 8) rfl (m := (b.drop 8).length) rfl
  have ne := neN22
  have cF := Lib.hid (fun w' (q : Below w.heap.size w w') => fmtU_any22 N w' hNr (hG.keep q (Nat.le_refl _)).p)
  have VK := Lib.hid (fun w' (q : Below w.heap.size w w') => hV.keep q)
  have OK := Lib.hid (fun w' (q : Below w.heap.size w w') => (hG.keep q (Nat.le_refl _)).o)
  obtain ⟨L, hL⟩ : ∃ L, v.last = L := ⟨_, rfl⟩
  have hLH := Lib.hid hL
  rw [hL] at hN
  clear hG hI hb hn h9 hV hNe hNr hL
  go_enter Tryz.func72, Tryz.ntmps72
  go_wp2_with fail
  refine cP.mono ?_
  rintro q w2 ⟨a2, c2, rfl, o2, b2⟩
  have cF2 := cF.out w2 b2
  have O2H := Lib.hid o2
  clear cP cF o2
  go_wp2_with fail
  refine cF2.mono ?_
  rintro q w3 ⟨⟨s3, rfl, z3⟩, b3⟩
  have B3 := b2.trans (b3.mono b2.size)
  have O3H := Lib.hid (own_stay9 O2H.out b3)
  have ad := fun W => run_string_add_sum (P := Tryz.prog) W ({ data := #[116, 104, 101, 32, 114, 101, 99, 111, 114, 100, 32] } : ByteArray) s3 (by show 11 + s3.size ≤ _; omega)
  obtain ⟨S3, hS3⟩ : ∃ S, ({ data := #[116, 104, 101, 32, 114, 101, 99, 111, 114, 100, 32] } : ByteArray) ++ s3 = S := ⟨_, rfl⟩
  rw [hS3] at ad
  have V3 := VK.out w3 B3
  have k3 := V3.c3
  have V3H := Lib.hid V3
  clear cF2 b3 z3 hS3 V3 O2H
  rw [hLH.out] at k3
  have ko : w3.cell? ⟨0, 0, none⟩ = some (.iface 239 (.pointer (some o))) := OK.out w3 B3
  have bt := built_f1 S3 239 (.pointer (some o))
  clear VK OK b2 V3H
  go_wp2
  go_ret
  exact ⟨⟨S3, rfl⟩, B3⟩

set_option maxRecDepth 100000 in
set_option maxHeartbeats 4000000 in
theorem vaFollow_form (hV : VaIn V B w vo ro so fb g rv v) (hG : Glob22 o w) (hI : Ints .u8 w a n c b) (hb : ∀ y ∈ b, isByte y) (hn : n ≤ 100000) (h9 : 9 ≤ n) (hl : 0 ≤ v.last ∧ v.last < 18446744073709551616) (hN : ¬ be (b.take 8) ≤ v.last) (hN1 : be (b.take 8) ≠ v.last + 1) :
    Calls Tryz.prog 72 #[.pointer (some ⟨vo, 0, none⟩), .slice a n c] w fun q w' => (∃ s, q = .returned (fault1 s 4)) ∧ Below w.heap.size w w' := by
  have hNr := be8_lim22 hb 8 (Nat.le_refl _)
  obtain ⟨N, hNe⟩ : ∃ N, be (b.take 8) = N := ⟨_, rfl⟩
  rw [hNe] at hN hNr hN1
  have cP := vaParted_any (least := 1) a n c b w hI hb hn (Nat.le_refl _) (by omega) hNe (X := b.drop 8) rfl (m := (b.drop 8).length) rfl
  have ne := neN22
  have cF := Lib.hid (fun w' (q : Below w.heap.size w w') => fmtU_any22 N w' hNr (hG.keep q (Nat.le_refl _)).p)
  have VK := Lib.hid (fun w' (q : Below w.heap.size w w') => hV.keep q)
  obtain ⟨L, hL⟩ : ∃ L, v.last = L := ⟨_, rfl⟩
  have hLH := Lib.hid hL
  rw [hL] at hN hl hN1
  obtain ⟨uw, um⟩ := u64_id (x := N - L) ⟨by omega, by omega⟩
  have hg : 1 < N - L := by omega
  clear hG hI hb hn h9 hV hNe hNr hL hl hN1
  go_enter Tryz.func72, Tryz.ntmps72
  go_wp2_with fail
  refine cP.mono ?_
  rintro q w2 ⟨a2, c2, rfl, o2, b2⟩
  have cF2 := cF.out w2 b2
  have O2H := Lib.hid o2
  clear cP cF o2
  go_wp2_with fail
  refine cF2.mono ?_
  rintro q w3 ⟨⟨s3, rfl, z3⟩, b3⟩
  have B3 := b2.trans (b3.mono b2.size)
  have O3H := Lib.hid (own_stay9 O2H.out b3)
  have ad := fun W => run_string_add_sum (P := Tryz.prog) W ({ data := #[116, 104, 101, 32, 114, 101, 99, 111, 114, 100, 32] } : ByteArray) s3 (by show 11 + s3.size ≤ _; omega)
  obtain ⟨S3, hS3⟩ : ∃ S, ({ data := #[116, 104, 101, 32, 114, 101, 99, 111, 114, 100, 32] } : ByteArray) ++ s3 = S := ⟨_, rfl⟩
  rw [hS3] at ad
  have V3 := VK.out w3 B3
  have k3 := V3.c3
  have V3H := Lib.hid V3
  clear cF2 b3 z3 hS3 V3 O2H
  rw [hLH.out] at k3
  have bt := built_f1 S3 26 (.int .i64 4)
  clear VK b2 V3H
  go_wp2
  go_ret
  exact ⟨⟨S3, rfl⟩, B3⟩

set_option maxRecDepth 100000 in
set_option maxHeartbeats 4000000 in
theorem vaFollow_next (hV : VaIn V B w vo ro so fb g rv v) (hVn : ∀ b, w.heap.size ≤ b → V b) (hB : B ≤ w.heap.size) (hG : Glob22 o w) (hI : Ints .u8 w a n c b) (hb : ∀ y ∈ b, isByte y) (hn : n ≤ 100000) (h9 : 9 ≤ n) (hl : 0 ≤ v.last) (hr : v.after.length ≤ 100000) (hN : be (b.take 8) = v.last + 1) :
    Calls Tryz.prog 72 #[.pointer (some ⟨vo, 0, none⟩), .slice a n c] w fun q w' => q = .returned .nilIface ∧ ∃ rv', VaIn V B w' vo ro so fb g rv' { v with last := v.last + 1, after := v.after ++ [b.drop 8] } ∧ Moved (fun b => V b ∧ B ≤ b) w w' := by
  have hNr := be8_lim22 hb 8 (Nat.le_refl _)
  obtain ⟨N, hNe⟩ : ∃ N, be (b.take 8) = N := ⟨_, rfl⟩
  rw [hNe] at hN hNr
  have cP := vaParted_any (least := 1) a n c b w hI hb hn (Nat.le_refl _) (by omega) hNe (X := b.drop 8) rfl (m := (b.drop 8).length) rfl
  have ne := neN22
  have cF := Lib.hid (fun w' (q : Below w.heap.size w w') => fmtU_any22 N w' hNr (hG.keep q (Nat.le_refl _)).p)
  have VK := Lib.hid (fun w' (q : Below w.heap.size w w') => hV.keep q)
  obtain ⟨L, hL⟩ : ∃ L, v.last = L := ⟨_, rfl⟩
  have hLH := Lib.hid hL
  rw [hL] at hN hl
  obtain ⟨uw, um⟩ := u64_id (x := N - L) ⟨by omega, by omega⟩
  have hg : ¬ 1 < N - L := by omega
  have hNL : ¬ N ≤ L := by omega
  have lH := Lib.hid (show 0 ≤ v.last ∧ v.last + 1 < 18446744073709551616 by omega)
  have rH := Lib.hid hr
  have VnH := Lib.hid hVn
  have BH := Lib.hid hB
  obtain ⟨X, hX⟩ : ∃ X, b.drop 8 = X := ⟨_, rfl⟩
  obtain ⟨M, hM⟩ : ∃ M, X.length = M := ⟨_, rfl⟩
  rw [hX] at cP ⊢
  rw [hM] at cP
  clear hG hI hb hn h9 hV hNe hNr hL hl hN hr hVn hB hX hM
  go_enter Tryz.func72, Tryz.ntmps72
  go_wp2_with fail
  refine cP.mono ?_
  rintro q w2 ⟨a2, c2, rfl, o2, b2⟩
  have cF2 := cF.out w2 b2
  have O2H := Lib.hid o2
  clear cP cF o2
  go_wp2_with fail
  refine cF2.mono ?_
  rintro q w3 ⟨⟨s3, rfl, z3⟩, b3⟩
  have B3 := b2.trans (b3.mono b2.size)
  have O3H := Lib.hid (own_stay9 O2H.out b3)
  have ad := fun W => run_string_add_sum (P := Tryz.prog) W ({ data := #[116, 104, 101, 32, 114, 101, 99, 111, 114, 100, 32] } : ByteArray) s3 (by show 11 + s3.size ≤ _; omega)
  obtain ⟨S3, hS3⟩ : ∃ S, ({ data := #[116, 104, 101, 32, 114, 101, 99, 111, 114, 100, 32] } : ByteArray) ++ s3 = S := ⟨_, rfl⟩
  rw [hS3] at ad
  have V3 := VK.out w3 B3
  have k3 := V3.c3
  have V3H := Lib.hid V3
  clear cF2 b3 z3 hS3 V3 O2H
  rw [hLH.out] at k3
  have E3 : ElemV V w3 a2 M c2 X := ElemV.of_owns O3H.out (fun b h1 _ => VnH.out b h1)
  have cD := vaAdd_any V3H.out (Nat.le_trans BH.out B3.size) E3 lH.out rH.out
  have B3H := Lib.hid B3
  clear VK b2 V3H E3 B3
  go_wp2_with fail
  refine cD.mono ?_
  rintro q w4 ⟨rfl, rv4, V4, m4⟩
  have fin := Lib.hid (show VaIn V B w4 vo ro so fb g rv4 { v with last := v.last + 1, after := v.after ++ [X] } from V4.same (fun _ _ _ => rfl) (fun b hb => hb.elim id (fun h => VnH.out b (Nat.le_trans B3H.out.size h.1))))
  have mv := Lib.hid (show Moved (fun b => V b ∧ B ≤ b) w w4 from (Moved.of_below B3H.out).then m4)
  clear cD V4 m4
  go_wp2
  go_ret
  exact ⟨rfl, rv4, fin.out, mv.out⟩
end
end Go.Proofs.YtinmmhbiomcdoaaGreatDoor

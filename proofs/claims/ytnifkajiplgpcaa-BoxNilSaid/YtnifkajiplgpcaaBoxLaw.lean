/-
  The laws of layer 5 come to true, in whatever world; nothing that lay is written. Conditions: bytes are numbers below 256, words below 2^32.
-/
import Derived.Test.YtnifkajiplgpcaaBoxNew
namespace Go.Proofs.Ytnifkajiplgpcaa
open Go.RowKit Go.Shelf

theorem BoxAt.drewN {w : World} {g : Nat} {f h : Nat → Nat} {m : Bool} (hb : BoxAt w g f h m) (n : Nat) : BoxAt (w.drewN n) g f h m := hb
theorem bWord_of (g : Nat) (f h : Nat → Nat) (m : Bool) (hf : ∀ i, f i < 256) (x z : Int) (n t : Nat) (w : World) (hb : BoxAt w g f h m) (hx : x = n) (hn : n < 4294967296) (ht : wd f n 4 = t) (hz : z = t) :
    Calls Try.prog 11 #[.pointer (some ⟨g, 0, none⟩), .int .u32 x] w fun e w' => e = .returned (.int .u32 z) ∧ w = w' := by
  subst hx; subst ht; subst hz; exact bWord_any g f h m hf n w hb hn

set_option maxHeartbeats 400000 in
theorem bAlive_any (w : World) : Calls Try.prog 13 #[] w fun e w' => e = .returned (.bool true) ∧ Below w.heap.size w w' := by
  go_enter Try.func13, Try.ntmps13
  go_wp2_with fail
  refine (bNew_any w).mono ?_; rintro e w1 ⟨g, rfl, hg, hb, hB⟩
  have hg := Lib.hid hg
  have hB := Lib.hid hB
  have hb := Lib.hid hb
  go_wp2_with fail
  refine (bSub_of g sb bk true 0 99 0 99 _ hb.out rfl (by decide) sb_zero rfl).mono ?_; rintro e w' ⟨rfl, rfl⟩
  go_wp2_with fail
  refine (bSub_of g sb bk true 83 237 83 237 _ hb.out rfl (by decide) sb_83 rfl).mono ?_; rintro e w' ⟨rfl, rfl⟩
  go_wp2_with fail
  refine (bBack_of g sb bk true 99 0 99 0 _ hb.out rfl (by decide) bk_99 rfl).mono ?_; rintro e w' ⟨rfl, rfl⟩
  go_wp2_with fail
  refine (bWord_of g sb bk true sb_256 83 1667458029 83 1667458029 _ hb.out rfl (by decide) ex_word rfl).mono ?_; rintro e w' ⟨rfl, rfl⟩
  go_wp2
  go_ret
  exact ⟨rfl, hB.out⟩

set_option maxHeartbeats 400000 in
theorem boxTells_nat (x u : Nat) (w : World) (hx : x < 256) (hu : u < 4294967296) :
    Calls Try.prog 3 #[.int .u8 (x : Int), .int .u32 (u : Int)] w fun e w' => e = .returned (.bool true) ∧ Below w.heap.size w w' := by
  obtain ⟨s, hs⟩ : ∃ s, sb x = s := ⟨_, rfl⟩
  obtain ⟨c, hc⟩ : ∃ c, bk x = c := ⟨_, rfl⟩
  obtain ⟨d, hd⟩ : ∃ d, wd sb u 4 = d := ⟨_, rfl⟩
  have hsl := Lib.hid (show s < 256 from by rw [← hs]; exact sb_256 x)
  have hbs := Lib.hid (show bk s = x from by rw [← hs]; exact bk_sb x hx)
  have hne : ((s : Int) != (x : Int)) = true := bne_iff_ne.2 (fun e => sb_ne x hx (by rw [hs]; omega))
  have cS : ∀ v, Calls Try.prog 8 #[.int .u8 (x : Int)] v fun e w' => e = .returned (.int .u8 (s : Int)) ∧ ∃ m, w' = v.drewN m := fun v => by rw [← hs]; exact rSub_any x v hx
  have cB : ∀ v, Calls Try.prog 10 #[.int .u8 (x : Int)] v fun e w' => e = .returned (.int .u8 (c : Int)) ∧ ∃ m, w' = v.drewN m := fun v => by rw [← hc]; exact rBack_any x v hx
  have cW : ∀ v, Calls Try.prog 12 #[.int .u32 (u : Int)] v fun e w' => e = .returned (.int .u32 (d : Int)) ∧ ∃ m, w' = v.drewN m := fun v => by rw [← hd]; exact rWord_any u v hu
  have cS := Lib.hid cS
  have cB := Lib.hid cB
  have cW := Lib.hid cW
  have hs := Lib.hid hs
  have hc := Lib.hid hc
  have hd := Lib.hid hd
  have hx := Lib.hid hx
  have hu := Lib.hid hu
  go_enter Try.func3, Try.ntmps3
  go_wp2_with fail
  refine (bNew_any w).mono ?_; rintro e w1 ⟨g, rfl, hg, hb, hB⟩
  have hg := Lib.hid hg
  have hB := Lib.hid hB
  have hb := Lib.hid hb
  go_wp2_with fail
  refine (bSub_of g sb bk true x s x s _ hb.out rfl hx.out hs.out rfl).mono ?_; rintro e w' ⟨rfl, rfl⟩
  go_wp2_with fail
  refine (cS.out _).mono ?_; rintro e w' ⟨rfl, m1, rfl⟩
  go_wp2_with fail
  refine (bBack_of g sb bk true s x s x _ (hb.out.drewN m1) rfl hsl.out hbs.out rfl).mono ?_; rintro e w' ⟨rfl, rfl⟩
  go_wp2_with fail
  refine (bBack_of g sb bk true x c x c _ (hb.out.drewN m1) rfl hx.out hc.out rfl).mono ?_; rintro e w' ⟨rfl, rfl⟩
  go_wp2_with fail
  refine (cB.out _).mono ?_; rintro e w' ⟨rfl, m2, rfl⟩
  go_wp2_with fail
  refine (bWord_of g sb bk true sb_256 u d u d _ (hb.out.drewN (m1 + m2)) rfl hu.out hd.out rfl).mono ?_; rintro e w' ⟨rfl, rfl⟩
  go_wp2_with fail
  refine (cW.out _).mono ?_; rintro e w' ⟨rfl, m3, rfl⟩
  go_wp2_with fail
  refine (bAlive_any _).mono ?_; rintro e w2 ⟨rfl, hB2⟩
  go_wp2
  go_ret
  refine ⟨rfl, ?_⟩
  have h1 : Below w.heap.size w (w1.drewN (m1 + m2 + m3)) := below_drewN hB.out _
  exact h1.trans (hB2.mono h1.size)

theorem wf_u8 {a : Int} (h : (Lit.int .u8 a).wf = true) : ∃ n : Nat, a = n ∧ n < 256 := by
  simp only [Lit.wf, Bool.and_eq_true, decide_eq_true_eq] at h
  have h1 : IntKind.u8.min = 0 := rfl
  have h2 : IntKind.u8.max = 255 := rfl
  exact ⟨a.toNat, by omega, by omega⟩
theorem wf_u16 {a : Int} (h : (Lit.int .u16 a).wf = true) : ∃ n : Nat, a = n ∧ n < 65536 := by
  simp only [Lit.wf, Bool.and_eq_true, decide_eq_true_eq] at h
  have h1 : IntKind.u16.min = 0 := rfl
  have h2 : IntKind.u16.max = 65535 := rfl
  exact ⟨a.toNat, by omega, by omega⟩
theorem wf_u32 {a : Int} (h : (Lit.int .u32 a).wf = true) : ∃ n : Nat, a = n ∧ n < 4294967296 := by
  simp only [Lit.wf, Bool.and_eq_true, decide_eq_true_eq] at h
  have h1 : IntKind.u32.min = 0 := rfl
  have h2 : IntKind.u32.max = 4294967295 := rfl
  exact ⟨a.toNat, by omega, by omega⟩

theorem law_BoxTells (a b : Int) (w : World) (ha : (Lit.int .u8 a).wf = true) (hb : (Lit.int .u32 b).wf = true) :
    Calls Try.prog 3 #[.int .u8 a, .int .u32 b] w fun e w' => e = .returned (.bool true) ∧ Below w.heap.size w w' := by
  obtain ⟨m, rfl, hm⟩ := wf_u8 ha
  obtain ⟨n, rfl, hn⟩ := wf_u32 hb
  exact boxTells_nat m n w hm hn
end Go.Proofs.Ytnifkajiplgpcaa

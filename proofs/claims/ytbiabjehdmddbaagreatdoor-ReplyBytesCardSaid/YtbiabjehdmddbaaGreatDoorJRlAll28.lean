/-
  Texts of stages that were proved on their own, joined: RlLawR, RlLwZ. Each begins with its own words.
-/
import Derived.Test.YtbiabjehdmddbaaGreatDoorJRlAll17
import Derived.Test.YtbiabjehdmddbaaGreatDoorJRlAll21
import Derived.Test.YtbiabjehdmddbaaGreatDoorJRlAll25
import Derived.Test.YtbiabjehdmddbaaGreatDoorJRlAll27

/-
  The law ReplyReads (layer 15). New memory alone is written. Conditions: bytes below 256; the library's table of powers of ten as its text lays it.
-/
namespace Go.Proofs.YtbiabjehdmddbaaGreatDoor
open Go.RowKit

set_option maxRecDepth 100000 in
set_option maxHeartbeats 4000000 in
theorem rlReads_any (a : Option Addr) (n c : Nat) (xs : List Int) (w : World) (hG : Pow12 w) (hI : Ints .u8 w a n c xs) (hr : ∀ x ∈ xs, 0 ≤ x ∧ x < 256) :
    Calls Tryz.prog 4 #[.slice a n c] w fun q w' => q = .returned (.bool true) ∧ Below w.heap.size w w' := by
  by_cases hn : 200 < n
  · have hni : (200 : Int) < (n : Int) := by omega
    have ha := alive15_any w hG
    clear hI hr hn hG
    go_enter Tryz.func4, Tryz.ntmps4
    go_wp2_with fail
    refine ha.mono ?_
    rintro q w1 ⟨rfl, b1⟩
    go_wp2
    go_ret
    exact ⟨rfl, b1⟩
  have hni : ¬ (200 : Int) < (n : Int) := by omega
  have hP := rlDecode_any a n c xs w hI hr (by omega)
  have hQ := fun w' (h : Below w.heap.size w w') => rfDecode_any a n c xs w' (hI.keep h) hr
  have hal := Lib.hid (fun w' (h : Below w.heap.size w w') => alive15_any w' (hG.keep h hG.le))
  have hng := noGuardRp
  have hbt := built_rp0
  have hLn := hI.len
  have hno := fun (h : (decR xs).2 ≠ 0) => decR_bad h
  have hok := fun r (h : decR xs = (r, 0)) => bytesR_decR hr h
  obtain ⟨⟨r, E⟩, hd⟩ : ∃ q, decR xs = q := ⟨_, rfl⟩
  rw [hd] at hP hQ hno hok
  dsimp only at hP hQ hno
  by_cases hE : E = 0
  · subst hE
    obtain ⟨hrt, ho, hbx⟩ := hok r rfl
    have hen := fun w' => rlEncode_any r w' ho
    have he : encR r = (xs, 0) := by unfold encR; rw [if_pos ((rightR_iff r).2 hrt), hbx]
    rw [he] at hen
    dsimp only at hen
    rw [hLn] at hen
    have hIH := Lib.hid (fun w' (h : Below w.heap.size w w') => hI.keep h)
    have cv := Lib.hid (fun (w' : World) (b : Option Addr) (k d : Nat) (zs : List Int) (h : Ints .u8 w' b k d zs) => h.string (P := Tryz.prog) 27 9 5 Tryz.underlying27 Tryz.underlying5 Tryz.underlying9)
    obtain ⟨SA, hSA⟩ : ∃ S, strOfNums xs = S := ⟨_, rfl⟩
    have hSAH := Lib.hid hSA
    have heq := eq_rp r r
    rw [rpSame_self] at heq
    replace hQ := Lib.hid hQ
    obtain ⟨C, hC⟩ : ∃ D, rpV r = D := ⟨_, rfl⟩
    have hCl : C.length = 7 := by rw [← hC]; rfl
    have hC1 : ∀ v ∈ C, v.oneCell' = true := by rw [← hC]; exact rpV_one _
    rw [hC] at hP hQ heq hen
    replace hen := Lib.hid hen
    clear hno hok hrt ho hbx he hd hI hr hn hLn hSA hC hbt hG
    go_enter Tryz.func4, Tryz.ntmps4
    go_wp2_with fail
    refine hP.mono ?_
    rintro q w1 ⟨rfl, b1⟩
    have hz := Blk.new w1 26 (rpC 0 0 0 0 0 0 0)
    have hB2 := b1.alloc b1.size (.cells (rpC 0 0 0 0 0 0 0).toArray 26)
    have hGl := b1.size
    obtain ⟨W, hW⟩ : ∃ W, w1.alloc (.cells (rpC 0 0 0 0 0 0 0).toArray 26) = W := ⟨_, rfl⟩
    obtain ⟨G, hGe⟩ : ∃ G, w1.heap.size = G := ⟨_, rfl⟩
    rw [hW] at hz hB2
    rw [hGe] at hz hGl
    clear b1 hP
    go_wp2_with ((with_reducible refine wpList_alloc_blk rfl 26 rfl zeroRp ?_); refine RowKit.Hid.out ?_)
    refine Lib.hid ?_
    try simp only [Act.put, List.setIfInBounds_toArray, List.set_cons_zero, List.set_cons_succ]
    try rw [hW]
    try rw [hGe]
    clear hW hGe
    refine store_row rfl 26 (.tmp 3) (.tmp 16) rfl rfl rfl hz rowRp hCl rfl hC1 ?_
    intro w3 hk3 hg3
    have hB3 := hB2.grown hg3 hB2.size (fun q hq => by injection hq with hq; omega)
    clear hz hB2 hg3
    go_wp2_with fail
    refine (hQ.out w3 hB3).mono ?_
    rintro q w4 ⟨rfl, b4⟩
    have hk4 := hk3.keep b4 hk3.lt
    have hB4 := hB3.trans (b4.mono hB3.size)
    have hGlt : G < w4.heap.size := hk4.lt
    have hk5 := hk4.alloc (.cells (rpC 0 0 0 0 0 0 0).toArray 26)
    have hz5 := Blk.new w4 26 (rpC 0 0 0 0 0 0 0)
    have hB5 := hB4.alloc hB4.size (.cells (rpC 0 0 0 0 0 0 0).toArray 26)
    have hHl := hB4.size
    obtain ⟨V, hV⟩ : ∃ W, w4.alloc (.cells (rpC 0 0 0 0 0 0 0).toArray 26) = W := ⟨_, rfl⟩
    obtain ⟨H, hHe⟩ : ∃ G, w4.heap.size = G := ⟨_, rfl⟩
    rw [hV] at hk5 hz5 hB5
    rw [hHe] at hz5 hGlt hHl
    clear hk3 hB3 b4 hk4 hB4
    go_wp2_with ((with_reducible refine wpList_alloc_blk rfl 26 rfl zeroRp ?_); refine RowKit.Hid.out ?_)
    refine Lib.hid ?_
    try simp only [Act.put, List.setIfInBounds_toArray, List.set_cons_zero, List.set_cons_succ]
    try rw [hV]
    try rw [hHe]
    clear hV hHe
    refine store_row rfl 26 (.tmp 5) (.tmp 21) rfl rfl rfl hz5 rowRp hCl rfl hC1 ?_
    intro w6 hn6 hg6
    have hk6 := hk5.grown hg6 (fun e => by injection e with e; omega)
    have hB6 := hB5.grown hg6 hB5.size (fun q hq => by injection hq with hq; omega)
    clear hk5 hz5 hB5 hg6
    go_wp2_with (first
      | ((with_reducible refine load_if rfl 26 (.tmp 3) rfl ?_ hk6 rowRp hCl ?_); rfl)
      | ((with_reducible refine load_if rfl 26 (.tmp 5) rfl ?_ hn6 rowRp hCl ?_); rfl))
    refine (hen.out w6).mono ?_
    rintro q w7 ⟨b, d, rfl, hJ, b7⟩
    have hB7 := hB6.trans (b7.mono hB6.size)
    have v1 := cv.out w7 b n d xs hJ
    have v2 := cv.out w7 a n c xs (hIH.out w7 hB7)
    rw [hSAH.out] at v1 v2
    clear hk6 hn6 hB6 b7 hen hJ
    go_wp2_with fail
    refine (hal.out w7 hB7).mono ?_
    rintro q w8 ⟨rfl, b8⟩
    clear v1 v2
    go_wp2
    go_ret
    exact ⟨by first | rfl | simp, hB7.trans (b8.mono hB7.size)⟩
  · obtain rfl := hno hE
    have hEb : (E != 0) = true := bne_iff_ne.2 hE
    have heq := eq_rp noRpl noRpl
    rw [rpSame_self] at heq
    rw [show rpC 0 0 0 0 0 0 0 = rpV noRpl from rfl] at hbt
    replace hQ := Lib.hid hQ
    obtain ⟨C, hC⟩ : ∃ D, rpV noRpl = D := ⟨_, rfl⟩
    have hCl : C.length = 7 := by rw [← hC]; rfl
    have hC1 : ∀ v ∈ C, v.oneCell' = true := by rw [← hC]; exact rpV_one _
    rw [hC] at hP hQ heq hbt
    clear hno hok hd hI hr hn hLn hC hG
    go_enter Tryz.func4, Tryz.ntmps4
    go_wp2_with fail
    refine hP.mono ?_
    rintro q w1 ⟨rfl, b1⟩
    have hz := Blk.new w1 26 (rpC 0 0 0 0 0 0 0)
    have hB2 := b1.alloc b1.size (.cells (rpC 0 0 0 0 0 0 0).toArray 26)
    have hGl := b1.size
    obtain ⟨W, hW⟩ : ∃ W, w1.alloc (.cells (rpC 0 0 0 0 0 0 0).toArray 26) = W := ⟨_, rfl⟩
    obtain ⟨G, hGe⟩ : ∃ G, w1.heap.size = G := ⟨_, rfl⟩
    rw [hW] at hz hB2
    rw [hGe] at hz hGl
    clear b1 hP
    go_wp2_with ((with_reducible refine wpList_alloc_blk rfl 26 rfl zeroRp ?_); refine RowKit.Hid.out ?_)
    refine Lib.hid ?_
    try simp only [Act.put, List.setIfInBounds_toArray, List.set_cons_zero, List.set_cons_succ]
    try rw [hW]
    try rw [hGe]
    clear hW hGe
    refine store_row rfl 26 (.tmp 3) (.tmp 16) rfl rfl rfl hz rowRp hCl rfl hC1 ?_
    intro w3 hk3 hg3
    have hB3 := hB2.grown hg3 hB2.size (fun q hq => by injection hq with hq; omega)
    clear hz hB2 hg3
    go_wp2_with fail
    refine (hQ.out w3 hB3).mono ?_
    rintro q w4 ⟨rfl, b4⟩
    have hk4 := hk3.keep b4 hk3.lt
    have hB4 := hB3.trans (b4.mono hB3.size)
    have hGlt : G < w4.heap.size := hk4.lt
    have hk5 := hk4.alloc (.cells (rpC 0 0 0 0 0 0 0).toArray 26)
    have hz5 := Blk.new w4 26 (rpC 0 0 0 0 0 0 0)
    have hB5 := hB4.alloc hB4.size (.cells (rpC 0 0 0 0 0 0 0).toArray 26)
    have hHl := hB4.size
    obtain ⟨V, hV⟩ : ∃ W, w4.alloc (.cells (rpC 0 0 0 0 0 0 0).toArray 26) = W := ⟨_, rfl⟩
    obtain ⟨H, hHe⟩ : ∃ G, w4.heap.size = G := ⟨_, rfl⟩
    rw [hV] at hk5 hz5 hB5
    rw [hHe] at hz5 hGlt hHl
    clear hk3 hB3 b4 hk4 hB4
    go_wp2_with ((with_reducible refine wpList_alloc_blk rfl 26 rfl zeroRp ?_); refine RowKit.Hid.out ?_)
    refine Lib.hid ?_
    try simp only [Act.put, List.setIfInBounds_toArray, List.set_cons_zero, List.set_cons_succ]
    try rw [hV]
    try rw [hHe]
    clear hV hHe
    refine store_row rfl 26 (.tmp 5) (.tmp 21) rfl rfl rfl hz5 rowRp hCl rfl hC1 ?_
    intro w6 hn6 hg6
    have hk6 := hk5.grown hg6 (fun e => by injection e with e; omega)
    have hB6 := hB5.grown hg6 hB5.size (fun q hq => by injection hq with hq; omega)
    clear hk5 hz5 hB5 hg6
    go_wp2_with (first
      | ((with_reducible refine load_if rfl 26 (.tmp 3) rfl ?_ hk6 rowRp hCl ?_); rfl)
      | ((with_reducible refine load_if rfl 26 (.tmp 5) rfl ?_ hn6 rowRp hCl ?_); rfl)
      | ((with_reducible refine build_if rfl 26 _ rfl (cells := C.toArray) ?_ ?_); (refine Eq.trans (congrArg _ ?_) hbt; kernel_rfl)))
    refine (hal.out w6 hB6).mono ?_
    rintro q w8 ⟨rfl, b8⟩
    go_wp2
    go_ret
    exact ⟨by first | rfl | simp, hB6.trans (b8.mono hB6.size)⟩
end Go.Proofs.YtbiabjehdmddbaaGreatDoor

/-
  The laws ReplyBytes and ReplyReads, as their statements' frames take them. Conditions: the rows' own.
-/
namespace Go.Proofs.YtbiabjehdmddbaaGreatDoor
open Go.RowKit

theorem byte_of15 {z : Int} (h : (Lit.int .u8 z).wf = true) : 0 ≤ z ∧ z < 256 := by
  simp [Lit.wf, IntKind.min, IntKind.max, IntKind.signed, IntKind.bits] at h
  omega
theorem law_rlreads (a : Option Addr) (n c : Nat) (xs : List Int) (w : World) (hG : Pow12 w) (hI : Ints .u8 w a n c xs) (hr : ∀ x ∈ xs, (Lit.int .u8 x).wf = true) (_hm : c ≤ maxLen) :
    Calls Tryz.prog 4 #[.slice a n c] w fun q w' => q = .returned (.bool true) ∧ Below w.heap.size w w' :=
  rlReads_any a n c xs w hG hI (fun x hx => byte_of15 (hr x hx))
theorem law_rlbytes (K E S Q O U X : Int) (w : World) (hG : Pow12 w) (ho : RplOk ⟨K, E, S, Q, O, U, X⟩) :
    Calls Tryz.prog 3 #[.agg (rpC K E S Q O U X).toArray] w fun q w' => q = .returned (.bool true) ∧ Below w.heap.size w w' :=
  rlBytes_any ⟨K, E, S, Q, O, U, X⟩ w hG ho
end Go.Proofs.YtbiabjehdmddbaaGreatDoor

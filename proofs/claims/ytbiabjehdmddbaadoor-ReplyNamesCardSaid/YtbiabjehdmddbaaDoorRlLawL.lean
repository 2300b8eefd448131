/-
  The law ReplyLines (layer 15). New memory alone is written. Conditions: the library's table of powers of ten as its text lays it.
-/
import Derived.Test.YtbiabjehdmddbaaDoorRlAlive
import Derived.Test.YtbiabjehdmddbaaDoorRfParse
namespace Go.Proofs.YtbiabjehdmddbaaDoor
open Go.RowKit

set_option maxRecDepth 100000 in
set_option maxHeartbeats 4000000 in
theorem rlLines_any (s : ByteArray) (w : World) (hG : Pow12 w) : Calls Tryd.prog 3 #[.string s] w fun q w' => q = .returned (.bool true) ∧ Below w.heap.size w w' := by
  by_cases h3 : 300 < s.size
  · have h3i : (300 : Int) < (s.size : Int) := by omega
    have ha := alive15_any w hG
    clear hG h3
    go_enter Tryd.func3, Tryd.ntmps3
    go_wp2_with fail
    refine ha.mono ?_
    rintro q w1 ⟨rfl, b1⟩
    go_wp2
    go_ret
    exact ⟨rfl, b1⟩
  have h3i : ¬ (300 : Int) < (s.size : Int) := by omega
  have hP := rlParse_any s w hG (by omega)
  have hQ := fun w' => rfParse_any s w' (by omega)
  have hal := Lib.hid (fun w' (h : Below w.heap.size w w') => alive15_any w' (hG.keep h hG.le))
  have hLi := Lib.hid (fun r (ho : RplOk r) w' (h : Below w.heap.size w w') => rlLine_any r w' (hG.keep h hG.le) ho)
  have hng := noGuardRp
  have hbt := built_rp0
  clear hG h3
  rcases parseR_cases (numsOf s) with ⟨r, hr, ho, hl, hR⟩ | ⟨hR, _⟩
  · rw [hR] at hP hQ
    dsimp only at hP hQ
    replace hQ := Lib.hid hQ
    have heq := eq_rp r r
    rw [rpSame_self] at heq
    have hLi := hLi.out r ho
    have hls : strOfNums (lineR r) = s := by rw [hl, str_nums]
    rw [hls] at hLi
    obtain ⟨C, hC⟩ : ∃ D, rpV r = D := ⟨_, rfl⟩
    have hCl : C.length = 7 := by rw [← hC]; rfl
    have hC1 : ∀ v ∈ C, v.oneCell' = true := by rw [← hC]; exact rpV_one _
    rw [hC] at hP hQ heq hLi
    replace hLi := Lib.hid hLi
    clear hR hr ho hl hls hC hbt
    go_enter Tryd.func3, Tryd.ntmps3
    go_wp2_with fail
    refine hP.mono ?_
    rintro q w1 ⟨rfl, b1⟩
    have hz := Blk.new w1 27 (rpC 0 0 0 0 0 0 0)
    have hB2 := b1.alloc b1.size (.cells (rpC 0 0 0 0 0 0 0).toArray 27)
    have hGl := b1.size
    obtain ⟨W, hW⟩ : ∃ W, w1.alloc (.cells (rpC 0 0 0 0 0 0 0).toArray 27) = W := ⟨_, rfl⟩
    obtain ⟨G, hGe⟩ : ∃ G, w1.heap.size = G := ⟨_, rfl⟩
    rw [hW] at hz hB2
    rw [hGe] at hz hGl
    clear b1 hP
    go_wp2_with ((with_reducible refine wpList_alloc_blk rfl 27 rfl zeroRp ?_); refine RowKit.Hid.out ?_)
    refine Lib.hid ?_
    try simp only [Act.put, List.setIfInBounds_toArray, List.set_cons_zero, List.set_cons_succ]
    try rw [hW]
    try rw [hGe]
    clear hW hGe
    refine store_row rfl 27 (.tmp 3) (.tmp 14) rfl rfl rfl hz rowRp hCl rfl hC1 ?_
    intro w3 hk3 hg3
    have hB3 := hB2.grown hg3 hB2.size (fun q hq => by injection hq with hq; omega)
    clear hz hB2 hg3
    go_wp2_with fail
    refine (hQ.out w3).mono ?_
    rintro q w4 ⟨rfl, b4⟩
    have hk4 := hk3.keep b4 hk3.lt
    have hB4 := hB3.trans (b4.mono hB3.size)
    have hGlt : G < w4.heap.size := hk4.lt
    have hk5 := hk4.alloc (.cells (rpC 0 0 0 0 0 0 0).toArray 27)
    have hz5 := Blk.new w4 27 (rpC 0 0 0 0 0 0 0)
    have hB5 := hB4.alloc hB4.size (.cells (rpC 0 0 0 0 0 0 0).toArray 27)
    have hHl := hB4.size
    obtain ⟨V, hV⟩ : ∃ W, w4.alloc (.cells (rpC 0 0 0 0 0 0 0).toArray 27) = W := ⟨_, rfl⟩
    obtain ⟨H, hHe⟩ : ∃ G, w4.heap.size = G := ⟨_, rfl⟩
    rw [hV] at hk5 hz5 hB5
    rw [hHe] at hz5 hGlt hHl
    clear hk3 hB3 b4 hk4 hB4
    go_wp2_with ((with_reducible refine wpList_alloc_blk rfl 27 rfl zeroRp ?_); refine RowKit.Hid.out ?_)
    refine Lib.hid ?_
    try simp only [Act.put, List.setIfInBounds_toArray, List.set_cons_zero, List.set_cons_succ]
    try rw [hV]
    try rw [hHe]
    clear hV hHe
    refine store_row rfl 27 (.tmp 5) (.tmp 19) rfl rfl rfl hz5 rowRp hCl rfl hC1 ?_
    intro w6 hn6 hg6
    have hk6 := hk5.grown hg6 (fun e => by injection e with e; omega)
    have hB6 := hB5.grown hg6 hB5.size (fun q hq => by injection hq with hq; omega)
    clear hk5 hz5 hB5 hg6
    go_wp2_with (first
      | ((with_reducible refine load_if rfl 27 (.tmp 3) rfl ?_ hk6 rowRp hCl ?_); rfl)
      | ((with_reducible refine load_if rfl 27 (.tmp 5) rfl ?_ hn6 rowRp hCl ?_); rfl))
    refine (hLi.out w6 hB6).mono ?_
    rintro q w7 ⟨rfl, b7⟩
    have hB7 := hB6.trans (b7.mono hB6.size)
    clear hk6 hn6 hB6 b7 hLi
    go_wp2_with fail
    refine (hal.out w7 hB7).mono ?_
    rintro q w8 ⟨rfl, b8⟩
    go_wp2
    go_ret
    exact ⟨by first | rfl | simp, hB7.trans (b8.mono hB7.size)⟩
  · rw [hR] at hP hQ
    dsimp only at hP hQ
    replace hQ := Lib.hid hQ
    have heq := eq_rp noRpl noRpl
    rw [rpSame_self] at heq
    rw [show rpC 0 0 0 0 0 0 0 = rpV noRpl from rfl] at hbt
    obtain ⟨C, hC⟩ : ∃ D, rpV noRpl = D := ⟨_, rfl⟩
    have hCl : C.length = 7 := by rw [← hC]; rfl
    have hC1 : ∀ v ∈ C, v.oneCell' = true := by rw [← hC]; exact rpV_one _
    rw [hC] at hP hQ heq hbt
    clear hR hC hLi
    go_enter Tryd.func3, Tryd.ntmps3
    go_wp2_with fail
    refine hP.mono ?_
    rintro q w1 ⟨rfl, b1⟩
    have hz := Blk.new w1 27 (rpC 0 0 0 0 0 0 0)
    have hB2 := b1.alloc b1.size (.cells (rpC 0 0 0 0 0 0 0).toArray 27)
    have hGl := b1.size
    obtain ⟨W, hW⟩ : ∃ W, w1.alloc (.cells (rpC 0 0 0 0 0 0 0).toArray 27) = W := ⟨_, rfl⟩
    obtain ⟨G, hGe⟩ : ∃ G, w1.heap.size = G := ⟨_, rfl⟩
    rw [hW] at hz hB2
    rw [hGe] at hz hGl
    clear b1 hP
    go_wp2_with ((with_reducible refine wpList_alloc_blk rfl 27 rfl zeroRp ?_); refine RowKit.Hid.out ?_)
    refine Lib.hid ?_
    try simp only [Act.put, List.setIfInBounds_toArray, List.set_cons_zero, List.set_cons_succ]
    try rw [hW]
    try rw [hGe]
    clear hW hGe
    refine store_row rfl 27 (.tmp 3) (.tmp 14) rfl rfl rfl hz rowRp hCl rfl hC1 ?_
    intro w3 hk3 hg3
    have hB3 := hB2.grown hg3 hB2.size (fun q hq => by injection hq with hq; omega)
    clear hz hB2 hg3
    go_wp2_with fail
    refine (hQ.out w3).mono ?_
    rintro q w4 ⟨rfl, b4⟩
    have hk4 := hk3.keep b4 hk3.lt
    have hB4 := hB3.trans (b4.mono hB3.size)
    have hGlt : G < w4.heap.size := hk4.lt
    have hk5 := hk4.alloc (.cells (rpC 0 0 0 0 0 0 0).toArray 27)
    have hz5 := Blk.new w4 27 (rpC 0 0 0 0 0 0 0)
    have hB5 := hB4.alloc hB4.size (.cells (rpC 0 0 0 0 0 0 0).toArray 27)
    have hHl := hB4.size
    obtain ⟨V, hV⟩ : ∃ W, w4.alloc (.cells (rpC 0 0 0 0 0 0 0).toArray 27) = W := ⟨_, rfl⟩
    obtain ⟨H, hHe⟩ : ∃ G, w4.heap.size = G := ⟨_, rfl⟩
    rw [hV] at hk5 hz5 hB5
    rw [hHe] at hz5 hGlt hHl
    clear hk3 hB3 b4 hk4 hB4
    go_wp2_with ((with_reducible refine wpList_alloc_blk rfl 27 rfl zeroRp ?_); refine RowKit.Hid.out ?_)
    refine Lib.hid ?_
    try simp only [Act.put, List.setIfInBounds_toArray, List.set_cons_zero, List.set_cons_succ]
    try rw [hV]
    try rw [hHe]
    clear hV hHe
    refine store_row rfl 27 (.tmp 5) (.tmp 19) rfl rfl rfl hz5 rowRp hCl rfl hC1 ?_
    intro w6 hn6 hg6
    have hk6 := hk5.grown hg6 (fun e => by injection e with e; omega)
    have hB6 := hB5.grown hg6 hB5.size (fun q hq => by injection hq with hq; omega)
    clear hk5 hz5 hB5 hg6
    go_wp2_with (first
      | ((with_reducible refine load_if rfl 27 (.tmp 3) rfl ?_ hk6 rowRp hCl ?_); rfl)
      | ((with_reducible refine load_if rfl 27 (.tmp 5) rfl ?_ hn6 rowRp hCl ?_); rfl)
      | ((with_reducible refine build_if rfl 27 _ rfl (cells := C.toArray) ?_ ?_); (refine Eq.trans (congrArg _ ?_) hbt; kernel_rfl)))
    refine (hal.out w6 hB6).mono ?_
    rintro q w8 ⟨rfl, b8⟩
    go_wp2
    go_ret
    exact ⟨by first | rfl | simp, hB6.trans (b8.mono hB6.size)⟩
end Go.Proofs.YtbiabjehdmddbaaDoor

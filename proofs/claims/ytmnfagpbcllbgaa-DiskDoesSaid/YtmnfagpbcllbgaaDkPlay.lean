/-
  The disk's laws: small tells something; play leaves a disk of the call's own. New memory alone is written. Conditions: the calls lie below the disk's blocks; the steps in all are at most 2^42.
-/
import Derived.Test.YtmnfagpbcllbgaaDkAlive
import Derived.Test.YtmnfagpbcllbgaaDkOpen
namespace Go.Proofs.Ytmnfagpbcllbgaa
open Go.RowKit

def opZ : List Value := [.int .i64 0, .int .i64 0, .int .i64 0, .slice none 0 0, .slice none 0 0]
set_option maxRecDepth 100000 in
theorem sizeOpD : (Try.prog.info? 40).map (·.size) = some 5 := by kernel_rfl
theorem rowOpD : IsRow Try.prog 40 5 := IsRow.struct Try.underlying40 sizeOpD
set_option maxRecDepth 100000 in
theorem zeroOpD : Zero Try.prog 40 opZ := by unfold Zero; kernel_rfl
theorem OpD.one (o : OpD) : ∀ v ∈ o.cells, v.oneCell' = true := by
  intro v hv
  simp [OpD.cells] at hv
  rcases hv with rfl | rfl | rfl | rfl | rfl <;> rfl
theorem OpsD.get {w : World} {a : Option Addr} {n c : Nat} {ops : List OpD} (h : OpsD w a n c ops) (i : Nat) (hi : i < n) : ∃ b off o, a = some ⟨b, off, none⟩ ∧ ops[i]? = some o ∧ w.rangeAt b (off + i * 5) o.cells ∧ o.Ok w := by
  rcases h.at' with h0 | ⟨b, off, ha, hc⟩
  · omega
  · have hl := h.len
    have ho : ops[i]? = some ops[i] := List.getElem?_eq_getElem (by omega)
    exact ⟨b, off, ops[i], ha, ho, fun j v hj => by exact hc i _ ho j v hj, h.ok _ (List.getElem_mem _)⟩

set_option maxRecDepth 100000 in
set_option maxHeartbeats 1000000 in
theorem small18_any {w : World} {a : Option Addr} {n c : Nat} {ops : List OpD} (hO : OpsD w a n c ops) (hn : n ≤ 1954687338269) :
    Calls Try.prog 5 #[.slice a n c] w fun q w' => ∃ b, q = .returned (.bool b) ∧ Below w.heap.size w w' := by
  have hnH := Lib.hid hn
  have hZ := zeroOpD
  have hZl : opZ.length = 5 := rfl
  obtain ⟨ZL, hZL⟩ : ∃ z, opZ = z := ⟨_, rfl⟩
  rw [hZL] at hZ hZl
  clear hZL hn
  go_enter Try.func5, Try.ntmps5
  go_wp2_with fail
  go_loopw [3, 10] (fun v i wr => ∃ (j : Nat) (V : Int), j ≤ n ∧ i = .int .i64 j ∧ v = .int .i64 V ∧ Below w.heap.size w wr) (fun _ i _ => n - (intOf i).toNat)
  case atStart => exact ⟨0, _, Nat.zero_le _, rfl, rfl, Below.refl _ _⟩
  case round =>
    obtain ⟨j, V, hj, rfl, rfl, hB⟩ := hrel
    by_cases hlt : j < n
    · have hji : (j : Int) < (n : Int) := by omega
      have hjb : (n : Int) ≤ 1954687338269 := by have := hnH.out; omega
      obtain ⟨b, off, o, rfl, ho, hr, hk⟩ := (hO.keep hB).get j hlt
      have hol : o.cells.length = 5 := rfl
      have hone := Lib.hid o.one
      have hIr : IsRow Try.prog 40 o.cells.length := rowOpD
      have h3 : o.cells[3]? = some (.slice o.ba o.bn o.bc) := rfl
      have h4 : o.cells[4]? = some (.slice o.ua o.un o.uc) := rfl
      obtain ⟨C, hC⟩ : ∃ C, o.cells = C := ⟨_, rfl⟩
      rw [hC] at hr hol hone hIr h3 h4
      have hnew := Blk.new wr 40 ZL
      have hB1 := hB.alloc hB.size (.cells ZL.toArray 40)
      have hltH := Lib.hid hlt
      clear hC hlt hj ho hk
      go_wp2_with (first
        | ((with_reducible refine wpList_load_part rfl 40 (.tmp 12) rfl ?_ C hr hIr ?_); rfl)
        | (with_reducible refine wpList_alloc_blk rfl 40 rfl hZ ?_)
        | (refine wpList_store_part (cs := C) rfl 40 (.tmp 5) (.tmp 13) rfl rfl rfl hnew hIr ?_ hone.out ?_
           (rw [hol, hZl]; decide)
           intro w5 hk5 hg5
           refine RowKit.Hid.out ?_))
      refine Lib.hid ?_
      rw [overV_all _ _ (by rw [hol, hZl])] at hk5
      have hB5 := hB1.trans (below_of_grown hg5 hB.size (by rw [size1]; omega))
      have c3 : w5.cell? ⟨wr.heap.size, 3, none⟩ = some (.slice o.ba o.bn o.bc) := (hk5.cell 3).trans h3
      have c4 : w5.cell? ⟨wr.heap.size, 4, none⟩ = some (.slice o.ua o.un o.uc) := (hk5.cell 4).trans h4
      clear hk5 hg5 hB1 hnew hr hB
      go_wp2
      exact ⟨⟨j + 1, _, by have := hltH.out; omega, by congr 1, rfl, hB5⟩, by simp only [intOf]; have := hltH.out; omega⟩
    · obtain rfl : j = n := by omega
      go_wp2
      go_ret
      exact ⟨_, rfl, hB⟩

theorem set_room18 (D : DkV) (i : Nat) (v : FlV) : (D.set i v).room = D.room := by
  unfold DkV.set
  split
  · rfl
  · split <;> rfl
theorem burn_room18 (D : DkV) : D.burn.room = D.room := by
  unfold DkV.burn
  split <;> rfl
theorem apD_room (D : DkV) (f : Int) (b : List Int) : (apD D f b).1.room = D.room := by
  unfold apD
  split
  · rfl
  · split
    · rfl
    · split
      · rfl
      · exact (burn_room18 _).trans (set_room18 _ _ _)
theorem ctD_room (D : DkV) (f n : Int) : (ctD D f n).1.room = D.room := by
  unfold ctD
  split
  · rfl
  · split
    · rfl
    · exact (burn_room18 _).trans (set_room18 _ _ _)
theorem syD_room (D : DkV) (f : Int) : (syD D f).1.room = D.room := by
  unfold syD
  split
  · rfl
  · split
    · rfl
    · split
      · exact burn_room18 _
      · exact (set_room18 _ _ _).trans (burn_room18 _)

set_option maxRecDepth 100000 in
set_option maxHeartbeats 2000000 in
theorem play18_room {w0 w : World} {g : Nat} {D : DkV} {T : Nat} {a : Option Addr} {n c : Nat} {ops : List OpD} (h : DkOwn w0.heap.size w0 w g D) (hD : D.Ok T) (hO : OpsD w0 a n c ops) (hT : T + n < 4398046511104) (hn : n ≤ 1954687338269) :
    Calls Try.prog 10 #[.pointer (some ⟨g, 0, none⟩), .slice a n c] w fun q w' => q = .returned (.tuple #[]) ∧ ∃ D', D'.Ok (T + n) ∧ D'.room = D.room ∧ DkOwn w0.heap.size w0 w' g D' := by
  have hnH := Lib.hid hn
  obtain ⟨Rm, hRm⟩ : ∃ Rm, D.room = Rm := ⟨_, rfl⟩
  rw [hRm]
  have hTH := Lib.hid hT
  have hZ := zeroOpD
  have hZl : opZ.length = 5 := rfl
  obtain ⟨ZL, hZL⟩ : ∃ z, opZ = z := ⟨_, rfl⟩
  rw [hZL] at hZ hZl
  clear hZL hn hT
  go_enter Try.func10, Try.ntmps10
  go_wp2_with fail
  go_loopw [8] (fun i wr => ∃ j : Nat, j ≤ n ∧ i = .int .i64 j ∧ ∃ D', D'.Ok (T + j) ∧ D'.room = Rm ∧ DkOwn w0.heap.size w0 wr g D') (fun i _ => n - (intOf i).toNat)
  case atStart => exact ⟨0, Nat.zero_le _, rfl, D, hD, hRm, h⟩
  case round =>
    clear h hD hRm
    obtain ⟨j, hj, rfl, D, hOk, hrm, hS⟩ := hrel
    have hrmH := Lib.hid hrm
    clear hrm
    by_cases hlt : j < n
    · have hji : (j : Int) < (n : Int) := by omega
      have hjb : (n : Int) ≤ 1954687338269 := by have := hnH.out; omega
      obtain ⟨_, _, o', hae, ho', hrae, hk0⟩ := hO.get j hlt
      clear hae hrae
      have hub : ∀ x, o'.ua = some x → 0 < o'.un → x.block < w0.heap.size := hk0.u.isIn.2
      obtain ⟨b, off, o, rfl, ho, hr, hk⟩ := (hO.keep hS.b).get j hlt
      obtain rfl : o' = o := by rw [ho] at ho'; injection ho' with ho'; exact ho'.symm
      clear ho' hk0
      have hol : o'.cells.length = 5 := rfl
      have hone := Lib.hid o'.one
      have hIr : IsRow Try.prog 40 o'.cells.length := rowOpD
      obtain ⟨k, hk0⟩ : ∃ k, o'.k = k := ⟨_, rfl⟩
      obtain ⟨f, hf0⟩ : ∃ f, o'.f = f := ⟨_, rfl⟩
      obtain ⟨N, hN0⟩ : ∃ N, o'.n = N := ⟨_, rfl⟩
      have h0 : o'.cells[0]? = some (.int .i64 k) := by rw [← hk0]; rfl
      have h1 : o'.cells[1]? = some (.int .i64 f) := by rw [← hf0]; rfl
      have h2 : o'.cells[2]? = some (.int .i64 N) := by rw [← hN0]; rfl
      have h3 : o'.cells[3]? = some (.slice o'.ba o'.bn o'.bc) := rfl
      have h4 : o'.cells[4]? = some (.slice o'.ua o'.un o'.uc) := rfl
      obtain ⟨C, hC⟩ : ∃ C, o'.cells = C := ⟨_, rfl⟩
      rw [hC] at hr hol hone hIr h0 h1 h2 h3 h4
      have hnew := Blk.new wr 40 ZL
      have hB1 := below1 wr (.cells ZL.toArray 40)
      have hltH := Lib.hid hlt
      clear hC hlt hj ho hk0 hf0
      go_wp2_with (first
        | ((with_reducible refine wpList_load_part rfl 40 (.tmp 10) rfl ?_ C hr hIr ?_); rfl)
        | (with_reducible refine wpList_alloc_blk rfl 40 rfl hZ ?_)
        | (refine wpList_store_part (cs := C) rfl 40 (.tmp 5) (.tmp 11) rfl rfl rfl hnew hIr ?_ hone.out ?_
           (rw [hol, hZl]; decide)
           intro w5 hk5 hg5
           refine RowKit.Hid.out ?_))
      refine Lib.hid ?_
      rw [overV_all _ _ (by rw [hol, hZl])] at hk5
      have hB5 : Below wr.heap.size wr w5 := hB1.trans (below_of_grown hg5 (Nat.le_refl _) (by rw [size1]; omega))
      have d0 : w5.cell? ⟨wr.heap.size, 0, none⟩ = some (.int .i64 k) := (hk5.cell 0).trans h0
      have d1 : w5.cell? ⟨wr.heap.size, 1, none⟩ = some (.int .i64 f) := (hk5.cell 1).trans h1
      have d2 : w5.cell? ⟨wr.heap.size, 2, none⟩ = some (.int .i64 N) := (hk5.cell 2).trans h2
      have d3 : w5.cell? ⟨wr.heap.size, 3, none⟩ = some (.slice o'.ba o'.bn o'.bc) := (hk5.cell 3).trans h3
      have d4 : w5.cell? ⟨wr.heap.size, 4, none⟩ = some (.slice o'.ua o'.un o'.uc) := (hk5.cell 4).trans h4
      have hS5 := hS.keep hB5
      have hk5o := hk.keep hB5
      have hOk5 := hOk
      have hTj : T + j < 4398046511104 := by have := hTH.out; have := hltH.out; omega
      have hOk6H := Lib.hid (hOk.more (Nat.le_succ _))
      clear hk5 hg5 hB1 hnew hr h0 h1 h2 h3 h4 hB5 hS hk hOk hol
      by_cases hkk : k = 0
      · subst hkk
        have c1 := own_append (file := f) hS5 hOk5 (by omega) hk5o.b
        have o6 := Lib.hid (apD_ok hOk5 f o'.bs)
        have r6 := Lib.hid ((apD_room D f o'.bs).trans hrmH.out)
        clear hOk5 hS5 hk5o hub hN0
        go_wp2_with fail
        refine c1.mono ?_
        rintro q w6 ⟨rfl, h6⟩
        clear c1
        go_wp2
        exact ⟨⟨j + 1, by have := hltH.out; omega, by congr 1, _, o6.out, r6.out, h6⟩, by simp only [intOf]; have := hltH.out; omega⟩
      · skip
        by_cases hkk : k = 1
        · subst hkk
          have c1 := own_cut (file := f) (n := N) hS5 hOk5 (by omega)
          have o6 := Lib.hid (ctD_ok hOk5 f N)
          have r6 := Lib.hid ((ctD_room D f N).trans hrmH.out)
          clear hOk5 hS5 hk5o hub hN0
          go_wp2_with fail
          refine c1.mono ?_
          rintro q w6 ⟨rfl, h6⟩
          clear c1
          go_wp2
          exact ⟨⟨j + 1, by have := hltH.out; omega, by congr 1, _, o6.out, r6.out, h6⟩, by simp only [intOf]; have := hltH.out; omega⟩
        · skip
          by_cases hkk : k = 2
          · subst hkk
            have c1 := own_sync (file := f) hS5 hOk5 (by omega)
            have o6 := Lib.hid ((syD_ok hOk5 f).more (Nat.le_succ _))
            have r6 := Lib.hid ((syD_room D f).trans hrmH.out)
            clear hOk5 hS5 hk5o hub hN0
            go_wp2_with fail
            refine c1.mono ?_
            rintro q w6 ⟨rfl, h6⟩
            clear c1
            go_wp2
            exact ⟨⟨j + 1, by have := hltH.out; omega, by congr 1, _, o6.out, r6.out, h6⟩, by simp only [intOf]; have := hltH.out; omega⟩
          · skip
            by_cases hkk : k = 3
            · subst hkk
              have c1 := own_arm (n := N) hS5 hOk5
              have o6 := Lib.hid ((armD_ok hOk5 N (by rw [← hN0]; exact hk5o.n.2)).more (Nat.le_succ _))
              have r6 := Lib.hid (show (armD D N).room = Rm from hrmH.out)
              clear hOk5 hS5 hk5o hub hN0
              go_wp2_with fail
              refine c1.mono ?_
              rintro q w6 ⟨rfl, h6⟩
              clear c1
              go_wp2
              exact ⟨⟨j + 1, by have := hltH.out; omega, by congr 1, _, o6.out, r6.out, h6⟩, by simp only [intOf]; have := hltH.out; omega⟩
            · skip
              by_cases hkk : k = 4
              · subst hkk
                have c1 := own_crash hS5 (Below.refl _ _) hOk5 (by omega) hk5o.u (fun x hx h0 => .inr (hub x hx h0))
                have o6 := Lib.hid ((crD_ok hOk5 o'.us).more (Nat.le_succ _))
                have r6 := Lib.hid (show (crD D o'.us).room = Rm from hrmH.out)
                clear hOk5 hS5 hk5o hub hN0
                go_wp2_with fail
                refine c1.mono ?_
                rintro q w6 ⟨rfl, h6⟩
                clear c1
                go_wp2
                exact ⟨⟨j + 1, by have := hltH.out; omega, by congr 1, _, o6.out, r6.out, h6⟩, by simp only [intOf]; have := hltH.out; omega⟩
              · skip
                clear hOk5 hk5o hub hN0
                go_wp2
                exact ⟨⟨j + 1, by have := hltH.out; omega, by congr 1, _, hOk6H.out, hrmH.out, hS5⟩, by simp only [intOf]; have := hltH.out; omega⟩
    · obtain rfl : j = n := by omega
      clear hO
      go_wp2
      (try simp only [Exit.inBlock, Exit.then])
      first
        | go_end0
        | refine bodyPost_ret (results_none rfl _ _ _) rfl ?_
      exact ⟨rfl, D, hOk, hrmH.out, hS⟩
theorem play18_any {w0 w : World} {g : Nat} {D : DkV} {T : Nat} {a : Option Addr} {n c : Nat} {ops : List OpD} (h : DkOwn w0.heap.size w0 w g D) (hD : D.Ok T) (hO : OpsD w0 a n c ops) (hT : T + n < 4398046511104) (hn : n ≤ 1954687338269) :
    Calls Try.prog 10 #[.pointer (some ⟨g, 0, none⟩), .slice a n c] w fun q w' => q = .returned (.tuple #[]) ∧ ∃ D', D'.Ok (T + n) ∧ DkOwn w0.heap.size w0 w' g D' :=
  (play18_room h hD hO hT hn).mono fun _ _ ⟨e, D', k1, _, k2⟩ => ⟨e, D', k1, k2⟩
end Go.Proofs.Ytmnfagpbcllbgaa

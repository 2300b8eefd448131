/-
  Texts of stages that were proved on their own, joined: MsMem, MsSame, MsEq, MsCopy, MsBare, MsRight, MrRight, MrSame. Each begins with its own words.
-/
import Derived.Test.YtgaelgpmmgjldaaJMsAll0
import Derived.Test.YtgaelgpmmgjldaaJMsAll2
import Derived.Test.YtgaelgpmmgjldaaJMsAll1
import Derived.Test.YtgaelgpmmgjldaaJMsAll4
import Derived.Test.YtgaelgpmmgjldaaSteps
import Derived.Test.YtgaelgpmmgjldaaJMsAll5
import Derived.Test.YtgaelgpmmgjldaaEqArr
import Derived.Test.YtgaelgpmmgjldaaSeqS
import Derived.RegionTactic
import Derived.ChangeAlike
import Derived.Deep.QuietTactic
import Derived.BigQuiet

/-
  Messages in memory (layer 14): their cells, a block that holds one, values of many cells boxed, stored and told; whether two heads are the same. No conditions but those that each row names.
-/
namespace Go.Proofs.Ytgaelgpmmgjldaa
open Go.RowKit

def hdC (K S Q O : Int) (H : List Int) : List Value := .int .i64 K :: .int .u32 S :: .int .u32 Q :: .int .u32 O :: H.map (Value.int .u8)
def msC (K S Q O : Int) (H : List Int) (a : Option Addr) (n c : Nat) : List Value := hdC K S Q O H ++ [.slice a n c]
theorem hdC_len {K S Q O : Int} {H : List Int} (h : H.length = 16) : (hdC K S Q O H).length = 20 := by simp [hdC, h]
theorem msC_len {K S Q O : Int} {H : List Int} {a : Option Addr} {n c : Nat} (h : H.length = 16) : (msC K S Q O H a n c).length = 21 := by simp [msC, hdC, h]
theorem z16_len : z16.length = 16 := rfl
theorem hdC_one (K S Q O : Int) (H : List Int) : ∀ v ∈ hdC K S Q O H, v.oneCell' = true := by
  intro v hv
  unfold hdC at hv
  simp only [List.mem_cons, List.mem_map] at hv
  rcases hv with rfl | rfl | rfl | rfl | ⟨x, _, rfl⟩ <;> rfl
theorem msC_one (K S Q O : Int) (H : List Int) (a : Option Addr) (n c : Nat) : ∀ v ∈ msC K S Q O H a n c, v.oneCell' = true := by
  intro v hv
  rcases List.mem_append.1 hv with h | h
  · exact hdC_one _ _ _ _ _ v h
  · obtain rfl := List.mem_singleton.1 h
    rfl
theorem hint_one (H : List Int) : ∀ v ∈ H.map (Value.int .u8), v.oneCell' = true := by
  intro v hv
  obtain ⟨x, _, rfl⟩ := List.mem_map.1 hv
  rfl
section
variable {w : World} {g : Nat} {T : TypeId} {K S Q O : Int} {H : List Int} {a : Option Addr} {n c : Nat}
theorem ms0 (h : Blk w g T (msC K S Q O H a n c)) : w.cell? ⟨g, 0, none⟩ = some (.int .i64 K) := h.cell 0
theorem ms1 (h : Blk w g T (msC K S Q O H a n c)) : w.cell? ⟨g, 1, none⟩ = some (.int .u32 S) := h.cell 1
theorem ms2 (h : Blk w g T (msC K S Q O H a n c)) : w.cell? ⟨g, 2, none⟩ = some (.int .u32 Q) := h.cell 2
theorem ms3 (h : Blk w g T (msC K S Q O H a n c)) : w.cell? ⟨g, 3, none⟩ = some (.int .u32 O) := h.cell 3
theorem ms5 (h : Blk w g T (msC K S Q O H a n c)) (hl : H.length = 16) : w.cell? ⟨g, 20, none⟩ = some (.slice a n c) := by
  rw [h.cell, msC, List.getElem?_append_right (by rw [hdC_len hl]; exact Nat.le_refl _), hdC_len hl]
  rfl
theorem ms4 (h : Blk w g T (msC K S Q O H a n c)) (hl : H.length = 16) : w.rangeAt g 4 (H.map (Value.int .u8)) := h.range 4 _ fun j v hj => by
  have hj' := (List.getElem?_eq_some_iff.1 hj).1
  rw [List.length_map] at hj'
  rw [msC, List.getElem?_append_left (by rw [hdC_len hl]; omega), show 4 + j = j + 4 by omega]
  exact hj
end
section
variable {P : Program} {w : World} {ops : Array Oper} {rest : List Oper} {o : Oper} {a : Act} {Q : Exit → Act → World → Prop}
theorem box_row (hgd : o.guard = none) (ty : TypeId) (x : Operand) (ho : o.op = .box ty x) (cs : List Value) (hx : a.eval x = .agg cs.toArray)
    (h : wpList P ops Q rest (a.put o.dst (.pointer (some ⟨w.heap.size, 0, none⟩))) (w.alloc (.cells cs.toArray ty))) : wpList P ops Q (o :: rest) a w := by
  refine wpList_plain hgd fun K hK => ?_
  unfold Oper.wp execOp
  simp only [ho, Sem.run_bind, Instr.box, newVar, newRow, run_newObj_alloc, Sem.run_pure, Result.andThen_ok, hx]
  exact hK _ _ h
/-- A whole block, stored at once. -/
theorem store_row (hgd : o.guard = none) (ty : TypeId) (x y : Operand) (ho : o.op = .store ty x y) {g : Nat} {t : TypeId} {cur cs : List Value} (hx : a.eval x = .pointer (some ⟨g, 0, none⟩)) (hy : a.eval y = .agg cs.toArray) (hg : Blk w g t cur)
    {m : Nat} (hr : IsRow P ty m) (hm : cs.length = m) (hf : cur.length = m) (h1 : ∀ v ∈ cs, v.oneCell' = true) (h : ∀ w', Blk w' g t cs → w.grownBy w' (some g) → wpList P ops Q rest (a.put o.dst undef) w') : wpList P ops Q (o :: rest) a w := by
  subst hm
  refine wpList_store_part hgd ty x y ho hx hy hg hr (by omega) h1 fun w' hb hw => h w' ?_ hw
  rw [overV_all _ _ hf.symm] at hb
  exact hb
/-- A value built of parts. -/
theorem build_row (hgd : o.guard = none) (t : TypeId) (parts : Array (Nat × Operand)) (ho : o.op = .build t parts) {cells : Array Value} (hf : P.built t (parts.map fun (i, x) => (i, a.eval x)).toList = some cells)
    (h : wpList P ops Q rest (a.put o.dst (.agg cells)) w) : wpList P ops Q (o :: rest) a w := by
  refine wpList_plain hgd fun K hK => ?_
  unfold Oper.wp execOp
  simp only [ho, Sem.run_bind, run_build w t _ cells hf, Result.andThen_ok, Sem.run_pure]
  exact hK _ _ h
end

theorem sizeMs : (Try.prog.info? 28).map (·.size) = some 21 := by kernel_rfl
theorem rowMs : IsRow Try.prog 28 21 := IsRow.struct Try.underlying28 sizeMs
theorem zeroMs : Zero Try.prog 28 (msC 0 0 0 0 z16 none 0 0) := by unfold Zero; kernel_rfl
theorem built_ms0 : Try.prog.built 28 [] = some (msC 0 0 0 0 z16 none 0 0).toArray := by kernel_rfl
theorem built_ms1 (K : Int) : Try.prog.built 28 [(0, .int .i64 K)] = some (msC K 0 0 0 z16 none 0 0).toArray := by kernel_rfl

theorem sizeHd : (Try.prog.info? 61).map (·.size) = some 20 := by kernel_rfl
theorem rowHd : IsRow Try.prog 61 20 := IsRow.struct Try.underlying61 sizeHd
theorem zeroHd : Zero Try.prog 61 (hdC 0 0 0 0 z16) := by unfold Zero; kernel_rfl
theorem built_hd0 (K S Q O h0 h1 h2 h3 h4 h5 h6 h7 h8 h9 h10 h11 h12 h13 h14 h15 : Int) : Try.prog.built 61 [(0, .int .i64 K), (1, .int .u32 S), (2, .int .u32 Q), (3, .int .u32 O), (4, .agg #[.int .u8 h0, .int .u8 h1, .int .u8 h2, .int .u8 h3, .int .u8 h4, .int .u8 h5, .int .u8 h6, .int .u8 h7, .int .u8 h8, .int .u8 h9, .int .u8 h10, .int .u8 h11, .int .u8 h12, .int .u8 h13, .int .u8 h14, .int .u8 h15])] = some #[.int .i64 K, .int .u32 S, .int .u32 Q, .int .u32 O, .int .u8 h0, .int .u8 h1, .int .u8 h2, .int .u8 h3, .int .u8 h4, .int .u8 h5, .int .u8 h6, .int .u8 h7, .int .u8 h8, .int .u8 h9, .int .u8 h10, .int .u8 h11, .int .u8 h12, .int .u8 h13, .int .u8 h14, .int .u8 h15] := by kernel_rfl
theorem built_hd (K S Q O : Int) (H : List Int) (h : H.length = 16) : Try.prog.built 61 [(0, .int .i64 K), (1, .int .u32 S), (2, .int .u32 Q), (3, .int .u32 O), (4, .agg (H.map (Value.int .u8)).toArray)] = some (hdC K S Q O H).toArray := by
  match H, h with
  | [h0, h1, h2, h3, h4, h5, h6, h7, h8, h9, h10, h11, h12, h13, h14, h15], _ => exact built_hd0 K S Q O h0 h1 h2 h3 h4 h5 h6 h7 h8 h9 h10 h11 h12 h13 h14 h15

theorem noGuardHd : Try.prog.eqGuardType Try.prog.depth 61 = false := by kernel_rfl
theorem noGuardHint : Try.prog.eqGuardType Try.prog.depth 25 = false := by kernel_rfl
theorem eq_hint (H H' : List Int) (h : H.length = 16) (h' : H'.length = 16) (d : Nat) (w : World) : (Op.equalIn (d + 2) 25 (.agg (H.map (Value.int .u8)).toArray) (.agg (H'.map (Value.int .u8)).toArray)).run Try.prog w = .ok (H == H') w :=
  run_equalIn_ints (P := Try.prog) w d 25 5 16 .u8 Try.underlying25 Try.underlying5 sizeU8s H H' h h'

end Go.Proofs.Ytgaelgpmmgjldaa

/-
  What message's headOf, bytes.Equal, Same and Copy come to. New memory alone is written. Conditions: a hint has 16 bytes, bytes are below 256.
-/
namespace Go.Proofs.Ytgaelgpmmgjldaa
open Go.RowKit

section
variable {P : Program}
theorem eqF_step (d : Nat) (xs ys : Array Value) (f : Field) (fs : List Field) (a b : Value) (r : Bool) (w : World) (hn : f.name ≠ "_") (ha : (part f.type xs f.offset).run P w = .ok a w) (hb : (part f.type ys f.offset).run P w = .ok b w)
    (he : (Op.equalIn d f.type a b).run P w = .ok r w) : (Op.eqFields d xs ys (f :: fs)).run P w = if r = true then (Op.eqFields d xs ys fs).run P w else .ok false w := by
  rw [Op.eqFields, if_pos hn]
  simp only [Sem.run_bind, ha, hb, he, Result.andThen_ok]
  cases r <;> simp
theorem part_arr {t e : TypeId} {n : Nat} (w : World) (hu : P.underlying t = some (.array n e)) {m : Nat} (hs : (P.info? t).map (·.size) = some m) (xs : Array Value) (off : Nat) : (part t xs off).run P w = .ok (.agg (xs.extract off (off + m))) w := by
  have hsz : (sizeOf t).run P w = .ok m w := by
    cases hq : P.info? t with
    | none => simp [hq] at hs
    | some i => simp [sizeOf, typeInfo, hq, (by simpa [hq] using hs : i.size = m)]
  simp [part, isAgg, run_underlying hu, hsz]
end
theorem hd_extract (K S Q O : Int) (H : List Int) (h : H.length = 16) : (hdC K S Q O H).toArray.extract 4 (4 + 16) = (H.map (Value.int .u8)).toArray := by
  rw [List.extract_toArray]
  unfold hdC
  simp only [List.extract_eq_take_drop, List.drop_succ_cons, List.drop_zero]
  rw [List.take_of_length_le (by rw [List.length_map]; omega)]
theorem bool_if (a b : Bool) (w : World) : (if a = true then (Result.ok b w) else .ok false w) = .ok (a && b) w := by cases a <;> rfl
set_option maxRecDepth 100000 in
theorem eq_head (K S Q O K' S' Q' O' : Int) (H H' : List Int) (h : H.length = 16) (h' : H'.length = 16) (w : World) :
    (Op.equalIn 10000 61 (.agg (hdC K S Q O H).toArray) (.agg (hdC K' S' Q' O' H').toArray)).run Try.prog w = .ok (K == K' && (S == S' && (Q == Q' && (O == O' && H == H')))) w := by
  rw [run_equalIn_agg w 9999 61 _ _ (by kernel_rfl) (by kernel_rfl)]
  have hu := Try.underlying61
  unfold Program.fieldsOf
  rw [hu]
  dsimp only
  rw [eqF_step 9999 _ _ _ _ (.int .i64 K) (.int .i64 K') (K == K') w (by decide) (run_part_plain w (by kernel_rfl) rfl) (run_part_plain w (by kernel_rfl) rfl) (run_equalIn_int w 9998 22 .i64 .i64 K K' Try.underlying22)]
  rw [eqF_step 9999 _ _ _ _ (.int .u32 S) (.int .u32 S') (S == S') w (by decide) (run_part_plain w (by kernel_rfl) rfl) (run_part_plain w (by kernel_rfl) rfl) (run_equalIn_int w 9998 23 .u32 .u32 S S' Try.underlying23)]
  rw [eqF_step 9999 _ _ _ _ (.int .u32 Q) (.int .u32 Q') (Q == Q') w (by decide) (run_part_plain w (by kernel_rfl) rfl) (run_part_plain w (by kernel_rfl) rfl) (run_equalIn_int w 9998 23 .u32 .u32 Q Q' Try.underlying23)]
  rw [eqF_step 9999 _ _ _ _ (.int .u32 O) (.int .u32 O') (O == O') w (by decide) (run_part_plain w (by kernel_rfl) rfl) (run_part_plain w (by kernel_rfl) rfl) (run_equalIn_int w 9998 23 .u32 .u32 O O' Try.underlying23)]
  have p1 := part_arr (P := Try.prog) w Try.underlying25 sizeHint9 (hdC K S Q O H).toArray 4
  have p2 := part_arr (P := Try.prog) w Try.underlying25 sizeHint9 (hdC K' S' Q' O' H').toArray 4
  rw [hd_extract K S Q O H h] at p1
  rw [hd_extract K' S' Q' O' H' h'] at p2
  rw [eqF_step 9999 _ _ _ _ _ _ (H == H') w (by decide) p1 p2 (eq_hint H H' h h' 9997 w)]
  rw [Op.eqFields, Sem.run_pure, bool_if, bool_if, bool_if, bool_if, bool_if, Bool.and_true]

set_option maxRecDepth 100000 in
set_option maxHeartbeats 400000 in
theorem msEqual_any (a : Option Addr) (n c : Nat) (xs : List Int) (b : Option Addr) (m d : Nat) (ys : List Int) (w : World) (hI : Ints .u8 w a n c xs) (hJ : Ints .u8 w b m d ys) (hx : okB xs) (hy : okB ys) :
    Calls Try.prog 33 #[.slice a n c, .slice b m d] w fun q w' => q = .returned (.bool (xs == ys)) ∧ w = w' := by
  have v1 := hI.string (P := Try.prog) 26 9 5 Try.underlying26 Try.underlying5 Try.underlying9
  have v2 := hJ.string (P := Try.prog) 26 9 5 Try.underlying26 Try.underlying5 Try.underlying9
  have hst := str_eq hx hy
  rw [show decide (xs = ys) = (xs == ys) by rw [Bool.eq_iff_iff]; simp] at hst
  obtain ⟨SA, hSA⟩ : ∃ S, strOfNums xs = S := ⟨_, rfl⟩
  obtain ⟨SB, hSB⟩ : ∃ S, strOfNums ys = S := ⟨_, rfl⟩
  rw [hSA] at v1 hst
  rw [hSB] at v2 hst
  obtain ⟨F, hF⟩ : ∃ F, (xs == ys) = F := ⟨_, rfl⟩
  rw [hF] at hst ⊢
  clear hSA hSB hF hI hJ hx hy
  go_enter Try.func33, Try.ntmps33
  go_wp2
  go_ret
  exact ⟨by first | rfl | (rw [hst]; rfl), rfl⟩

set_option maxRecDepth 100000 in
set_option maxHeartbeats 1000000 in
theorem msHead_any (K S Q O : Int) (H : List Int) (a : Option Addr) (n c : Nat) (w : World) (hl : H.length = 16) :
    Calls Try.prog 32 #[.agg (msC K S Q O H a n c).toArray] w fun q w' => q = .returned (.agg (hdC K S Q O H).toArray) ∧ Below w.heap.size w w' := by
  obtain ⟨C, hC⟩ : ∃ C, msC K S Q O H a n c = C := ⟨_, rfl⟩
  have hb := below2 w (.cells C.toArray 28) (.cells (hdC 0 0 0 0 z16).toArray 61)
  have hk : Blk ((w.alloc (.cells C.toArray 28)).alloc (.cells (hdC 0 0 0 0 z16).toArray 61)) w.heap.size 28 C := (Blk.new w _ C).alloc _
  have hz : Blk ((w.alloc (.cells C.toArray 28)).alloc (.cells (hdC 0 0 0 0 z16).toArray 61)) (w.heap.size + 1) 61 (hdC 0 0 0 0 z16) := Blk.new1 w _ _ _
  obtain ⟨V, hV⟩ : ∃ V, (w.alloc (.cells C.toArray 28)).alloc (.cells (hdC 0 0 0 0 z16).toArray 61) = V := ⟨_, rfl⟩
  rw [hV] at hb hk hz
  have hk' := hk
  rw [← hC] at hk'
  have c0 := ms0 hk'
  have c1 := ms1 hk'
  have c2 := ms2 hk'
  have c3 := ms3 hk'
  have c4 := ms4 hk' hl
  have hbt := built_hd K S Q O H hl
  have hrow : IsRow Try.prog 25 (H.map (Value.int .u8)).length := by rw [List.length_map, hl]; exact rowHint9
  have h1 := hdC_one K S Q O H
  have h20 := hdC_len (K := K) (S := S) (Q := Q) (O := O) hl
  obtain ⟨X, hX⟩ : ∃ X, H.map (Value.int .u8) = X := ⟨_, rfl⟩
  obtain ⟨D, hD⟩ : ∃ D, hdC K S Q O H = D := ⟨_, rfl⟩
  rw [hX] at c4 hbt hrow
  rw [hD] at hbt h1 h20
  rw [hC, hD]
  clear hk hk' hC hX hD
  obtain ⟨G, hG⟩ : ∃ G, w.heap.size = G := ⟨_, rfl⟩
  rw [hG] at hb c0 c1 c2 c3 c4 hz
  rw [hG]
  go_enter Try.func32, Try.ntmps32
  go_wp2_with (first
    | ((with_reducible refine box_row rfl 28 (.tmp 0) rfl C ?_ ?_); rfl)
    | ((with_reducible refine wpList_alloc_blk rfl 61 rfl zeroHd ?_); refine RowKit.Hid.out ?_))
  refine Lib.hid ?_
  try simp only [size1]
  try rw [hV, hG]
  clear hV hG
  go_wp2_with ((with_reducible refine wpList_load_part rfl 25 (.tmp 11) rfl ?_ X c4 hrow ?_); rfl; refine RowKit.Hid.out ?_)
  refine Lib.hid ?_
  try simp only [Act.put, List.setIfInBounds_toArray, List.set_cons_zero, List.set_cons_succ]
  refine build_row rfl 61 _ rfl (cells := D.toArray) (by refine Eq.trans (congrArg _ ?_) hbt; kernel_rfl) ?_
  try simp only [Act.put, List.setIfInBounds_toArray, List.set_cons_zero, List.set_cons_succ]
  refine store_row rfl 61 (.tmp 2) (.tmp 13) rfl rfl rfl hz rowHd h20 (hdC_len z16_len) h1 ?_
  intro w2 hb2 hg2
  have hr : IsRow Try.prog 61 D.length := by rw [h20]; exact rowHd
  go_wp2_with fail
  refine bodyPost_ret (results_blk rfl rfl hb2 hr) rfl ?_
  exact ⟨rfl, hb.grown hg2 (Nat.le_of_lt (by have := hz.lt; omega)) (fun q hq => by injection hq with hq; omega)⟩
end Go.Proofs.Ytgaelgpmmgjldaa

/-
  What message's Same and Copy come to. New memory alone is written. Conditions: a hint has 16 bytes, bytes are below 256.
-/
namespace Go.Proofs.Ytgaelgpmmgjldaa
open Go.RowKit

/-- Whether two heads are the same. -/
def hsB (K S Q O : Int) (H : List Int) (K' S' Q' O' : Int) (H' : List Int) : Bool := K == K' && (S == S' && (Q == Q' && (O == O' && H == H')))

set_option maxRecDepth 100000 in
set_option maxHeartbeats 1000000 in
theorem msSame_any (K S Q O : Int) (H : List Int) (a : Option Addr) (n c : Nat) (xs : List Int) (K' S' Q' O' : Int) (H' : List Int) (a' : Option Addr) (n' c' : Nat) (ys : List Int) (w : World) (hl : H.length = 16) (hl' : H'.length = 16) (hI : Ints .u8 w a n c xs) (hJ : Ints .u8 w a' n' c' ys) (hx : okB xs) (hy : okB ys) :
    Calls Try.prog 15 #[.agg (msC K S Q O H a n c).toArray, .agg (msC K' S' Q' O' H' a' n' c').toArray] w fun q w' => q = .returned (.bool (hsB K S Q O H K' S' Q' O' H' && (xs == ys))) ∧ Below w.heap.size w w' := by
  have he := eq_head K S Q O K' S' Q' O' H H' hl hl'
  have h1 := Lib.hid (fun w' => msHead_any K S Q O H a n c w' hl)
  have h2 := Lib.hid (fun w' => msHead_any K' S' Q' O' H' a' n' c' w' hl')
  have hng := noGuardHd
  have e5 := fun w' g (h : Blk w' g 28 (msC K S Q O H a n c)) => ms5 h hl
  have f5 := fun w' g (h : Blk w' g 28 (msC K' S' Q' O' H' a' n' c')) => ms5 h hl'
  have hrC : IsRow Try.prog 28 (msC K S Q O H a n c).length := by rw [msC_len hl]; exact rowMs
  have hrD : IsRow Try.prog 28 (msC K' S' Q' O' H' a' n' c').length := by rw [msC_len hl']; exact rowMs
  obtain ⟨C, hC⟩ : ∃ C, msC K S Q O H a n c = C := ⟨_, rfl⟩
  obtain ⟨D, hD⟩ : ∃ C, msC K' S' Q' O' H' a' n' c' = C := ⟨_, rfl⟩
  obtain ⟨X, hX⟩ : ∃ X, hdC K S Q O H = X := ⟨_, rfl⟩
  obtain ⟨Y, hY⟩ : ∃ X, hdC K' S' Q' O' H' = X := ⟨_, rfl⟩
  obtain ⟨F, hF⟩ : ∃ F, hsB K S Q O H K' S' Q' O' H' = F := ⟨_, rfl⟩
  unfold hsB at hF
  rw [hX, hY, hF] at he
  rw [hC] at h1 e5 hrC ⊢
  rw [hD] at h2 f5 hrD ⊢
  rw [hX] at h1
  rw [hY] at h2
  rw [show hsB K S Q O H K' S' Q' O' H' = F from hF]
  clear hC hD hX hY hF
  have hb := below2 w (.cells C.toArray 28) (.cells D.toArray 28)
  have hk : Blk ((w.alloc (.cells C.toArray 28)).alloc (.cells D.toArray 28)) w.heap.size 28 C := (Blk.new w _ C).alloc _
  have hk2 : Blk ((w.alloc (.cells C.toArray 28)).alloc (.cells D.toArray 28)) (w.heap.size + 1) 28 D := Blk.new1 w _ _ _
  obtain ⟨V, hV⟩ : ∃ V, (w.alloc (.cells C.toArray 28)).alloc (.cells D.toArray 28) = V := ⟨_, rfl⟩
  rw [hV] at hb hk hk2
  have ee := Lib.hid (fun w' (h : Below w.heap.size w w') => (msEqual_any a n c xs a' n' c' ys w' (hI.keep h) (hJ.keep h) hx hy).mono fun q w2 (k : q = .returned (.bool (xs == ys)) ∧ w' = w2) => (⟨k.1, k.2 ▸ Below.refl _ _⟩ : q = .returned (.bool (xs == ys)) ∧ Below w'.heap.size w' w2))
  have hbH := Lib.hid hb
  clear hI hJ hx hy hb
  obtain ⟨G, g9⟩ : ∃ G, w.heap.size = G := ⟨_, rfl⟩
  rw [g9] at hk hk2
  obtain ⟨E, hE⟩ : ∃ E, (xs == ys) = E := ⟨_, rfl⟩
  rw [hE] at ee ⊢
  clear hE
  cases F with
  | false =>
    clear ee e5 f5
    go_enter Try.func15, Try.ntmps15
    go_wp2_with fail
    have SD : Below V.heap.size V V.drew := (Below.refl _ _).drew
    refine region_seqS (fun w' => Below V.heap.size V w') (by kernel_rfl) SD ?_
    simp only [pairs, Nat.reduceAdd]
    have hc1 := Lib.hid (fun w' (h : Below V.heap.size V w') => hk.keep h hk.lt)
    have hc2 := Lib.hid (fun w' (h : Below V.heap.size V w') => hk2.keep h hk2.lt)
    have gg := Lib.hid g9
    clear hV hk hk2 g9
    repeat (first
      | (refine SeqS.take (v := .agg (C).toArray) (by first | assumption | trivial) (by kernel_rfl) (by decide +kernel) (by decide +kernel) (yields_blk (by rfl) 28 (.tmp 2) rfl rfl (fun w' h => hc1.out w' h) (hrC)) ?_
         simp only [Act.put, List.setIfInBounds_toArray, List.set_cons_zero, List.set_cons_succ])
      | (refine SeqS.take (v := .agg (D).toArray) (by first | assumption | trivial) (by kernel_rfl) (by decide +kernel) (by decide +kernel) (yields_blk (by rfl) 28 (.tmp 3) rfl rfl (fun w' h => hc2.out w' h) (hrD)) ?_
         simp only [Act.put, List.setIfInBounds_toArray, List.set_cons_zero, List.set_cons_succ])
      | (refine SeqS.take (v := ?_) (by first | assumption | trivial) (by kernel_rfl) (by decide +kernel) (by decide +kernel) (Or.inl ⟨by rfl, ?_⟩) ?_
         rotate_left
         focus
           intro w' hb'
           go_simp
           with_reducible rfl
         simp only [Act.put, List.setIfInBounds_toArray, List.set_cons_zero, List.set_cons_succ])
      | (refine SeqS.take (v := undef) (by first | assumption | trivial) (by kernel_rfl) (by decide +kernel) (by decide +kernel) (Or.inr ⟨by rfl, rfl⟩) ?_
         simp only [Act.put, List.setIfInBounds_toArray, List.set_cons_zero, List.set_cons_succ])
      | (refine SeqS.take1 (v := .agg (C).toArray) (by first | assumption | trivial) (by kernel_rfl) (by decide +kernel) (by decide +kernel) (yields_blk (by rfl) 28 (.tmp 2) rfl rfl (fun w' h => hc1.out w' h) (hrC)) ?_
         simp only [Act.put, List.setIfInBounds_toArray, List.set_cons_zero, List.set_cons_succ])
      | (refine SeqS.take1 (v := .agg (D).toArray) (by first | assumption | trivial) (by kernel_rfl) (by decide +kernel) (by decide +kernel) (yields_blk (by rfl) 28 (.tmp 3) rfl rfl (fun w' h => hc2.out w' h) (hrD)) ?_
         simp only [Act.put, List.setIfInBounds_toArray, List.set_cons_zero, List.set_cons_succ])
      | (refine SeqS.take1 (v := ?_) (by first | assumption | trivial) (by kernel_rfl) (by decide +kernel) (by decide +kernel) (Or.inl ⟨by rfl, ?_⟩) ?_
         rotate_left
         focus
           intro w' hb'
           go_simp
           with_reducible rfl
         simp only [Act.put, List.setIfInBounds_toArray, List.set_cons_zero, List.set_cons_succ])
      | (refine SeqS.take1 (v := undef) (by first | assumption | trivial) (by kernel_rfl) (by decide +kernel) (by decide +kernel) (Or.inr ⟨by rfl, rfl⟩) ?_
         simp only [Act.put, List.setIfInBounds_toArray, List.set_cons_zero, List.set_cons_succ])
      | (refine SeqS.take2 (v := .agg (C).toArray) (by first | assumption | trivial) (by kernel_rfl) (by decide +kernel) (by decide +kernel) (yields_blk (by rfl) 28 (.tmp 2) rfl rfl (fun w' h => hc1.out w' h) (hrC)) ?_
         simp only [Act.put, List.setIfInBounds_toArray, List.set_cons_zero, List.set_cons_succ])
      | (refine SeqS.take2 (v := .agg (D).toArray) (by first | assumption | trivial) (by kernel_rfl) (by decide +kernel) (by decide +kernel) (yields_blk (by rfl) 28 (.tmp 3) rfl rfl (fun w' h => hc2.out w' h) (hrD)) ?_
         simp only [Act.put, List.setIfInBounds_toArray, List.set_cons_zero, List.set_cons_succ])
      | (refine SeqS.take2 (v := ?_) (by first | assumption | trivial) (by kernel_rfl) (by decide +kernel) (by decide +kernel) (Or.inl ⟨by rfl, ?_⟩) ?_
         rotate_left
         focus
           intro w' hb'
           go_simp
           with_reducible rfl
         simp only [Act.put, List.setIfInBounds_toArray, List.set_cons_zero, List.set_cons_succ])
      | (refine SeqS.take2 (v := undef) (by first | assumption | trivial) (by kernel_rfl) (by decide +kernel) (by decide +kernel) (Or.inr ⟨by rfl, rfl⟩) ?_
         simp only [Act.put, List.setIfInBounds_toArray, List.set_cons_zero, List.set_cons_succ]))
    refine SeqS.alone (by decide +kernel) (by rfl) (fun K hK => ?_)
    go_simp
    go_at_call 32
    refine (h1.out _).mono ?_
    rintro e w5 ⟨rfl, b5⟩
    go_simp
    have S5 : Below V.heap.size V w5 := SD.trans (b5.mono SD.size)
    refine hK _ _ S5 ?_
    clear hK K
    refine SeqS.alone (by decide +kernel) (by rfl) (fun K hK => ?_)
    go_simp
    go_at_call 32
    refine (h2.out _).mono ?_
    rintro e w6 ⟨rfl, b6⟩
    go_simp
    have S6 : Below V.heap.size V w6 := S5.trans (b6.mono S5.size)
    refine hK _ _ S6 ?_
    clear hK K
    have g9 := gg.out
    repeat (first
      | (refine SeqS.take (v := ?_) (by first | assumption | trivial) (by kernel_rfl) (by decide +kernel) (by decide +kernel) (Or.inl ⟨by rfl, ?_⟩) ?_
         rotate_left
         focus
           intro w' hb'
           go_simp
           with_reducible rfl
         simp only [Act.put, List.setIfInBounds_toArray, List.set_cons_zero, List.set_cons_succ])
      | (refine SeqS.take (v := ?_) (by first | assumption | trivial) (by kernel_rfl) (by decide +kernel) (by decide +kernel) (Or.inl ⟨by rfl, ?_⟩) ?_
         rotate_left
         focus
           intro w' hb'
           have d0 := he w'
           go_simp
           with_reducible rfl
         simp only [Act.put, List.setIfInBounds_toArray, List.set_cons_zero, List.set_cons_succ])
      | (refine SeqS.take (v := undef) (by first | assumption | trivial) (by kernel_rfl) (by decide +kernel) (by decide +kernel) (Or.inr ⟨by rfl, rfl⟩) ?_
         simp only [Act.put, List.setIfInBounds_toArray, List.set_cons_zero, List.set_cons_succ])
      | (refine SeqS.take1 (v := ?_) (by first | assumption | trivial) (by kernel_rfl) (by decide +kernel) (by decide +kernel) (Or.inl ⟨by rfl, ?_⟩) ?_
         rotate_left
         focus
           intro w' hb'
           go_simp
           with_reducible rfl
         simp only [Act.put, List.setIfInBounds_toArray, List.set_cons_zero, List.set_cons_succ])
      | (refine SeqS.take1 (v := ?_) (by first | assumption | trivial) (by kernel_rfl) (by decide +kernel) (by decide +kernel) (Or.inl ⟨by rfl, ?_⟩) ?_
         rotate_left
         focus
           intro w' hb'
           have d0 := he w'
           go_simp
           with_reducible rfl
         simp only [Act.put, List.setIfInBounds_toArray, List.set_cons_zero, List.set_cons_succ])
      | (refine SeqS.take1 (v := undef) (by first | assumption | trivial) (by kernel_rfl) (by decide +kernel) (by decide +kernel) (Or.inr ⟨by rfl, rfl⟩) ?_
         simp only [Act.put, List.setIfInBounds_toArray, List.set_cons_zero, List.set_cons_succ])
      | (refine SeqS.take2 (v := ?_) (by first | assumption | trivial) (by kernel_rfl) (by decide +kernel) (by decide +kernel) (Or.inl ⟨by rfl, ?_⟩) ?_
         rotate_left
         focus
           intro w' hb'
           go_simp
           with_reducible rfl
         simp only [Act.put, List.setIfInBounds_toArray, List.set_cons_zero, List.set_cons_succ])
      | (refine SeqS.take2 (v := ?_) (by first | assumption | trivial) (by kernel_rfl) (by decide +kernel) (by decide +kernel) (Or.inl ⟨by rfl, ?_⟩) ?_
         rotate_left
         focus
           intro w' hb'
           have d0 := he w'
           go_simp
           with_reducible rfl
         simp only [Act.put, List.setIfInBounds_toArray, List.set_cons_zero, List.set_cons_succ])
      | (refine SeqS.take2 (v := undef) (by first | assumption | trivial) (by kernel_rfl) (by decide +kernel) (by decide +kernel) (Or.inr ⟨by rfl, rfl⟩) ?_
         simp only [Act.put, List.setIfInBounds_toArray, List.set_cons_zero, List.set_cons_succ]))
    refine SeqS.done (by decide +kernel) ?_
    go_wp2
    go_ret
    exact ⟨by first | rfl | simp, hbH.out.trans (S6.mono hbH.out.size)⟩
  | true =>
    go_enter Try.func15, Try.ntmps15
    go_wp2_with fail
    have SD : Below V.heap.size V V.drew := (Below.refl _ _).drew
    refine region_seqS (fun w' => Below V.heap.size V w') (by kernel_rfl) SD ?_
    simp only [pairs, Nat.reduceAdd]
    have hc1 := Lib.hid (fun w' (h : Below V.heap.size V w') => hk.keep h hk.lt)
    have hc2 := Lib.hid (fun w' (h : Below V.heap.size V w') => hk2.keep h hk2.lt)
    have gg := Lib.hid g9
    clear hV hk hk2 g9
    repeat (first
      | (refine SeqS.take (v := .agg (C).toArray) (by first | assumption | trivial) (by kernel_rfl) (by decide +kernel) (by decide +kernel) (yields_blk (by rfl) 28 (.tmp 2) rfl rfl (fun w' h => hc1.out w' h) (hrC)) ?_
         simp only [Act.put, List.setIfInBounds_toArray, List.set_cons_zero, List.set_cons_succ])
      | (refine SeqS.take (v := .agg (D).toArray) (by first | assumption | trivial) (by kernel_rfl) (by decide +kernel) (by decide +kernel) (yields_blk (by rfl) 28 (.tmp 3) rfl rfl (fun w' h => hc2.out w' h) (hrD)) ?_
         simp only [Act.put, List.setIfInBounds_toArray, List.set_cons_zero, List.set_cons_succ])
      | (refine SeqS.take (v := ?_) (by first | assumption | trivial) (by kernel_rfl) (by decide +kernel) (by decide +kernel) (Or.inl ⟨by rfl, ?_⟩) ?_
         rotate_left
         focus
           intro w' hb'
           go_simp
           with_reducible rfl
         simp only [Act.put, List.setIfInBounds_toArray, List.set_cons_zero, List.set_cons_succ])
      | (refine SeqS.take (v := undef) (by first | assumption | trivial) (by kernel_rfl) (by decide +kernel) (by decide +kernel) (Or.inr ⟨by rfl, rfl⟩) ?_
         simp only [Act.put, List.setIfInBounds_toArray, List.set_cons_zero, List.set_cons_succ])
      | (refine SeqS.take1 (v := .agg (C).toArray) (by first | assumption | trivial) (by kernel_rfl) (by decide +kernel) (by decide +kernel) (yields_blk (by rfl) 28 (.tmp 2) rfl rfl (fun w' h => hc1.out w' h) (hrC)) ?_
         simp only [Act.put, List.setIfInBounds_toArray, List.set_cons_zero, List.set_cons_succ])
      | (refine SeqS.take1 (v := .agg (D).toArray) (by first | assumption | trivial) (by kernel_rfl) (by decide +kernel) (by decide +kernel) (yields_blk (by rfl) 28 (.tmp 3) rfl rfl (fun w' h => hc2.out w' h) (hrD)) ?_
         simp only [Act.put, List.setIfInBounds_toArray, List.set_cons_zero, List.set_cons_succ])
      | (refine SeqS.take1 (v := ?_) (by first | assumption | trivial) (by kernel_rfl) (by decide +kernel) (by decide +kernel) (Or.inl ⟨by rfl, ?_⟩) ?_
         rotate_left
         focus
           intro w' hb'
           go_simp
           with_reducible rfl
         simp only [Act.put, List.setIfInBounds_toArray, List.set_cons_zero, List.set_cons_succ])
      | (refine SeqS.take1 (v := undef) (by first | assumption | trivial) (by kernel_rfl) (by decide +kernel) (by decide +kernel) (Or.inr ⟨by rfl, rfl⟩) ?_
         simp only [Act.put, List.setIfInBounds_toArray, List.set_cons_zero, List.set_cons_succ])
      | (refine SeqS.take2 (v := .agg (C).toArray) (by first | assumption | trivial) (by kernel_rfl) (by decide +kernel) (by decide +kernel) (yields_blk (by rfl) 28 (.tmp 2) rfl rfl (fun w' h => hc1.out w' h) (hrC)) ?_
         simp only [Act.put, List.setIfInBounds_toArray, List.set_cons_zero, List.set_cons_succ])
      | (refine SeqS.take2 (v := .agg (D).toArray) (by first | assumption | trivial) (by kernel_rfl) (by decide +kernel) (by decide +kernel) (yields_blk (by rfl) 28 (.tmp 3) rfl rfl (fun w' h => hc2.out w' h) (hrD)) ?_
         simp only [Act.put, List.setIfInBounds_toArray, List.set_cons_zero, List.set_cons_succ])
      | (refine SeqS.take2 (v := ?_) (by first | assumption | trivial) (by kernel_rfl) (by decide +kernel) (by decide +kernel) (Or.inl ⟨by rfl, ?_⟩) ?_
         rotate_left
         focus
           intro w' hb'
           go_simp
           with_reducible rfl
         simp only [Act.put, List.setIfInBounds_toArray, List.set_cons_zero, List.set_cons_succ])
      | (refine SeqS.take2 (v := undef) (by first | assumption | trivial) (by kernel_rfl) (by decide +kernel) (by decide +kernel) (Or.inr ⟨by rfl, rfl⟩) ?_
         simp only [Act.put, List.setIfInBounds_toArray, List.set_cons_zero, List.set_cons_succ]))
    refine SeqS.alone (by decide +kernel) (by rfl) (fun K hK => ?_)
    go_simp
    go_at_call 32
    refine (h1.out _).mono ?_
    rintro e w5 ⟨rfl, b5⟩
    go_simp
    have S5 : Below V.heap.size V w5 := SD.trans (b5.mono SD.size)
    refine hK _ _ S5 ?_
    clear hK K
    refine SeqS.alone (by decide +kernel) (by rfl) (fun K hK => ?_)
    go_simp
    go_at_call 32
    refine (h2.out _).mono ?_
    rintro e w6 ⟨rfl, b6⟩
    go_simp
    have S6 : Below V.heap.size V w6 := S5.trans (b6.mono S5.size)
    refine hK _ _ S6 ?_
    clear hK K
    have g9 := gg.out
    have l1 := Lib.hid (fun w' (h : Below V.heap.size V w') => e5 w' G (hc1.out w' h))
    have l2 := Lib.hid (fun w' (h : Below V.heap.size V w') => f5 w' (G + 1) (hc2.out w' h))
    clear e5 f5 hc1 hc2
    repeat (first
      | (refine SeqS.take (v := ?_) (by first | assumption | trivial) (by kernel_rfl) (by decide +kernel) (by decide +kernel) (Or.inl ⟨by rfl, ?_⟩) ?_
         rotate_left
         focus
           intro w' hb'
           go_simp
           with_reducible rfl
         simp only [Act.put, List.setIfInBounds_toArray, List.set_cons_zero, List.set_cons_succ])
      | (refine SeqS.take (v := ?_) (by first | assumption | trivial) (by kernel_rfl) (by decide +kernel) (by decide +kernel) (Or.inl ⟨by rfl, ?_⟩) ?_
         rotate_left
         focus
           intro w' hb'
           have d0 := he w'
           go_simp
           with_reducible rfl
         simp only [Act.put, List.setIfInBounds_toArray, List.set_cons_zero, List.set_cons_succ])
      | (refine SeqS.take (v := ?_) (by first | assumption | trivial) (by kernel_rfl) (by decide +kernel) (by decide +kernel) (Or.inl ⟨by rfl, ?_⟩) ?_
         rotate_left
         focus
           intro w' hb'
           have d0 := l1.out w' hb'
           go_simp
           with_reducible rfl
         simp only [Act.put, List.setIfInBounds_toArray, List.set_cons_zero, List.set_cons_succ])
      | (refine SeqS.take (v := ?_) (by first | assumption | trivial) (by kernel_rfl) (by decide +kernel) (by decide +kernel) (Or.inl ⟨by rfl, ?_⟩) ?_
         rotate_left
         focus
           intro w' hb'
           have d0 := l2.out w' hb'
           go_simp
           with_reducible rfl
         simp only [Act.put, List.setIfInBounds_toArray, List.set_cons_zero, List.set_cons_succ])
      | (refine SeqS.take (v := undef) (by first | assumption | trivial) (by kernel_rfl) (by decide +kernel) (by decide +kernel) (Or.inr ⟨by rfl, rfl⟩) ?_
         simp only [Act.put, List.setIfInBounds_toArray, List.set_cons_zero, List.set_cons_succ])
      | (refine SeqS.take1 (v := ?_) (by first | assumption | trivial) (by kernel_rfl) (by decide +kernel) (by decide +kernel) (Or.inl ⟨by rfl, ?_⟩) ?_
         rotate_left
         focus
           intro w' hb'
           go_simp
           with_reducible rfl
         simp only [Act.put, List.setIfInBounds_toArray, List.set_cons_zero, List.set_cons_succ])
      | (refine SeqS.take1 (v := ?_) (by first | assumption | trivial) (by kernel_rfl) (by decide +kernel) (by decide +kernel) (Or.inl ⟨by rfl, ?_⟩) ?_
         rotate_left
         focus
           intro w' hb'
           have d0 := he w'
           go_simp
           with_reducible rfl
         simp only [Act.put, List.setIfInBounds_toArray, List.set_cons_zero, List.set_cons_succ])
      | (refine SeqS.take1 (v := ?_) (by first | assumption | trivial) (by kernel_rfl) (by decide +kernel) (by decide +kernel) (Or.inl ⟨by rfl, ?_⟩) ?_
         rotate_left
         focus
           intro w' hb'
           have d0 := l1.out w' hb'
           go_simp
           with_reducible rfl
         simp only [Act.put, List.setIfInBounds_toArray, List.set_cons_zero, List.set_cons_succ])
      | (refine SeqS.take1 (v := ?_) (by first | assumption | trivial) (by kernel_rfl) (by decide +kernel) (by decide +kernel) (Or.inl ⟨by rfl, ?_⟩) ?_
         rotate_left
         focus
           intro w' hb'
           have d0 := l2.out w' hb'
           go_simp
           with_reducible rfl
         simp only [Act.put, List.setIfInBounds_toArray, List.set_cons_zero, List.set_cons_succ])
      | (refine SeqS.take1 (v := undef) (by first | assumption | trivial) (by kernel_rfl) (by decide +kernel) (by decide +kernel) (Or.inr ⟨by rfl, rfl⟩) ?_
         simp only [Act.put, List.setIfInBounds_toArray, List.set_cons_zero, List.set_cons_succ])
      | (refine SeqS.take2 (v := ?_) (by first | assumption | trivial) (by kernel_rfl) (by decide +kernel) (by decide +kernel) (Or.inl ⟨by rfl, ?_⟩) ?_
         rotate_left
         focus
           intro w' hb'
           go_simp
           with_reducible rfl
         simp only [Act.put, List.setIfInBounds_toArray, List.set_cons_zero, List.set_cons_succ])
      | (refine SeqS.take2 (v := ?_) (by first | assumption | trivial) (by kernel_rfl) (by decide +kernel) (by decide +kernel) (Or.inl ⟨by rfl, ?_⟩) ?_
         rotate_left
         focus
           intro w' hb'
           have d0 := he w'
           go_simp
           with_reducible rfl
         simp only [Act.put, List.setIfInBounds_toArray, List.set_cons_zero, List.set_cons_succ])
      | (refine SeqS.take2 (v := ?_) (by first | assumption | trivial) (by kernel_rfl) (by decide +kernel) (by decide +kernel) (Or.inl ⟨by rfl, ?_⟩) ?_
         rotate_left
         focus
           intro w' hb'
           have d0 := l1.out w' hb'
           go_simp
           with_reducible rfl
         simp only [Act.put, List.setIfInBounds_toArray, List.set_cons_zero, List.set_cons_succ])
      | (refine SeqS.take2 (v := ?_) (by first | assumption | trivial) (by kernel_rfl) (by decide +kernel) (by decide +kernel) (Or.inl ⟨by rfl, ?_⟩) ?_
         rotate_left
         focus
           intro w' hb'
           have d0 := l2.out w' hb'
           go_simp
           with_reducible rfl
         simp only [Act.put, List.setIfInBounds_toArray, List.set_cons_zero, List.set_cons_succ])
      | (refine SeqS.take2 (v := undef) (by first | assumption | trivial) (by kernel_rfl) (by decide +kernel) (by decide +kernel) (Or.inr ⟨by rfl, rfl⟩) ?_
         simp only [Act.put, List.setIfInBounds_toArray, List.set_cons_zero, List.set_cons_succ]))
    refine SeqS.alone (by decide +kernel) (by rfl) (fun K hK => ?_)
    go_simp
    go_at_call 33
    refine (ee.out _ (hbH.out.trans (S6.mono hbH.out.size))).mono ?_
    rintro e w7 ⟨rfl, b7⟩
    go_simp
    have S7 : Below V.heap.size V w7 := S6.trans (b7.mono S6.size)
    refine hK _ _ S7 ?_
    clear hK K
    repeat (first
      | (refine SeqS.take (v := ?_) (by first | assumption | trivial) (by kernel_rfl) (by decide +kernel) (by decide +kernel) (Or.inl ⟨by rfl, ?_⟩) ?_
         rotate_left
         focus
           intro w' hb'
           go_simp
           with_reducible rfl
         simp only [Act.put, List.setIfInBounds_toArray, List.set_cons_zero, List.set_cons_succ])
      | (refine SeqS.take (v := undef) (by first | assumption | trivial) (by kernel_rfl) (by decide +kernel) (by decide +kernel) (Or.inr ⟨by rfl, rfl⟩) ?_
         simp only [Act.put, List.setIfInBounds_toArray, List.set_cons_zero, List.set_cons_succ])
      | (refine SeqS.take1 (v := ?_) (by first | assumption | trivial) (by kernel_rfl) (by decide +kernel) (by decide +kernel) (Or.inl ⟨by rfl, ?_⟩) ?_
         rotate_left
         focus
           intro w' hb'
           go_simp
           with_reducible rfl
         simp only [Act.put, List.setIfInBounds_toArray, List.set_cons_zero, List.set_cons_succ])
      | (refine SeqS.take1 (v := undef) (by first | assumption | trivial) (by kernel_rfl) (by decide +kernel) (by decide +kernel) (Or.inr ⟨by rfl, rfl⟩) ?_
         simp only [Act.put, List.setIfInBounds_toArray, List.set_cons_zero, List.set_cons_succ])
      | (refine SeqS.take2 (v := ?_) (by first | assumption | trivial) (by kernel_rfl) (by decide +kernel) (by decide +kernel) (Or.inl ⟨by rfl, ?_⟩) ?_
         rotate_left
         focus
           intro w' hb'
           go_simp
           with_reducible rfl
         simp only [Act.put, List.setIfInBounds_toArray, List.set_cons_zero, List.set_cons_succ])
      | (refine SeqS.take2 (v := undef) (by first | assumption | trivial) (by kernel_rfl) (by decide +kernel) (by decide +kernel) (Or.inr ⟨by rfl, rfl⟩) ?_
         simp only [Act.put, List.setIfInBounds_toArray, List.set_cons_zero, List.set_cons_succ]))
    refine SeqS.done (by decide +kernel) ?_
    go_wp2
    go_ret
    exact ⟨by first | rfl | simp, hbH.out.trans (S7.mono hbH.out.size)⟩
end Go.Proofs.Ytgaelgpmmgjldaa

/-
  What message's Copy comes to. New memory alone is written. Conditions: a hint has 16 bytes, at most 2^32 bytes.
-/
namespace Go.Proofs.Ytgaelgpmmgjldaa
open Go.RowKit

theorem msC_set {K S Q O : Int} {H : List Int} {a : Option Addr} {n c : Nat} (h : H.length = 16) (b : Option Addr) (m d : Nat) : (msC K S Q O H a n c).set 20 (.slice b m d) = msC K S Q O H b m d := by
  unfold msC
  rw [List.set_append_right _ _ (by rw [hdC_len h]; exact Nat.le_refl _), hdC_len h]
  rfl

set_option maxRecDepth 100000 in
set_option maxHeartbeats 1000000 in
theorem msCopy_any (K S Q O : Int) (H : List Int) (a : Option Addr) (n c : Nat) (xs : List Int) (w : World) (hl : H.length = 16) (hI : Ints .u8 w a n c xs) (hn : n ≤ 4294967296) :
    Calls Try.prog 14 #[.agg (msC K S Q O H a n c).toArray] w fun q w' => ∃ b d, q = .returned (.agg (msC K S Q O H b n d).toArray) ∧ w'.ownsRow w.heap.size 5 1 (.slice b n d) n (xs.map (Value.int .u8)) ∧ Below w.heap.size w w' := by
  have hset := fun b m d => msC_set (K := K) (S := S) (Q := Q) (O := O) (a := a) (n := n) (c := c) hl b m d
  have hone := fun b m d => msC_one K S Q O H b m d
  have hlen := fun b m d => msC_len (K := K) (S := S) (Q := Q) (O := O) (a := b) (n := m) (c := d) hl
  have e5 := fun w' g (h : Blk w' g 28 (msC K S Q O H a n c)) => ms5 h hl
  obtain ⟨D, hD⟩ : ∃ D, msC K S Q O H = D := ⟨_, rfl⟩
  rw [hD] at hset hone hlen e5
  rw [hD]
  obtain ⟨C, hC⟩ : ∃ C, D a n c = C := ⟨_, rfl⟩
  have hlC := hlen a n c
  rw [hC] at hset hlC e5
  rw [hC]
  clear hC hD
  have hb := below2 w (.cells C.toArray 28) (.cells (msC 0 0 0 0 z16 none 0 0).toArray 28)
  have hk : Blk ((w.alloc (.cells C.toArray 28)).alloc (.cells (msC 0 0 0 0 z16 none 0 0).toArray 28)) w.heap.size 28 C := (Blk.new w _ C).alloc _
  have hk2 : Blk ((w.alloc (.cells C.toArray 28)).alloc (.cells (msC 0 0 0 0 z16 none 0 0).toArray 28)) (w.heap.size + 1) 28 (msC 0 0 0 0 z16 none 0 0) := Blk.new1 w _ _ _
  obtain ⟨V, hV⟩ : ∃ V, (w.alloc (.cells C.toArray 28)).alloc (.cells (msC 0 0 0 0 z16 none 0 0).toArray 28) = V := ⟨_, rfl⟩
  rw [hV] at hb hk hk2
  have hcl := pClone_any a n c xs V (hI.keep hb) hn
  have hbH := Lib.hid hb
  clear hI hn hb
  obtain ⟨G, g9⟩ : ∃ G, w.heap.size = G := ⟨_, rfl⟩
  rw [g9] at hk hk2
  have c5 := e5 V G hk
  go_enter Try.func14, Try.ntmps14
  go_wp2_with (first
    | ((with_reducible refine box_row rfl 28 (.tmp 0) rfl C ?_ ?_); rfl)
    | ((with_reducible refine wpList_alloc_blk rfl 28 rfl zeroMs ?_); refine RowKit.Hid.out ?_))
  refine Lib.hid ?_
  go_wp2_with fail
  refine hcl.mono ?_
  rintro q w1 ⟨b, d, rfl, ho, b1⟩
  have gH := Lib.hid g9
  have VH := Lib.hid hV
  clear hcl c5 g9 hV
  have hk1 := hk.keep b1 hk.lt
  have hk21 := hk2.keep b1 hk2.lt
  have c5 := e5 w1 G hk1
  have f5 := hk1.frozen 20
  have hs1 := hset b n d
  have hB1 := hbH.out.trans (b1.mono hbH.out.size)
  have hkS : Blk (w1.setCell ⟨G, 20, none⟩ (.slice b n d)) G 28 (D b n d) := by
    have := hk1.set 20 (.slice b n d)
    rw [hs1] at this
    exact this
  have hkZ : Blk (w1.setCell ⟨G, 20, none⟩ (.slice b n d)) (G + 1) 28 (msC 0 0 0 0 z16 none 0 0) := hk21.far (by show G + 1 ≠ G; omega) _
  have hBS : Below w.heap.size w (w1.setCell ⟨G, 20, none⟩ (.slice b n d)) := hB1.setCell (p := ⟨G, 20, none⟩) (by show w.heap.size ≤ G; rw [gH.out]; exact Nat.le_refl _) _
  have oS : (w1.setCell ⟨G, 20, none⟩ (.slice b n d)).ownsRow V.heap.size 5 1 (.slice b n d) n (xs.map (Value.int .u8)) := own_far9 ho (grown_setCell w1 G 20 _) hk.lt
  obtain ⟨U, hU⟩ : ∃ U, w1.setCell ⟨G, 20, none⟩ (.slice b n d) = U := ⟨_, rfl⟩
  rw [hU] at hkS hkZ hBS oS
  have hVs := Lib.hid hk2.lt
  clear ho b1 hk1 hk21 hB1 hs1 hk hk2 hset e5
  have hr : IsRow Try.prog 28 21 := rowMs
  go_wp2_with ((with_reducible refine wpList_load_blk rfl 28 (.tmp 1) rfl ?_ hkS hr (hlen b n d) ?_); rfl; refine RowKit.Hid.out ?_)
  refine Lib.hid ?_
  refine store_row rfl 28 (.tmp 2) (.tmp 7) rfl rfl rfl hkZ hr (hlen b n d) (msC_len z16_len) (hone b n d) ?_
  intro w2 hb2 hg2
  have hr2 : IsRow Try.prog 28 (D b n d).length := by rw [hlen b n d]; exact rowMs
  go_wp2_with fail
  refine bodyPost_ret (results_blk rfl rfl hb2 hr2) rfl ?_
  refine ⟨b, d, rfl, ?_, ?_⟩
  · have := own_far9 oS hg2 hVs.out
    exact own_low9 this (by have := hbH.out.size; omega)
  · exact hBS.grown hg2 hBS.size (fun q hq => by injection hq with hq; have := gH.out; omega)
end Go.Proofs.Ytgaelgpmmgjldaa

/-
  What message's bare comes to: a message with no other fields than its kind has. New memory alone is written. Conditions: a hint has 16 bytes.
-/
namespace Go.Proofs.Ytgaelgpmmgjldaa
open Go.RowKit

theorem msC_hint {K S Q O : Int} {H H' : List Int} {a : Option Addr} {n c : Nat} (h : H.length = 16) (h' : H'.length = 16) : overV (msC K S Q O H a n c) 4 (H'.map (Value.int .u8)) = msC K S Q O H' a n c := by
  unfold overV msC hdC
  simp only [List.cons_append, List.take_succ_cons, List.take_zero, List.length_map, h', Nat.reduceAdd, List.drop_succ_cons, List.nil_append]
  rw [List.drop_append_of_le_length (by rw [List.length_map]; omega), List.drop_of_length_le (by rw [List.length_map]; omega), List.nil_append]

/-- A message with no other fields than its kind has. -/
def bareC (K S Q O : Int) (H : List Int) (a : Option Addr) (n c : Nat) : List Value :=
  if K = 1 then msC 1 0 0 O z16 none 0 0 else if K = 2 then msC 2 S Q 0 H a n c else if K = 3 ∨ K = 4 then msC K S 0 0 z16 none 0 0 else msC 0 0 0 0 z16 none 0 0
def bareB (K : Int) : Bool := decide (K = 1 ∨ K = 2 ∨ K = 3 ∨ K = 4)

set_option maxRecDepth 100000 in
set_option maxHeartbeats 2000000 in
theorem msBare_any (K S Q O : Int) (H : List Int) (a : Option Addr) (n c : Nat) (w : World) (hl : H.length = 16) :
    Calls Try.prog 22 #[.agg (msC K S Q O H a n c).toArray] w fun q w' => q = .returned (.tuple #[.agg (bareC K S Q O H a n c).toArray, .bool (bareB K)]) ∧ Below w.heap.size w w' := by
  obtain ⟨C, hC⟩ : ∃ C, msC K S Q O H a n c = C := ⟨_, rfl⟩
  have hCH := Lib.hid hC
  rw [hC]
  clear hC
  obtain ⟨X, hX⟩ : ∃ X, H.map (Value.int .u8) = X := ⟨_, rfl⟩
  have hXH := Lib.hid hX
  clear hX
  have hb := below2 w (.cells C.toArray 28) (.cells (msC 0 0 0 0 z16 none 0 0).toArray 28)
  have hk : Blk ((w.alloc (.cells C.toArray 28)).alloc (.cells (msC 0 0 0 0 z16 none 0 0).toArray 28)) w.heap.size 28 C := (Blk.new w _ C).alloc _
  have hk2 : Blk ((w.alloc (.cells C.toArray 28)).alloc (.cells (msC 0 0 0 0 z16 none 0 0).toArray 28)) (w.heap.size + 1) 28 (msC 0 0 0 0 z16 none 0 0) := Blk.new1 w _ _ _
  obtain ⟨V, hV⟩ : ∃ V, (w.alloc (.cells C.toArray 28)).alloc (.cells (msC 0 0 0 0 z16 none 0 0).toArray 28) = V := ⟨_, rfl⟩
  rw [hV] at hb hk hk2
  obtain ⟨G, g9⟩ : ∃ G, w.heap.size = G := ⟨_, rfl⟩
  rw [g9] at hk hk2
  have gH := Lib.hid g9
  have hk' := hk
  rw [← hCH.out] at hk'
  have c0 := ms0 hk'
  have hbt := built_ms1 K
  obtain ⟨B, hB⟩ : ∃ B, msC K 0 0 0 z16 none 0 0 = B := ⟨_, rfl⟩
  have hBH := Lib.hid hB
  have hBl : B.length = 21 := by rw [← hB]; exact msC_len z16_len
  have hB1 : ∀ v ∈ B, v.oneCell' = true := by rw [← hB]; exact msC_one _ _ _ _ _ _ _ _
  rw [hB] at hbt
  clear hB hk'
  unfold bareC bareB
  by_cases k1 : K = 1
  · subst k1
    rw [if_pos rfl, decide_eq_true (.inl rfl)]
    obtain ⟨R, hR⟩ : ∃ R, msC 1 0 0 O z16 none 0 0 = R := ⟨_, rfl⟩
    have ho2 : ∀ v ∈ R, v.oneCell' = true := by rw [← hR]; exact msC_one 1 0 0 O z16 none 0 0
    have hl2 : R.length = 21 := by rw [← hR]; exact msC_len z16_len
    have hRH := Lib.hid hR
    rw [hR]
    clear hR
    go_enter Try.func22, Try.ntmps22
    go_wp2_with (first
      | ((with_reducible refine box_row rfl 28 (.tmp 0) rfl C ?_ ?_); rfl)
      | ((with_reducible refine wpList_alloc_blk rfl 28 rfl zeroMs ?_); refine RowKit.Hid.out ?_))
    refine Lib.hid ?_
    clear hV
    go_wp2_with ((with_reducible refine build_row rfl 28 #[(0, .tmp 6)] rfl (cells := B.toArray) ?_ ?_); (refine Eq.trans (congrArg _ ?_) hbt; kernel_rfl); refine RowKit.Hid.out ?_)
    refine Lib.hid ?_
    refine wpList_alloc_blk rfl 28 rfl zeroMs ?_
    try simp only [Act.put, List.setIfInBounds_toArray, List.set_cons_zero, List.set_cons_succ]
    have hkA := hk.alloc (.cells (msC 0 0 0 0 z16 none 0 0).toArray 28)
    have hzA := hk2.alloc (.cells (msC 0 0 0 0 z16 none 0 0).toArray 28)
    have hnA := Blk.new V 28 (msC 0 0 0 0 z16 none 0 0)
    have hBA := hb.alloc hb.size (.cells (msC 0 0 0 0 z16 none 0 0).toArray 28)
    have hnG : G + 1 < V.heap.size := hk2.lt
    obtain ⟨N, hN⟩ : ∃ N, V.heap.size = N := ⟨_, rfl⟩
    rw [hN] at hnA hnG ⊢
    obtain ⟨W, hW⟩ : ∃ W, V.alloc (.cells (msC 0 0 0 0 z16 none 0 0).toArray 28) = W := ⟨_, rfl⟩
    rw [hW] at hkA hzA hnA hBA ⊢
    clear hk hk2 hb hN hW c0
    refine store_row rfl 28 (.tmp 4) (.tmp 7) rfl rfl rfl hnA rowMs hBl (msC_len z16_len) hB1 ?_
    intro w1 hn1 hg1
    have hk1 := hkA.grown hg1 (fun e => by injection e with e; omega)
    have hz1 := hzA.grown hg1 (fun e => by injection e with e; omega)
    have hS1 := hBA.grown hg1 hBA.size (fun q hq => by injection hq with hq; have := gH.out; omega)
    clear hkA hzA hnA hBA hg1
    rw [← hBH.out] at hn1
    have hk1' := hk1
    rw [← hCH.out] at hk1'
    have c0 := ms0 hk1'
    have c1 := ms1 hk1'
    have c2 := ms2 hk1'
    have c3 := ms3 hk1'
    have c4 := ms4 hk1' hl
    have c5 := ms5 hk1' hl
    rw [hXH.out] at c4
    clear hk1'
    have d3 := hn1.cell 3
    have f3 := hn1.frozen 3
    have hn2 : Blk (w1.setCell ⟨N, 3, none⟩ (.int .u32 O)) N 28 R := hRH.out ▸ hn1.set 3 (.int .u32 O)
    have hz2 : Blk (w1.setCell ⟨N, 3, none⟩ (.int .u32 O)) (G + 1) 28 (msC 0 0 0 0 z16 none 0 0) := hz1.far (by show G + 1 ≠ N; omega) _
    have hS2 : Below w.heap.size w (w1.setCell ⟨N, 3, none⟩ (.int .u32 O)) := hS1.setCell (p := ⟨N, 3, none⟩) (by show w.heap.size ≤ N; have := gH.out; omega) _
    clear hn1 hk1 hz1 hS1
    go_wp2_with ((with_reducible refine wpList_load_blk rfl 28 (.tmp 4) rfl ?_ hn2 rowMs hl2 ?_); rfl; refine RowKit.Hid.out ?_)
    refine Lib.hid ?_
    refine store_row rfl 28 (.tmp 2) (.tmp 34) rfl rfl rfl hz2 rowMs hl2 (msC_len z16_len) ho2 ?_
    intro w3 hz3 hg3
    have hr3 : IsRow Try.prog 28 R.length := by rw [hl2]; exact rowMs
    go_wp2_with fail
    refine bodyPost_ret (results_blk_tmp rfl rfl hz3 hr3) rfl ?_
    exact ⟨rfl, hS2.grown hg3 hS2.size (fun q hq => by injection hq with hq; have := gH.out; omega)⟩
  have n1 : (K == 1) = false := beq_false_of_ne k1
  rw [if_neg k1]
  by_cases k2 : K = 2
  · subst k2
    rw [if_pos rfl, decide_eq_true (.inr (.inl rfl))]
    obtain ⟨R, hR⟩ : ∃ R, msC 2 S Q 0 H a n c = R := ⟨_, rfl⟩
    have ho2 : ∀ v ∈ R, v.oneCell' = true := by rw [← hR]; exact msC_one _ _ _ _ _ _ _ _
    have hl2 : R.length = 21 := by rw [← hR]; exact msC_len hl
    have hRH := Lib.hid hR
    rw [hR]
    clear hR k1 n1
    go_enter Try.func22, Try.ntmps22
    go_wp2_with (first
      | ((with_reducible refine box_row rfl 28 (.tmp 0) rfl C ?_ ?_); rfl)
      | ((with_reducible refine wpList_alloc_blk rfl 28 rfl zeroMs ?_); refine RowKit.Hid.out ?_))
    refine Lib.hid ?_
    clear hV
    go_wp2_with ((with_reducible refine build_row rfl 28 #[(0, .tmp 6)] rfl (cells := B.toArray) ?_ ?_); (refine Eq.trans (congrArg _ ?_) hbt; kernel_rfl); refine RowKit.Hid.out ?_)
    refine Lib.hid ?_
    refine wpList_alloc_blk rfl 28 rfl zeroMs ?_
    try simp only [Act.put, List.setIfInBounds_toArray, List.set_cons_zero, List.set_cons_succ]
    have hkA := hk.alloc (.cells (msC 0 0 0 0 z16 none 0 0).toArray 28)
    have hzA := hk2.alloc (.cells (msC 0 0 0 0 z16 none 0 0).toArray 28)
    have hnA := Blk.new V 28 (msC 0 0 0 0 z16 none 0 0)
    have hBA := hb.alloc hb.size (.cells (msC 0 0 0 0 z16 none 0 0).toArray 28)
    have hnG : G + 1 < V.heap.size := hk2.lt
    obtain ⟨N, hN⟩ : ∃ N, V.heap.size = N := ⟨_, rfl⟩
    rw [hN] at hnA hnG ⊢
    obtain ⟨W, hW⟩ : ∃ W, V.alloc (.cells (msC 0 0 0 0 z16 none 0 0).toArray 28) = W := ⟨_, rfl⟩
    rw [hW] at hkA hzA hnA hBA ⊢
    clear hk hk2 hb hN hW c0
    refine store_row rfl 28 (.tmp 4) (.tmp 7) rfl rfl rfl hnA rowMs hBl (msC_len z16_len) hB1 ?_
    intro w1 hn1 hg1
    have hk1 := hkA.grown hg1 (fun e => by injection e with e; omega)
    have hz1 := hzA.grown hg1 (fun e => by injection e with e; omega)
    have hS1 := hBA.grown hg1 hBA.size (fun q hq => by injection hq with hq; have := gH.out; omega)
    clear hkA hzA hnA hBA hg1
    rw [← hBH.out] at hn1
    have hk1' := hk1
    rw [← hCH.out] at hk1'
    have c0 := ms0 hk1'
    have c1 := ms1 hk1'
    have c2 := ms2 hk1'
    have c3 := ms3 hk1'
    have c4 := ms4 hk1' hl
    have c5 := ms5 hk1' hl
    rw [hXH.out] at c4
    clear hk1'
    go_wp2_with fail
    have hnG' : G ≠ N := by omega
    have SD : Blk w1.drew G 28 C := hk1
    have hn1d : Blk w1.drew N 28 (msC 2 0 0 0 z16 none 0 0) := hn1
    have hz1d : Blk w1.drew (G + 1) 28 (msC 0 0 0 0 z16 none 0 0) := hz1
    have hS1d : Below w.heap.size w w1.drew := hS1.drew
    refine region_seqS (fun w' => Blk w' G 28 C) (by kernel_rfl) SD ?_
    simp only [pairs, Nat.reduceAdd]
    obtain ⟨w2, hw2⟩ : ∃ w2, w1.drew = w2 := ⟨_, rfl⟩
    rw [hw2] at SD hn1d hz1d hS1d ⊢
    have hXl : X.length = 16 := by rw [← hXH.out, List.length_map, hl]
    have e2 := Lib.hid (fun w' (h : Blk w' G 28 C) => ms2 (hCH.out ▸ h : Blk w' G 28 (msC 2 S Q O H a n c)))
    have e4 := Lib.hid (fun w' (h : Blk w' G 28 C) => hXH.out ▸ ms4 (hCH.out ▸ h : Blk w' G 28 (msC 2 S Q O H a n c)) hl)
    have e5 := Lib.hid (fun w' (h : Blk w' G 28 C) => ms5 (hCH.out ▸ h : Blk w' G 28 (msC 2 S Q O H a n c)) hl)
    have hrX : IsRow Try.prog 25 X.length := by rw [hXl]; exact rowHint9
    clear c0 c1 c2 c3 c4 c5 hw2 hn1 hk1 hz1 hS1
    repeat (first
      | (refine SeqS.take (v := .agg (X).toArray) (by first | assumption | trivial) (by kernel_rfl) (by decide +kernel) (by decide +kernel) (yields_part (by rfl) 25 (.tmp 23) rfl rfl (fun w' h => e4.out w' h) (hrX)) ?_
         simp only [Act.put, List.setIfInBounds_toArray, List.set_cons_zero, List.set_cons_succ])
      | (refine SeqS.take (v := ?_) (by first | assumption | trivial) (by kernel_rfl) (by decide +kernel) (by decide +kernel) (Or.inl ⟨by rfl, ?_⟩) ?_
         rotate_left
         focus
           intro w' hb'
           go_simp
           with_reducible rfl
         simp only [Act.put, List.setIfInBounds_toArray, List.set_cons_zero, List.set_cons_succ])
      | (refine SeqS.take (v := ?_) (by first | assumption | trivial) (by kernel_rfl) (by decide +kernel) (by decide +kernel) (Or.inl ⟨by rfl, ?_⟩) ?_
         rotate_left
         focus
           intro w' hb'
           have d0 := e2.out w' hb'
           go_simp
           with_reducible rfl
         simp only [Act.put, List.setIfInBounds_toArray, List.set_cons_zero, List.set_cons_succ])
      | (refine SeqS.take (v := ?_) (by first | assumption | trivial) (by kernel_rfl) (by decide +kernel) (by decide +kernel) (Or.inl ⟨by rfl, ?_⟩) ?_
         rotate_left
         focus
           intro w' hb'
           have d0 := e5.out w' hb'
           go_simp
           with_reducible rfl
         simp only [Act.put, List.setIfInBounds_toArray, List.set_cons_zero, List.set_cons_succ])
      | (refine SeqS.take (v := undef) (by first | assumption | trivial) (by kernel_rfl) (by decide +kernel) (by decide +kernel) (Or.inr ⟨by rfl, rfl⟩) ?_
         simp only [Act.put, List.setIfInBounds_toArray, List.set_cons_zero, List.set_cons_succ])
      | (refine SeqS.take1 (v := .agg (X).toArray) (by first | assumption | trivial) (by kernel_rfl) (by decide +kernel) (by decide +kernel) (yields_part (by rfl) 25 (.tmp 23) rfl rfl (fun w' h => e4.out w' h) (hrX)) ?_
         simp only [Act.put, List.setIfInBounds_toArray, List.set_cons_zero, List.set_cons_succ])
      | (refine SeqS.take1 (v := ?_) (by first | assumption | trivial) (by kernel_rfl) (by decide +kernel) (by decide +kernel) (Or.inl ⟨by rfl, ?_⟩) ?_
         rotate_left
         focus
           intro w' hb'
           go_simp
           with_reducible rfl
         simp only [Act.put, List.setIfInBounds_toArray, List.set_cons_zero, List.set_cons_succ])
      | (refine SeqS.take1 (v := ?_) (by first | assumption | trivial) (by kernel_rfl) (by decide +kernel) (by decide +kernel) (Or.inl ⟨by rfl, ?_⟩) ?_
         rotate_left
         focus
           intro w' hb'
           have d0 := e2.out w' hb'
           go_simp
           with_reducible rfl
         simp only [Act.put, List.setIfInBounds_toArray, List.set_cons_zero, List.set_cons_succ])
      | (refine SeqS.take1 (v := ?_) (by first | assumption | trivial) (by kernel_rfl) (by decide +kernel) (by decide +kernel) (Or.inl ⟨by rfl, ?_⟩) ?_
         rotate_left
         focus
           intro w' hb'
           have d0 := e5.out w' hb'
           go_simp
           with_reducible rfl
         simp only [Act.put, List.setIfInBounds_toArray, List.set_cons_zero, List.set_cons_succ])
      | (refine SeqS.take1 (v := undef) (by first | assumption | trivial) (by kernel_rfl) (by decide +kernel) (by decide +kernel) (Or.inr ⟨by rfl, rfl⟩) ?_
         simp only [Act.put, List.setIfInBounds_toArray, List.set_cons_zero, List.set_cons_succ])
      | (refine SeqS.take2 (v := .agg (X).toArray) (by first | assumption | trivial) (by kernel_rfl) (by decide +kernel) (by decide +kernel) (yields_part (by rfl) 25 (.tmp 23) rfl rfl (fun w' h => e4.out w' h) (hrX)) ?_
         simp only [Act.put, List.setIfInBounds_toArray, List.set_cons_zero, List.set_cons_succ])
      | (refine SeqS.take2 (v := ?_) (by first | assumption | trivial) (by kernel_rfl) (by decide +kernel) (by decide +kernel) (Or.inl ⟨by rfl, ?_⟩) ?_
         rotate_left
         focus
           intro w' hb'
           go_simp
           with_reducible rfl
         simp only [Act.put, List.setIfInBounds_toArray, List.set_cons_zero, List.set_cons_succ])
      | (refine SeqS.take2 (v := ?_) (by first | assumption | trivial) (by kernel_rfl) (by decide +kernel) (by decide +kernel) (Or.inl ⟨by rfl, ?_⟩) ?_
         rotate_left
         focus
           intro w' hb'
           have d0 := e2.out w' hb'
           go_simp
           with_reducible rfl
         simp only [Act.put, List.setIfInBounds_toArray, List.set_cons_zero, List.set_cons_succ])
      | (refine SeqS.take2 (v := ?_) (by first | assumption | trivial) (by kernel_rfl) (by decide +kernel) (by decide +kernel) (Or.inl ⟨by rfl, ?_⟩) ?_
         rotate_left
         focus
           intro w' hb'
           have d0 := e5.out w' hb'
           go_simp
           with_reducible rfl
         simp only [Act.put, List.setIfInBounds_toArray, List.set_cons_zero, List.set_cons_succ])
      | (refine SeqS.take2 (v := undef) (by first | assumption | trivial) (by kernel_rfl) (by decide +kernel) (by decide +kernel) (Or.inr ⟨by rfl, rfl⟩) ?_
         simp only [Act.put, List.setIfInBounds_toArray, List.set_cons_zero, List.set_cons_succ])
      | (refine SeqS.take3 (v := .agg (X).toArray) (by first | assumption | trivial) (by kernel_rfl) (by decide +kernel) (by decide +kernel) (yields_part (by rfl) 25 (.tmp 23) rfl rfl (fun w' h => e4.out w' h) (hrX)) ?_
         simp only [Act.put, List.setIfInBounds_toArray, List.set_cons_zero, List.set_cons_succ])
      | (refine SeqS.take3 (v := ?_) (by first | assumption | trivial) (by kernel_rfl) (by decide +kernel) (by decide +kernel) (Or.inl ⟨by rfl, ?_⟩) ?_
         rotate_left
         focus
           intro w' hb'
           go_simp
           with_reducible rfl
         simp only [Act.put, List.setIfInBounds_toArray, List.set_cons_zero, List.set_cons_succ])
      | (refine SeqS.take3 (v := ?_) (by first | assumption | trivial) (by kernel_rfl) (by decide +kernel) (by decide +kernel) (Or.inl ⟨by rfl, ?_⟩) ?_
         rotate_left
         focus
           intro w' hb'
           have d0 := e2.out w' hb'
           go_simp
           with_reducible rfl
         simp only [Act.put, List.setIfInBounds_toArray, List.set_cons_zero, List.set_cons_succ])
      | (refine SeqS.take3 (v := ?_) (by first | assumption | trivial) (by kernel_rfl) (by decide +kernel) (by decide +kernel) (Or.inl ⟨by rfl, ?_⟩) ?_
         rotate_left
         focus
           intro w' hb'
           have d0 := e5.out w' hb'
           go_simp
           with_reducible rfl
         simp only [Act.put, List.setIfInBounds_toArray, List.set_cons_zero, List.set_cons_succ])
      | (refine SeqS.take3 (v := undef) (by first | assumption | trivial) (by kernel_rfl) (by decide +kernel) (by decide +kernel) (Or.inr ⟨by rfl, rfl⟩) ?_
         simp only [Act.put, List.setIfInBounds_toArray, List.set_cons_zero, List.set_cons_succ])
      | (refine SeqS.take4 (v := .agg (X).toArray) (by first | assumption | trivial) (by kernel_rfl) (by decide +kernel) (by decide +kernel) (yields_part (by rfl) 25 (.tmp 23) rfl rfl (fun w' h => e4.out w' h) (hrX)) ?_
         simp only [Act.put, List.setIfInBounds_toArray, List.set_cons_zero, List.set_cons_succ])
      | (refine SeqS.take4 (v := ?_) (by first | assumption | trivial) (by kernel_rfl) (by decide +kernel) (by decide +kernel) (Or.inl ⟨by rfl, ?_⟩) ?_
         rotate_left
         focus
           intro w' hb'
           go_simp
           with_reducible rfl
         simp only [Act.put, List.setIfInBounds_toArray, List.set_cons_zero, List.set_cons_succ])
      | (refine SeqS.take4 (v := ?_) (by first | assumption | trivial) (by kernel_rfl) (by decide +kernel) (by decide +kernel) (Or.inl ⟨by rfl, ?_⟩) ?_
         rotate_left
         focus
           intro w' hb'
           have d0 := e2.out w' hb'
           go_simp
           with_reducible rfl
         simp only [Act.put, List.setIfInBounds_toArray, List.set_cons_zero, List.set_cons_succ])
      | (refine SeqS.take4 (v := ?_) (by first | assumption | trivial) (by kernel_rfl) (by decide +kernel) (by decide +kernel) (Or.inl ⟨by rfl, ?_⟩) ?_
         rotate_left
         focus
           intro w' hb'
           have d0 := e5.out w' hb'
           go_simp
           with_reducible rfl
         simp only [Act.put, List.setIfInBounds_toArray, List.set_cons_zero, List.set_cons_succ])
      | (refine SeqS.take4 (v := undef) (by first | assumption | trivial) (by kernel_rfl) (by decide +kernel) (by decide +kernel) (Or.inr ⟨by rfl, rfl⟩) ?_
         simp only [Act.put, List.setIfInBounds_toArray, List.set_cons_zero, List.set_cons_succ]))
    refine SeqS.alone (by decide +kernel) (by rfl) (fun K hK => ?_)
    have d2 := hn1d.cell 2
    have f2 := hn1d.frozen 2
    go_simp
    refine hK _ _ (SD.far (by show G ≠ N; omega) _) ?_
    clear hK K d2 f2
    try simp only [Act.put]
    have hn2 : Blk (w2.setCell ⟨N, 2, none⟩ (.int .u32 Q)) N 28 (msC 2 0 Q 0 z16 none 0 0) := hn1d.set 2 (.int .u32 Q)
    have hz2 : Blk (w2.setCell ⟨N, 2, none⟩ (.int .u32 Q)) (G + 1) 28 (msC 0 0 0 0 z16 none 0 0) := hz1d.far (by show G + 1 ≠ N; omega) _
    have hk2 : Blk (w2.setCell ⟨N, 2, none⟩ (.int .u32 Q)) G 28 C := SD.far (by show G ≠ N; omega) _
    have hS2 : Below w.heap.size w (w2.setCell ⟨N, 2, none⟩ (.int .u32 Q)) := hS1d.setCell (p := ⟨N, 2, none⟩) (by show w.heap.size ≤ N; have := gH.out; omega) _
    obtain ⟨w3, hw3⟩ : ∃ w3, w2.setCell ⟨N, 2, none⟩ (.int .u32 Q) = w3 := ⟨_, rfl⟩
    rw [hw3] at hn2 hz2 hk2 hS2 ⊢
    clear hw3 hn1d hz1d SD hS1d
    repeat (first
      | (refine SeqS.take (v := ?_) (by first | assumption | trivial) (by kernel_rfl) (by decide +kernel) (by decide +kernel) (Or.inl ⟨by rfl, ?_⟩) ?_
         rotate_left
         focus
           intro w' hb'
           go_simp
           with_reducible rfl
         simp only [Act.put, List.setIfInBounds_toArray, List.set_cons_zero, List.set_cons_succ])
      | (refine SeqS.take (v := undef) (by first | assumption | trivial) (by kernel_rfl) (by decide +kernel) (by decide +kernel) (Or.inr ⟨by rfl, rfl⟩) ?_
         simp only [Act.put, List.setIfInBounds_toArray, List.set_cons_zero, List.set_cons_succ])
      | (refine SeqS.take1 (v := ?_) (by first | assumption | trivial) (by kernel_rfl) (by decide +kernel) (by decide +kernel) (Or.inl ⟨by rfl, ?_⟩) ?_
         rotate_left
         focus
           intro w' hb'
           go_simp
           with_reducible rfl
         simp only [Act.put, List.setIfInBounds_toArray, List.set_cons_zero, List.set_cons_succ])
      | (refine SeqS.take1 (v := undef) (by first | assumption | trivial) (by kernel_rfl) (by decide +kernel) (by decide +kernel) (Or.inr ⟨by rfl, rfl⟩) ?_
         simp only [Act.put, List.setIfInBounds_toArray, List.set_cons_zero, List.set_cons_succ])
      | (refine SeqS.take2 (v := ?_) (by first | assumption | trivial) (by kernel_rfl) (by decide +kernel) (by decide +kernel) (Or.inl ⟨by rfl, ?_⟩) ?_
         rotate_left
         focus
           intro w' hb'
           go_simp
           with_reducible rfl
         simp only [Act.put, List.setIfInBounds_toArray, List.set_cons_zero, List.set_cons_succ])
      | (refine SeqS.take2 (v := undef) (by first | assumption | trivial) (by kernel_rfl) (by decide +kernel) (by decide +kernel) (Or.inr ⟨by rfl, rfl⟩) ?_
         simp only [Act.put, List.setIfInBounds_toArray, List.set_cons_zero, List.set_cons_succ]))
    refine SeqS.alone (by decide +kernel) (by rfl) (fun K hK => ?_)
    refine wp_store_part 25 (.tmp 28) (.tmp 24) rfl (g := N) (off := 4) (cs := X) rfl rfl hn2 hrX (by rw [hXl, msC_len z16_len]; decide) (by rw [← hXH.out]; exact hint_one H) ?_
    intro w4 hn4 hg4
    rw [← hXH.out, msC_hint z16_len hl] at hn4
    have hz4 := hz2.grown hg4 (fun e => by injection e with e; omega)
    have hk4 := hk2.grown hg4 (fun e => by injection e with e; omega)
    have hS4 := hS2.grown hg4 hS2.size (fun q hq => by injection hq with hq; have := gH.out; omega)
    refine hK _ _ hk4 ?_
    clear hK K hn2 hz2 hk2 hS2 hg4
    try simp only [Act.put]
    repeat (first
      | (refine SeqS.take (v := ?_) (by first | assumption | trivial) (by kernel_rfl) (by decide +kernel) (by decide +kernel) (Or.inl ⟨by rfl, ?_⟩) ?_
         rotate_left
         focus
           intro w' hb'
           go_simp
           with_reducible rfl
         simp only [Act.put, List.setIfInBounds_toArray, List.set_cons_zero, List.set_cons_succ])
      | (refine SeqS.take (v := undef) (by first | assumption | trivial) (by kernel_rfl) (by decide +kernel) (by decide +kernel) (Or.inr ⟨by rfl, rfl⟩) ?_
         simp only [Act.put, List.setIfInBounds_toArray, List.set_cons_zero, List.set_cons_succ])
      | (refine SeqS.take1 (v := ?_) (by first | assumption | trivial) (by kernel_rfl) (by decide +kernel) (by decide +kernel) (Or.inl ⟨by rfl, ?_⟩) ?_
         rotate_left
         focus
           intro w' hb'
           go_simp
           with_reducible rfl
         simp only [Act.put, List.setIfInBounds_toArray, List.set_cons_zero, List.set_cons_succ])
      | (refine SeqS.take1 (v := undef) (by first | assumption | trivial) (by kernel_rfl) (by decide +kernel) (by decide +kernel) (Or.inr ⟨by rfl, rfl⟩) ?_
         simp only [Act.put, List.setIfInBounds_toArray, List.set_cons_zero, List.set_cons_succ])
      | (refine SeqS.take2 (v := ?_) (by first | assumption | trivial) (by kernel_rfl) (by decide +kernel) (by decide +kernel) (Or.inl ⟨by rfl, ?_⟩) ?_
         rotate_left
         focus
           intro w' hb'
           go_simp
           with_reducible rfl
         simp only [Act.put, List.setIfInBounds_toArray, List.set_cons_zero, List.set_cons_succ])
      | (refine SeqS.take2 (v := undef) (by first | assumption | trivial) (by kernel_rfl) (by decide +kernel) (by decide +kernel) (Or.inr ⟨by rfl, rfl⟩) ?_
         simp only [Act.put, List.setIfInBounds_toArray, List.set_cons_zero, List.set_cons_succ]))
    refine SeqS.alone (by decide +kernel) (by rfl) (fun K hK => ?_)
    have d5 := ms5 hn4 hl
    have f5 := hn4.frozen 20
    go_simp
    refine hK _ _ (hk4.far (by show G ≠ N; omega) _) ?_
    clear hK K d5 f5
    try simp only [Act.put]
    refine SeqS.done (by decide +kernel) ?_
    have hn6 : Blk (w4.setCell ⟨N, 20, none⟩ (.slice a n c)) N 28 (msC 2 0 Q 0 H a n c) := by
      have h := hn4.set 20 (.slice a n c)
      rw [msC_set hl] at h
      exact h
    have hz6 : Blk (w4.setCell ⟨N, 20, none⟩ (.slice a n c)) (G + 1) 28 (msC 0 0 0 0 z16 none 0 0) := hz4.far (by show G + 1 ≠ N; omega) _
    have hk6 : Blk (w4.setCell ⟨N, 20, none⟩ (.slice a n c)) G 28 C := hk4.far (by show G ≠ N; omega) _
    have hS6 : Below w.heap.size w (w4.setCell ⟨N, 20, none⟩ (.slice a n c)) := hS4.setCell (p := ⟨N, 20, none⟩) (by show w.heap.size ≤ N; have := gH.out; omega) _
    obtain ⟨w6, hw6⟩ : ∃ w6, w4.setCell ⟨N, 20, none⟩ (.slice a n c) = w6 := ⟨_, rfl⟩
    rw [hw6] at hn6 hz6 hk6 hS6 ⊢
    clear hw6 hn4 hz4 hk4 hS4
    have c1 : w6.cell? ⟨G, 1, none⟩ = some (.int .u32 S) := ms1 (hCH.out ▸ hk6 : Blk w6 G 28 (msC 2 S Q O H a n c))
    have d1 := hn6.cell 1
    have f1 := hn6.frozen 1
    have hn2 : Blk (w6.setCell ⟨N, 1, none⟩ (.int .u32 S)) N 28 R := hRH.out ▸ hn6.set 1 (.int .u32 S)
    have hz2 : Blk (w6.setCell ⟨N, 1, none⟩ (.int .u32 S)) (G + 1) 28 (msC 0 0 0 0 z16 none 0 0) := hz6.far (by show G + 1 ≠ N; omega) _
    have hS2 : Below w.heap.size w (w6.setCell ⟨N, 1, none⟩ (.int .u32 S)) := hS6.setCell (p := ⟨N, 1, none⟩) (by show w.heap.size ≤ N; have := gH.out; omega) _
    clear hn6 hz6 hk6 hS6 e2 e4 e5
    go_wp2_with ((with_reducible refine wpList_load_blk rfl 28 (.tmp 4) rfl ?_ hn2 rowMs hl2 ?_); rfl; refine RowKit.Hid.out ?_)
    refine Lib.hid ?_
    refine store_row rfl 28 (.tmp 2) (.tmp 34) rfl rfl rfl hz2 rowMs hl2 (msC_len z16_len) ho2 ?_
    intro w3 hz3 hg3
    have hr3 : IsRow Try.prog 28 R.length := by rw [hl2]; exact rowMs
    go_wp2_with fail
    refine bodyPost_ret (results_blk_tmp rfl rfl hz3 hr3) rfl ?_
    exact ⟨rfl, hS2.grown hg3 hS2.size (fun q hq => by injection hq with hq; have := gH.out; omega)⟩
  have n2 : (K == 2) = false := beq_false_of_ne k2
  rw [if_neg k2]
  by_cases k3 : K = 3 ∨ K = 4
  · rw [if_pos k3, decide_eq_true (.inr (.inr k3))]
    obtain ⟨R, hR⟩ : ∃ R, msC K S 0 0 z16 none 0 0 = R := ⟨_, rfl⟩
    have ho2 : ∀ v ∈ R, v.oneCell' = true := by rw [← hR]; exact msC_one _ _ _ _ _ _ _ _
    have hl2 : R.length = 21 := by rw [← hR]; exact msC_len z16_len
    have hRH := Lib.hid hR
    rw [hR]
    clear hR
    rcases k3 with rfl | rfl
    · clear k1 k2 n1 n2
      go_enter Try.func22, Try.ntmps22
      go_wp2_with (first
        | ((with_reducible refine box_row rfl 28 (.tmp 0) rfl C ?_ ?_); rfl)
        | ((with_reducible refine wpList_alloc_blk rfl 28 rfl zeroMs ?_); refine RowKit.Hid.out ?_))
      refine Lib.hid ?_
      clear hV
      go_wp2_with ((with_reducible refine build_row rfl 28 #[(0, .tmp 6)] rfl (cells := B.toArray) ?_ ?_); (refine Eq.trans (congrArg _ ?_) hbt; kernel_rfl); refine RowKit.Hid.out ?_)
      refine Lib.hid ?_
      refine wpList_alloc_blk rfl 28 rfl zeroMs ?_
      try simp only [Act.put, List.setIfInBounds_toArray, List.set_cons_zero, List.set_cons_succ]
      have hkA := hk.alloc (.cells (msC 0 0 0 0 z16 none 0 0).toArray 28)
      have hzA := hk2.alloc (.cells (msC 0 0 0 0 z16 none 0 0).toArray 28)
      have hnA := Blk.new V 28 (msC 0 0 0 0 z16 none 0 0)
      have hBA := hb.alloc hb.size (.cells (msC 0 0 0 0 z16 none 0 0).toArray 28)
      have hnG : G + 1 < V.heap.size := hk2.lt
      obtain ⟨N, hN⟩ : ∃ N, V.heap.size = N := ⟨_, rfl⟩
      rw [hN] at hnA hnG ⊢
      obtain ⟨W, hW⟩ : ∃ W, V.alloc (.cells (msC 0 0 0 0 z16 none 0 0).toArray 28) = W := ⟨_, rfl⟩
      rw [hW] at hkA hzA hnA hBA ⊢
      clear hk hk2 hb hN hW c0
      refine store_row rfl 28 (.tmp 4) (.tmp 7) rfl rfl rfl hnA rowMs hBl (msC_len z16_len) hB1 ?_
      intro w1 hn1 hg1
      have hk1 := hkA.grown hg1 (fun e => by injection e with e; omega)
      have hz1 := hzA.grown hg1 (fun e => by injection e with e; omega)
      have hS1 := hBA.grown hg1 hBA.size (fun q hq => by injection hq with hq; have := gH.out; omega)
      clear hkA hzA hnA hBA hg1
      rw [← hBH.out] at hn1
      have hk1' := hk1
      rw [← hCH.out] at hk1'
      have c0 := ms0 hk1'
      have c1 := ms1 hk1'
      have c2 := ms2 hk1'
      have c3 := ms3 hk1'
      have c4 := ms4 hk1' hl
      have c5 := ms5 hk1' hl
      rw [hXH.out] at c4
      clear hk1'
      have d1 := hn1.cell 1
      have f1 := hn1.frozen 1
      have hn2 : Blk (w1.setCell ⟨N, 1, none⟩ (.int .u32 S)) N 28 R := hRH.out ▸ hn1.set 1 (.int .u32 S)
      have hz2 : Blk (w1.setCell ⟨N, 1, none⟩ (.int .u32 S)) (G + 1) 28 (msC 0 0 0 0 z16 none 0 0) := hz1.far (by show G + 1 ≠ N; omega) _
      have hS2 : Below w.heap.size w (w1.setCell ⟨N, 1, none⟩ (.int .u32 S)) := hS1.setCell (p := ⟨N, 1, none⟩) (by show w.heap.size ≤ N; have := gH.out; omega) _
      clear hn1 hk1 hz1 hS1
      go_wp2_with ((with_reducible refine wpList_load_blk rfl 28 (.tmp 4) rfl ?_ hn2 rowMs hl2 ?_); rfl; refine RowKit.Hid.out ?_)
      refine Lib.hid ?_
      refine store_row rfl 28 (.tmp 2) (.tmp 34) rfl rfl rfl hz2 rowMs hl2 (msC_len z16_len) ho2 ?_
      intro w3 hz3 hg3
      have hr3 : IsRow Try.prog 28 R.length := by rw [hl2]; exact rowMs
      go_wp2_with fail
      refine bodyPost_ret (results_blk_tmp rfl rfl hz3 hr3) rfl ?_
      exact ⟨rfl, hS2.grown hg3 hS2.size (fun q hq => by injection hq with hq; have := gH.out; omega)⟩
    · clear k1 k2 n1 n2
      go_enter Try.func22, Try.ntmps22
      go_wp2_with (first
        | ((with_reducible refine box_row rfl 28 (.tmp 0) rfl C ?_ ?_); rfl)
        | ((with_reducible refine wpList_alloc_blk rfl 28 rfl zeroMs ?_); refine RowKit.Hid.out ?_))
      refine Lib.hid ?_
      clear hV
      go_wp2_with ((with_reducible refine build_row rfl 28 #[(0, .tmp 6)] rfl (cells := B.toArray) ?_ ?_); (refine Eq.trans (congrArg _ ?_) hbt; kernel_rfl); refine RowKit.Hid.out ?_)
      refine Lib.hid ?_
      refine wpList_alloc_blk rfl 28 rfl zeroMs ?_
      try simp only [Act.put, List.setIfInBounds_toArray, List.set_cons_zero, List.set_cons_succ]
      have hkA := hk.alloc (.cells (msC 0 0 0 0 z16 none 0 0).toArray 28)
      have hzA := hk2.alloc (.cells (msC 0 0 0 0 z16 none 0 0).toArray 28)
      have hnA := Blk.new V 28 (msC 0 0 0 0 z16 none 0 0)
      have hBA := hb.alloc hb.size (.cells (msC 0 0 0 0 z16 none 0 0).toArray 28)
      have hnG : G + 1 < V.heap.size := hk2.lt
      obtain ⟨N, hN⟩ : ∃ N, V.heap.size = N := ⟨_, rfl⟩
      rw [hN] at hnA hnG ⊢
      obtain ⟨W, hW⟩ : ∃ W, V.alloc (.cells (msC 0 0 0 0 z16 none 0 0).toArray 28) = W := ⟨_, rfl⟩
      rw [hW] at hkA hzA hnA hBA ⊢
      clear hk hk2 hb hN hW c0
      refine store_row rfl 28 (.tmp 4) (.tmp 7) rfl rfl rfl hnA rowMs hBl (msC_len z16_len) hB1 ?_
      intro w1 hn1 hg1
      have hk1 := hkA.grown hg1 (fun e => by injection e with e; omega)
      have hz1 := hzA.grown hg1 (fun e => by injection e with e; omega)
      have hS1 := hBA.grown hg1 hBA.size (fun q hq => by injection hq with hq; have := gH.out; omega)
      clear hkA hzA hnA hBA hg1
      rw [← hBH.out] at hn1
      have hk1' := hk1
      rw [← hCH.out] at hk1'
      have c0 := ms0 hk1'
      have c1 := ms1 hk1'
      have c2 := ms2 hk1'
      have c3 := ms3 hk1'
      have c4 := ms4 hk1' hl
      have c5 := ms5 hk1' hl
      rw [hXH.out] at c4
      clear hk1'
      have d1 := hn1.cell 1
      have f1 := hn1.frozen 1
      have hn2 : Blk (w1.setCell ⟨N, 1, none⟩ (.int .u32 S)) N 28 R := hRH.out ▸ hn1.set 1 (.int .u32 S)
      have hz2 : Blk (w1.setCell ⟨N, 1, none⟩ (.int .u32 S)) (G + 1) 28 (msC 0 0 0 0 z16 none 0 0) := hz1.far (by show G + 1 ≠ N; omega) _
      have hS2 : Below w.heap.size w (w1.setCell ⟨N, 1, none⟩ (.int .u32 S)) := hS1.setCell (p := ⟨N, 1, none⟩) (by show w.heap.size ≤ N; have := gH.out; omega) _
      clear hn1 hk1 hz1 hS1
      go_wp2_with ((with_reducible refine wpList_load_blk rfl 28 (.tmp 4) rfl ?_ hn2 rowMs hl2 ?_); rfl; refine RowKit.Hid.out ?_)
      refine Lib.hid ?_
      refine store_row rfl 28 (.tmp 2) (.tmp 34) rfl rfl rfl hz2 rowMs hl2 (msC_len z16_len) ho2 ?_
      intro w3 hz3 hg3
      have hr3 : IsRow Try.prog 28 R.length := by rw [hl2]; exact rowMs
      go_wp2_with fail
      refine bodyPost_ret (results_blk_tmp rfl rfl hz3 hr3) rfl ?_
      exact ⟨rfl, hS2.grown hg3 hS2.size (fun q hq => by injection hq with hq; have := gH.out; omega)⟩
  · rw [if_neg k3, decide_eq_false (by omega)]
    have n3 : (K == 3) = false := beq_false_of_ne (fun e => k3 (.inl e))
    have n4 : (K == 4) = false := beq_false_of_ne (fun e => k3 (.inr e))
    obtain ⟨R, hR⟩ : ∃ R, msC 0 0 0 0 z16 none 0 0 = R := ⟨_, rfl⟩
    have ho2 : ∀ v ∈ R, v.oneCell' = true := by rw [← hR]; exact msC_one _ _ _ _ _ _ _ _
    have hl2 : R.length = 21 := by rw [← hR]; exact msC_len z16_len
    have hbt0 := built_ms0
    rw [hR] at hbt0
    clear k1 k2 k3
    have hRH := Lib.hid hR
    rw [show (Value.agg (msC 0 0 0 0 z16 none 0 0).toArray) = .agg R.toArray by rw [hR]]
    clear hR
    go_enter Try.func22, Try.ntmps22
    go_wp2_with (first
      | ((with_reducible refine box_row rfl 28 (.tmp 0) rfl C ?_ ?_); rfl)
      | ((with_reducible refine wpList_alloc_blk rfl 28 rfl zeroMs ?_); refine RowKit.Hid.out ?_))
    refine Lib.hid ?_
    clear hV
    go_wp2_with ((with_reducible refine build_row rfl 28 #[(0, .tmp 6)] rfl (cells := B.toArray) ?_ ?_); (refine Eq.trans (congrArg _ ?_) hbt; kernel_rfl); refine RowKit.Hid.out ?_)
    refine Lib.hid ?_
    refine wpList_alloc_blk rfl 28 rfl zeroMs ?_
    try simp only [Act.put, List.setIfInBounds_toArray, List.set_cons_zero, List.set_cons_succ]
    have hkA := hk.alloc (.cells (msC 0 0 0 0 z16 none 0 0).toArray 28)
    have hzA := hk2.alloc (.cells (msC 0 0 0 0 z16 none 0 0).toArray 28)
    have hnA := Blk.new V 28 (msC 0 0 0 0 z16 none 0 0)
    have hBA := hb.alloc hb.size (.cells (msC 0 0 0 0 z16 none 0 0).toArray 28)
    have hnG : G + 1 < V.heap.size := hk2.lt
    obtain ⟨N, hN⟩ : ∃ N, V.heap.size = N := ⟨_, rfl⟩
    rw [hN] at hnA hnG ⊢
    obtain ⟨W, hW⟩ : ∃ W, V.alloc (.cells (msC 0 0 0 0 z16 none 0 0).toArray 28) = W := ⟨_, rfl⟩
    rw [hW] at hkA hzA hnA hBA ⊢
    clear hk hk2 hb hN hW c0
    refine store_row rfl 28 (.tmp 4) (.tmp 7) rfl rfl rfl hnA rowMs hBl (msC_len z16_len) hB1 ?_
    intro w1 hn1 hg1
    have hk1 := hkA.grown hg1 (fun e => by injection e with e; omega)
    have hz1 := hzA.grown hg1 (fun e => by injection e with e; omega)
    have hS1 := hBA.grown hg1 hBA.size (fun q hq => by injection hq with hq; have := gH.out; omega)
    clear hkA hzA hnA hBA hg1
    rw [← hBH.out] at hn1
    have hk1' := hk1
    rw [← hCH.out] at hk1'
    have c0 := ms0 hk1'
    have c1 := ms1 hk1'
    have c2 := ms2 hk1'
    have c3 := ms3 hk1'
    have c4 := ms4 hk1' hl
    have c5 := ms5 hk1' hl
    rw [hXH.out] at c4
    clear hk1'
    clear hn1 hk1
    go_wp2_with ((with_reducible refine build_row rfl 28 #[] rfl (cells := R.toArray) ?_ ?_); (refine Eq.trans (congrArg _ ?_) hbt0; kernel_rfl); refine RowKit.Hid.out ?_)
    refine Lib.hid ?_
    refine store_row rfl 28 (.tmp 2) (.tmp 33) rfl rfl rfl hz1 rowMs hl2 (msC_len z16_len) ho2 ?_
    intro w3 hz3 hg3
    have hr3 : IsRow Try.prog 28 R.length := by rw [hl2]; exact rowMs
    go_wp2_with fail
    refine bodyPost_ret (results_blk_tmp rfl rfl hz3 hr3) rfl ?_
    exact ⟨rfl, hS1.grown hg3 hS1.size (fun q hq => by injection hq with hq; have := gH.out; omega)⟩
end Go.Proofs.Ytgaelgpmmgjldaa

/-
  What message's Right comes to. New memory alone is written. Conditions: the fields' ranges.
-/
namespace Go.Proofs.Ytgaelgpmmgjldaa
open Go.RowKit

instance (m : MsgV) : Decidable (MsgRight m) := by unfold MsgRight; infer_instance
def rightM (m : MsgV) : Bool := decide (MsgRight m)
theorem rightM_iff (m : MsgV) : rightM m = true ↔ MsgRight m := decide_eq_true_iff
theorem load_if {P : Program} {w : World} {ops : Array Oper} {rest : List Oper} {o : Oper} {a : Act} {Q : Exit → Act → World → Prop} (hw : Region.wanted o (yielded ops a.tmps) = true) (ty : TypeId) (x : Operand) (ho : o.op = .load ty x)
    {g : Nat} (hx : a.eval x = .pointer (some ⟨g, 0, none⟩)) {t : TypeId} {cs : List Value} (hg : Blk w g t cs) {n : Nat} (hr : IsRow P ty n) (hn : cs.length = n)
    (h : wpList P ops Q rest (a.put o.dst (.agg cs.toArray)) w) : wpList P ops Q (o :: rest) a w := by
  subst hn
  obtain ⟨⟨d, hu, hd⟩, hi⟩ := hr
  refine wpList_step fun K hK => ?_
  rw [if_pos hw]
  exact wp_load_mid ty x ho g 0 hx cs d (hg.range 0 cs (fun j v hj => by simpa using hj)) hu hd (by simpa using hi) (hK _ _ h)

/-- Whether a message may be, by what bare tells. -/
theorem right1 (S Q O : Int) (H xs : List Int) : rightM ⟨1, S, Q, O, H, xs⟩ = ((hsB 1 S Q O H 1 0 0 O z16 && (xs == [])) && (decide (O ≤ 65535) && decide (xs.length ≤ 1000))) := by
  rw [Bool.eq_iff_iff, rightM_iff]
  simp only [MsgRight, hsB, decide_eq_true_eq, Bool.and_eq_true, beq_iff_eq]
  constructor
  · rintro (⟨_, h1, h2, h3, h4, h5⟩ | ⟨h, _⟩ | ⟨h, _⟩)
    · exact ⟨⟨⟨by trivial, h1, h2, by trivial, h4⟩, h5⟩, h3, by rw [h5]; decide⟩
    · exact absurd h (by decide)
    · exact absurd h (by decide)
  · rintro ⟨⟨⟨_, h1, h2, _, h4⟩, h5⟩, h3, _⟩
    exact .inl ⟨by trivial, h1, h2, h3, h4, h5⟩
theorem right2 (S Q O : Int) (H xs : List Int) : rightM ⟨2, S, Q, O, H, xs⟩ = ((hsB 2 S Q O H 2 S Q 0 H && (xs == xs)) && (decide (O ≤ 65535) && decide (xs.length ≤ 1000))) := by
  rw [Bool.eq_iff_iff, rightM_iff]
  simp only [MsgRight, hsB, decide_eq_true_eq, Bool.and_eq_true, beq_iff_eq]
  constructor
  · rintro (⟨h, _⟩ | ⟨_, h1, h2⟩ | ⟨h, _⟩)
    · exact absurd h (by decide)
    · exact ⟨⟨⟨by trivial, by trivial, by trivial, h1, by trivial⟩, by trivial⟩, by rw [h1]; decide, h2⟩
    · exact absurd h (by decide)
  · rintro ⟨⟨⟨_, _, _, h1, _⟩, _⟩, _, h2⟩
    exact .inr (.inl ⟨by trivial, h1, h2⟩)
theorem right3 {K : Int} (hK : K = 3 ∨ K = 4) (S Q O : Int) (H xs : List Int) : rightM ⟨K, S, Q, O, H, xs⟩ = ((hsB K S Q O H K S 0 0 z16 && (xs == [])) && (decide (O ≤ 65535) && decide (xs.length ≤ 1000))) := by
  rw [Bool.eq_iff_iff, rightM_iff]
  simp only [MsgRight, hsB, decide_eq_true_eq, Bool.and_eq_true, beq_iff_eq]
  constructor
  · rintro (⟨h, _⟩ | ⟨h, _⟩ | ⟨_, h1, h2, h3, h4⟩)
    · exact absurd h (by omega)
    · exact absurd h (by omega)
    · exact ⟨⟨⟨by trivial, by trivial, h1, h2, h3⟩, h4⟩, by rw [h2]; decide, by rw [h4]; decide⟩
  · rintro ⟨⟨⟨_, _, h1, h2, h3⟩, h4⟩, _, _⟩
    exact .inr (.inr ⟨hK, h1, h2, h3, h4⟩)
theorem right0 {K : Int} (hK : bareB K = false) (S Q O : Int) (H xs : List Int) : rightM ⟨K, S, Q, O, H, xs⟩ = false := by
  unfold bareB at hK
  have hK := of_decide_eq_false hK
  unfold rightM MsgRight
  refine decide_eq_false ?_
  dsimp only
  omega

set_option maxRecDepth 100000 in
set_option maxHeartbeats 2000000 in
theorem msRight_own (K S Q O : Int) (H : List Int) (a : Option Addr) (n c : Nat) (xs : List Int) (K' S' Q' O' : Int) (H' : List Int) (a' : Option Addr) (n' c' : Nat) (ys : List Int) (w : World) (hl : H.length = 16) (hl' : H'.length = 16) (hI : Ints .u8 w a n c xs) (hJ : Ints .u8 w a' n' c' ys) (hx : okB xs) (hy : okB ys)
    (hD : bareC K S Q O H a n c = msC K' S' Q' O' H' a' n' c') (hB : bareB K = true) :
    Calls Try.prog 9 #[.agg (msC K S Q O H a n c).toArray] w fun q w' => q = .returned (.bool ((hsB K S Q O H K' S' Q' O' H' && (xs == ys)) && (decide (O ≤ 65535) && decide (n ≤ 1000)))) ∧ Below w.heap.size w w' := by
  have hbare := fun w' => msBare_any K S Q O H a n c w' hl
  rw [hD, hB] at hbare
  have hsame := Lib.hid (fun w' (h : Below w.heap.size w w') => msSame_any K S Q O H a n c xs K' S' Q' O' H' a' n' c' ys w' hl hl' (hI.keep h) (hJ.keep h) hx hy)
  have hCl := msC_len (K := K) (S := S) (Q := Q) (O := O) (a := a) (n := n) (c := c) hl
  have hDl := msC_len (K := K') (S := S') (Q := Q') (O := O') (a := a') (n := n') (c := c') hl'
  have hD1 := msC_one K' S' Q' O' H' a' n' c'
  obtain ⟨C, hC⟩ : ∃ C, msC K S Q O H a n c = C := ⟨_, rfl⟩
  obtain ⟨D, hDD⟩ : ∃ C, msC K' S' Q' O' H' a' n' c' = C := ⟨_, rfl⟩
  obtain ⟨F, hF⟩ : ∃ F, (hsB K S Q O H K' S' Q' O' H' && (xs == ys)) = F := ⟨_, rfl⟩
  rw [hC, hDD] at hbare hsame
  rw [hC] at hCl
  rw [hDD] at hDl hD1
  rw [hF] at hsame
  rw [hC, hF]
  have hCH := Lib.hid hC
  have hbare := Lib.hid hbare
  clear hC hDD hF hD hB hI hJ hx hy
  have hb := below1 w (.cells C.toArray 28)
  have hk : Blk (w.alloc (.cells C.toArray 28)) w.heap.size 28 C := Blk.new w _ C
  obtain ⟨W, hW⟩ : ∃ V, w.alloc (.cells C.toArray 28) = V := ⟨_, rfl⟩
  rw [hW] at hb hk
  obtain ⟨G, g9⟩ : ∃ G, w.heap.size = G := ⟨_, rfl⟩
  rw [g9] at hk
  have gH := Lib.hid g9
  have hnn : decide ((n : Int) ≤ 1000) = decide (n ≤ 1000) := decide_eq_decide.2 (by omega)
  obtain ⟨E, hE⟩ : ∃ E, decide (n ≤ 1000) = E := ⟨_, rfl⟩
  obtain ⟨J, hJ⟩ : ∃ E, decide (O ≤ 65535) = E := ⟨_, rfl⟩
  rw [hE] at hnn
  rw [hE, hJ]
  clear hE
  cases F with
  | false =>
    clear hnn hJ
    go_enter Try.func9, Try.ntmps9
    go_wp2_with ((with_reducible refine box_row rfl 28 (.tmp 0) rfl C ?_ ?_); rfl; refine RowKit.Hid.out ?_)
    refine Lib.hid ?_
    clear hW
    go_wp2_with ((with_reducible refine wpList_load_blk rfl 28 (.tmp 1) rfl ?_ hk rowMs hCl ?_); rfl)
    refine (hbare.out W).mono ?_
    rintro q w1 ⟨rfl, b1⟩
    have hk1 := hk.keep b1 hk.lt
    have hS1 := hb.trans (b1.mono hb.size)
    clear hk hb b1 hbare
    go_wp2_with ((with_reducible refine wpList_alloc_blk rfl 28 rfl zeroMs ?_); refine RowKit.Hid.out ?_)
    refine Lib.hid ?_
    try simp only [Act.put, List.setIfInBounds_toArray, List.set_cons_zero, List.set_cons_succ]
    have hkA := hk1.alloc (.cells (msC 0 0 0 0 z16 none 0 0).toArray 28)
    have hnA := Blk.new w1 28 (msC 0 0 0 0 z16 none 0 0)
    have hBA := hS1.alloc hS1.size (.cells (msC 0 0 0 0 z16 none 0 0).toArray 28)
    have hnG : G < w1.heap.size := hk1.lt
    obtain ⟨N, hN⟩ : ∃ N, w1.heap.size = N := ⟨_, rfl⟩
    rw [hN] at hnA hnG ⊢
    obtain ⟨U, hU⟩ : ∃ W, w1.alloc (.cells (msC 0 0 0 0 z16 none 0 0).toArray 28) = W := ⟨_, rfl⟩
    rw [hU] at hkA hnA hBA ⊢
    clear hk1 hS1 hN hU
    refine store_row rfl 28 (.tmp 3) (.tmp 8) rfl rfl rfl hnA rowMs hDl (msC_len z16_len) hD1 ?_
    intro w2 hn2 hg2
    have hk2 := hkA.grown hg2 (fun e => by injection e with e; omega)
    have hS2 := hBA.grown hg2 hBA.size (fun q hq => by injection hq with hq; have := gH.out; omega)
    clear hkA hnA hBA hg2
    go_wp2_with (first
      | ((with_reducible refine load_if rfl 28 (.tmp 1) rfl ?_ hk2 rowMs hCl ?_); rfl)
      | ((with_reducible refine load_if rfl 28 (.tmp 3) rfl ?_ hn2 rowMs hDl ?_); rfl))
    refine (hsame.out w2 hS2).mono ?_
    rintro q w3 ⟨rfl, b3⟩
    have hk3 := hk2.keep b3 hk2.lt
    rw [← hCH.out] at hk3
    have c3 := ms3 hk3
    have c5 := ms5 hk3 hl
    have hS3 := hS2.trans (b3.mono hS2.size)
    clear hk2 hn2 hS2 b3 hk3
    go_wp2
    go_ret
    exact ⟨by first | rfl | simp, hS3⟩
  | true =>
    cases J with
    | true =>
      go_enter Try.func9, Try.ntmps9
      go_wp2_with ((with_reducible refine box_row rfl 28 (.tmp 0) rfl C ?_ ?_); rfl; refine RowKit.Hid.out ?_)
      refine Lib.hid ?_
      clear hW
      go_wp2_with ((with_reducible refine wpList_load_blk rfl 28 (.tmp 1) rfl ?_ hk rowMs hCl ?_); rfl)
      refine (hbare.out W).mono ?_
      rintro q w1 ⟨rfl, b1⟩
      have hk1 := hk.keep b1 hk.lt
      have hS1 := hb.trans (b1.mono hb.size)
      clear hk hb b1 hbare
      go_wp2_with ((with_reducible refine wpList_alloc_blk rfl 28 rfl zeroMs ?_); refine RowKit.Hid.out ?_)
      refine Lib.hid ?_
      try simp only [Act.put, List.setIfInBounds_toArray, List.set_cons_zero, List.set_cons_succ]
      have hkA := hk1.alloc (.cells (msC 0 0 0 0 z16 none 0 0).toArray 28)
      have hnA := Blk.new w1 28 (msC 0 0 0 0 z16 none 0 0)
      have hBA := hS1.alloc hS1.size (.cells (msC 0 0 0 0 z16 none 0 0).toArray 28)
      have hnG : G < w1.heap.size := hk1.lt
      obtain ⟨N, hN⟩ : ∃ N, w1.heap.size = N := ⟨_, rfl⟩
      rw [hN] at hnA hnG ⊢
      obtain ⟨U, hU⟩ : ∃ W, w1.alloc (.cells (msC 0 0 0 0 z16 none 0 0).toArray 28) = W := ⟨_, rfl⟩
      rw [hU] at hkA hnA hBA ⊢
      clear hk1 hS1 hN hU
      refine store_row rfl 28 (.tmp 3) (.tmp 8) rfl rfl rfl hnA rowMs hDl (msC_len z16_len) hD1 ?_
      intro w2 hn2 hg2
      have hk2 := hkA.grown hg2 (fun e => by injection e with e; omega)
      have hS2 := hBA.grown hg2 hBA.size (fun q hq => by injection hq with hq; have := gH.out; omega)
      clear hkA hnA hBA hg2
      go_wp2_with (first
        | ((with_reducible refine load_if rfl 28 (.tmp 1) rfl ?_ hk2 rowMs hCl ?_); rfl)
        | ((with_reducible refine load_if rfl 28 (.tmp 3) rfl ?_ hn2 rowMs hDl ?_); rfl))
      refine (hsame.out w2 hS2).mono ?_
      rintro q w3 ⟨rfl, b3⟩
      have hk3 := hk2.keep b3 hk2.lt
      rw [← hCH.out] at hk3
      have c3 := ms3 hk3
      have c5 := ms5 hk3 hl
      have hS3 := hS2.trans (b3.mono hS2.size)
      clear hk2 hn2 hS2 b3 hk3
      go_wp2
      go_ret
      exact ⟨by first | rfl | simp | (rw [hnn]; rfl), hS3⟩
    | false =>
      go_enter Try.func9, Try.ntmps9
      go_wp2_with ((with_reducible refine box_row rfl 28 (.tmp 0) rfl C ?_ ?_); rfl; refine RowKit.Hid.out ?_)
      refine Lib.hid ?_
      clear hW
      go_wp2_with ((with_reducible refine wpList_load_blk rfl 28 (.tmp 1) rfl ?_ hk rowMs hCl ?_); rfl)
      refine (hbare.out W).mono ?_
      rintro q w1 ⟨rfl, b1⟩
      have hk1 := hk.keep b1 hk.lt
      have hS1 := hb.trans (b1.mono hb.size)
      clear hk hb b1 hbare
      go_wp2_with ((with_reducible refine wpList_alloc_blk rfl 28 rfl zeroMs ?_); refine RowKit.Hid.out ?_)
      refine Lib.hid ?_
      try simp only [Act.put, List.setIfInBounds_toArray, List.set_cons_zero, List.set_cons_succ]
      have hkA := hk1.alloc (.cells (msC 0 0 0 0 z16 none 0 0).toArray 28)
      have hnA := Blk.new w1 28 (msC 0 0 0 0 z16 none 0 0)
      have hBA := hS1.alloc hS1.size (.cells (msC 0 0 0 0 z16 none 0 0).toArray 28)
      have hnG : G < w1.heap.size := hk1.lt
      obtain ⟨N, hN⟩ : ∃ N, w1.heap.size = N := ⟨_, rfl⟩
      rw [hN] at hnA hnG ⊢
      obtain ⟨U, hU⟩ : ∃ W, w1.alloc (.cells (msC 0 0 0 0 z16 none 0 0).toArray 28) = W := ⟨_, rfl⟩
      rw [hU] at hkA hnA hBA ⊢
      clear hk1 hS1 hN hU
      refine store_row rfl 28 (.tmp 3) (.tmp 8) rfl rfl rfl hnA rowMs hDl (msC_len z16_len) hD1 ?_
      intro w2 hn2 hg2
      have hk2 := hkA.grown hg2 (fun e => by injection e with e; omega)
      have hS2 := hBA.grown hg2 hBA.size (fun q hq => by injection hq with hq; have := gH.out; omega)
      clear hkA hnA hBA hg2
      go_wp2_with (first
        | ((with_reducible refine load_if rfl 28 (.tmp 1) rfl ?_ hk2 rowMs hCl ?_); rfl)
        | ((with_reducible refine load_if rfl 28 (.tmp 3) rfl ?_ hn2 rowMs hDl ?_); rfl))
      refine (hsame.out w2 hS2).mono ?_
      rintro q w3 ⟨rfl, b3⟩
      have hk3 := hk2.keep b3 hk2.lt
      rw [← hCH.out] at hk3
      have c3 := ms3 hk3
      have c5 := ms5 hk3 hl
      have hS3 := hS2.trans (b3.mono hS2.size)
      clear hk2 hn2 hS2 b3 hk3
      go_wp2
      go_ret
      exact ⟨by first | rfl | simp, hS3⟩

set_option maxRecDepth 100000 in
set_option maxHeartbeats 2000000 in
theorem msRight_no (K S Q O : Int) (H : List Int) (a : Option Addr) (n c : Nat) (w : World) (hl : H.length = 16) (hB : bareB K = false) :
    Calls Try.prog 9 #[.agg (msC K S Q O H a n c).toArray] w fun q w' => q = .returned (.bool false) ∧ Below w.heap.size w w' := by
  have hbare := fun w' => msBare_any K S Q O H a n c w' hl
  have hD : bareC K S Q O H a n c = msC 0 0 0 0 z16 none 0 0 := by
    have hB := of_decide_eq_false hB
    unfold bareC
    rw [if_neg (by omega), if_neg (by omega), if_neg (by omega)]
  rw [hD, hB] at hbare
  have hCl := msC_len (K := K) (S := S) (Q := Q) (O := O) (a := a) (n := n) (c := c) hl
  have hDl := msC_len (K := 0) (S := 0) (Q := 0) (O := 0) (a := none) (n := 0) (c := 0) z16_len
  have hD1 := msC_one 0 0 0 0 z16 none 0 0
  obtain ⟨C, hC⟩ : ∃ C, msC K S Q O H a n c = C := ⟨_, rfl⟩
  obtain ⟨D, hDD⟩ : ∃ C, msC 0 0 0 0 z16 none 0 0 = C := ⟨_, rfl⟩
  rw [hC] at hbare hCl ⊢
  rw [hDD] at hbare hDl hD1
  have hbare := Lib.hid hbare
  clear hC hDD hD hB
  have hb := below1 w (.cells C.toArray 28)
  have hk : Blk (w.alloc (.cells C.toArray 28)) w.heap.size 28 C := Blk.new w _ C
  obtain ⟨W, hW⟩ : ∃ V, w.alloc (.cells C.toArray 28) = V := ⟨_, rfl⟩
  rw [hW] at hb hk
  obtain ⟨G, g9⟩ : ∃ G, w.heap.size = G := ⟨_, rfl⟩
  rw [g9] at hk
  have gH := Lib.hid g9
  go_enter Try.func9, Try.ntmps9
  go_wp2_with ((with_reducible refine box_row rfl 28 (.tmp 0) rfl C ?_ ?_); rfl; refine RowKit.Hid.out ?_)
  refine Lib.hid ?_
  clear hW
  go_wp2_with ((with_reducible refine wpList_load_blk rfl 28 (.tmp 1) rfl ?_ hk rowMs hCl ?_); rfl)
  refine (hbare.out W).mono ?_
  rintro q w1 ⟨rfl, b1⟩
  have hk1 := hk.keep b1 hk.lt
  have hS1 := hb.trans (b1.mono hb.size)
  clear hk hb b1 hbare
  go_wp2_with ((with_reducible refine wpList_alloc_blk rfl 28 rfl zeroMs ?_); refine RowKit.Hid.out ?_)
  refine Lib.hid ?_
  try simp only [Act.put, List.setIfInBounds_toArray, List.set_cons_zero, List.set_cons_succ]
  have hkA := hk1.alloc (.cells (msC 0 0 0 0 z16 none 0 0).toArray 28)
  have hnA := Blk.new w1 28 (msC 0 0 0 0 z16 none 0 0)
  have hBA := hS1.alloc hS1.size (.cells (msC 0 0 0 0 z16 none 0 0).toArray 28)
  have hnG : G < w1.heap.size := hk1.lt
  obtain ⟨N, hN⟩ : ∃ N, w1.heap.size = N := ⟨_, rfl⟩
  rw [hN] at hnA hnG ⊢
  obtain ⟨U, hU⟩ : ∃ W, w1.alloc (.cells (msC 0 0 0 0 z16 none 0 0).toArray 28) = W := ⟨_, rfl⟩
  rw [hU] at hkA hnA hBA ⊢
  clear hk1 hS1 hN hU
  refine store_row rfl 28 (.tmp 3) (.tmp 8) rfl rfl rfl hnA rowMs hDl (msC_len z16_len) hD1 ?_
  intro w2 hn2 hg2
  have hk2 := hkA.grown hg2 (fun e => by injection e with e; omega)
  have hS2 := hBA.grown hg2 hBA.size (fun q hq => by injection hq with hq; have := gH.out; omega)
  clear hkA hnA hBA hg2
  go_wp2
  go_ret
  exact ⟨by first | rfl | simp, hS2⟩

theorem msRight_any (K S Q O : Int) (H : List Int) (a : Option Addr) (n c : Nat) (xs : List Int) (w : World) (hl : H.length = 16) (hI : Ints .u8 w a n c xs) (hx : okB xs) :
    Calls Try.prog 9 #[.agg (msC K S Q O H a n c).toArray] w fun q w' => q = .returned (.bool (rightM ⟨K, S, Q, O, H, xs⟩)) ∧ Below w.heap.size w w' := by
  have nilI : Ints .u8 w none 0 0 [] := ⟨rfl, Nat.le_refl _, .inl rfl⟩
  have nilB : okB [] := fun _ h => by cases h
  have hln := hI.len
  by_cases k1 : K = 1
  · subst k1
    rw [right1, hln]
    exact msRight_own 1 S Q O H a n c xs 1 0 0 O z16 none 0 0 [] w hl z16_len hI nilI hx nilB (by unfold bareC; rw [if_pos rfl]) (by decide)
  by_cases k2 : K = 2
  · subst k2
    rw [right2, hln]
    exact msRight_own 2 S Q O H a n c xs 2 S Q 0 H a n c xs w hl hl hI hI hx hx (by unfold bareC; rw [if_neg (by decide), if_pos rfl]) (by decide)
  by_cases k3 : K = 3 ∨ K = 4
  · rw [right3 k3, hln]
    exact msRight_own K S Q O H a n c xs K S 0 0 z16 none 0 0 [] w hl z16_len hI nilI hx nilB (by unfold bareC; rw [if_neg k1, if_neg k2, if_pos k3]) (decide_eq_true (.inr (.inr k3)))
  · have hB : bareB K = false := decide_eq_false (by omega)
    rw [right0 hB]
    exact msRight_no K S Q O H a n c w hl hB
end Go.Proofs.Ytgaelgpmmgjldaa

/-
  The document's own Right of a message. New memory alone is written. Conditions: the fields' ranges.
-/
namespace Go.Proofs.Ytgaelgpmmgjldaa
open Go.RowKit

theorem load_pif {P : Program} {w : World} {ops : Array Oper} {rest : List Oper} {o : Oper} {a : Act} {Q : Exit → Act → World → Prop} (hw : Region.wanted o (yielded ops a.tmps) = true) (ty : TypeId) (x : Operand) (ho : o.op = .load ty x)
    {g off : Nat} (hx : a.eval x = .pointer (some ⟨g, off, none⟩)) (cs : List Value) (hg : w.rangeAt g off cs) (hr : IsRow P ty cs.length)
    (h : wpList P ops Q rest (a.put o.dst (.agg cs.toArray)) w) : wpList P ops Q (o :: rest) a w := by
  obtain ⟨⟨d, hu, hd⟩, hi⟩ := hr
  refine wpList_step fun K hK => ?_
  rw [if_pos hw]
  exact wp_load_mid ty x ho g off hx cs d hg hu hd hi (hK _ _ h)
theorem built_h0 : Try.prog.built 25 [] = some ((z16.map (Value.int .u8)).toArray) := by kernel_rfl
theorem zeroH16 : Zero Try.prog 25 (z16.map (Value.int .u8)) := zeroHint9
theorem ref1 (S Q O : Int) (H xs : List Int) (n : Nat) (hn : xs.length = n) (ho : O ≤ 65535) : rightM ⟨1, S, Q, O, H, xs⟩ = (S == 0 && (Q == 0 && (H == z16 && n == 0))) := by
  subst hn
  rw [Bool.eq_iff_iff, rightM_iff]
  simp only [MsgRight, Bool.and_eq_true, beq_iff_eq]
  constructor
  · rintro (⟨_, h1, h2, h3, h4, h5⟩ | ⟨h, _⟩ | ⟨h, _⟩)
    · exact ⟨h1, h2, h4, by rw [h5]; rfl⟩
    · exact absurd h (by decide)
    · exact absurd h (by decide)
  · rintro ⟨h1, h2, h4, h5⟩
    exact .inl ⟨by trivial, h1, h2, ho, h4, List.length_eq_zero_iff.1 h5⟩
theorem ref2 (S Q O : Int) (H xs : List Int) (hn : xs.length ≤ 1000) : rightM ⟨2, S, Q, O, H, xs⟩ = (O == 0) := by
  rw [Bool.eq_iff_iff, rightM_iff]
  simp only [MsgRight, beq_iff_eq]
  constructor
  · rintro (⟨h, _⟩ | ⟨_, h1, h2⟩ | ⟨h, _⟩)
    · exact absurd h (by decide)
    · exact h1
    · exact absurd h (by decide)
  · intro h1
    exact .inr (.inl ⟨by trivial, h1, hn⟩)
theorem ref3 {K : Int} (hK : K = 3 ∨ K = 4) (S Q O : Int) (H xs : List Int) (n : Nat) (hn : xs.length = n) : rightM ⟨K, S, Q, O, H, xs⟩ = (Q == 0 && (O == 0 && (H == z16 && n == 0))) := by
  subst hn
  rw [Bool.eq_iff_iff, rightM_iff]
  simp only [MsgRight, Bool.and_eq_true, beq_iff_eq]
  constructor
  · rintro (⟨h, _⟩ | ⟨h, _⟩ | ⟨_, h1, h2, h3, h4⟩)
    · exact absurd h (by omega)
    · exact absurd h (by omega)
    · exact ⟨h1, h2, h3, by rw [h4]; rfl⟩
  · rintro ⟨h1, h2, h3, h4⟩
    exact .inr (.inr ⟨hK, h1, h2, h3, List.length_eq_zero_iff.1 h4⟩)
theorem ref_big {K S Q O : Int} {H xs : List Int} (h : 65535 < O ∨ 1000 < xs.length) : rightM ⟨K, S, Q, O, H, xs⟩ = false := by
  unfold rightM MsgRight
  refine decide_eq_false ?_
  dsimp only
  rintro (⟨_, _, _, h1, _, h2⟩ | ⟨_, h1, h2⟩ | ⟨_, _, h1, _, h2⟩)
  · rw [h2] at h; simp at h; omega
  · omega
  · rw [h2] at h; simp at h; omega

set_option maxRecDepth 100000 in
set_option maxHeartbeats 4000000 in
theorem r14Right_any (K S Q O : Int) (H : List Int) (a : Option Addr) (n c : Nat) (xs : List Int) (w : World) (hl : H.length = 16) (hln : xs.length = n) :
    Calls Try.prog 10 #[.agg (msC K S Q O H a n c).toArray] w fun q w' => q = .returned (.bool (rightM ⟨K, S, Q, O, H, xs⟩)) ∧ Below w.heap.size w w' := by
  obtain ⟨C, hC⟩ : ∃ C, msC K S Q O H a n c = C := ⟨_, rfl⟩
  have hCH := Lib.hid hC
  rw [hC]
  clear hC
  have hb := below1 w (.cells C.toArray 28)
  have hk : Blk (w.alloc (.cells C.toArray 28)) w.heap.size 28 C := Blk.new w _ C
  obtain ⟨W, hW⟩ : ∃ V, w.alloc (.cells C.toArray 28) = V := ⟨_, rfl⟩
  rw [hW] at hb hk
  obtain ⟨G, g9⟩ : ∃ G, w.heap.size = G := ⟨_, rfl⟩
  rw [g9] at hk
  have gH := Lib.hid g9
  have hk' := hk
  rw [← hCH.out] at hk'
  have c3 := ms3 hk'
  have c5 := ms5 hk' hl
  clear hk'
  by_cases hO : 65535 < O
  · rw [ref_big (.inl hO)]
    have hOd : decide ((65535 : Int) < O) = true := decide_eq_true hO
    go_enter Try.func10, Try.ntmps10
    go_wp2_with ((with_reducible refine box_row rfl 28 (.tmp 0) rfl C ?_ ?_); rfl; refine RowKit.Hid.out ?_)
    refine Lib.hid ?_
    clear hW
    go_wp2
    go_ret
    exact ⟨rfl, hb⟩
  have hOd : decide ((65535 : Int) < O) = false := decide_eq_false hO
  by_cases hnn : 1000 < n
  · rw [ref_big (.inr (by omega))]
    have hni : (1000 : Int) < (n : Int) := by omega
    have hnd : decide ((1000 : Int) < (n : Int)) = true := decide_eq_true hni
    clear hnn
    go_enter Try.func10, Try.ntmps10
    go_wp2_with ((with_reducible refine box_row rfl 28 (.tmp 0) rfl C ?_ ?_); rfl; refine RowKit.Hid.out ?_)
    refine Lib.hid ?_
    clear hW
    go_wp2
    go_ret
    exact ⟨rfl, hb⟩
  have hni : ¬ (1000 : Int) < (n : Int) := by omega
  have hnd : decide ((1000 : Int) < (n : Int)) = false := decide_eq_false hni
  have hn1 : xs.length ≤ 1000 := by omega
  have hnn : ((n : Int) == 0) = (n == 0) := by rw [Bool.eq_iff_iff]; simp
  have heq := fun w' => eq_hint H z16 hl rfl 9998 w'
  have hng := noGuardHint
  have hbt := built_h0
  obtain ⟨Z, hZ⟩ : ∃ Z, z16.map (Value.int .u8) = Z := ⟨_, rfl⟩
  have hZz : Zero Try.prog 25 Z := hZ ▸ zeroH16
  have hZl : Z.length = 16 := by rw [← hZ]; rfl
  have hZ1 : ∀ v ∈ Z, v.oneCell' = true := by rw [← hZ]; exact hint_one z16
  have hrZ16 : IsRow Try.prog 25 16 := rowHint9
  obtain ⟨X, hX⟩ : ∃ X, H.map (Value.int .u8) = X := ⟨_, rfl⟩
  have hXH := Lib.hid hX
  have hrX : IsRow Try.prog 25 X.length := by rw [← hX, List.length_map, hl]; exact rowHint9
  rw [hX, hZ] at heq
  rw [hZ] at hbt
  clear hX hZ
  by_cases k1 : K = 1
  · subst k1
    rw [ref1 S Q O H xs n hln (by omega)]
    obtain ⟨D, hD⟩ : ∃ D, (n == 0) = D := ⟨_, rfl⟩
    obtain ⟨T, hT⟩ : ∃ D, (H == z16) = D := ⟨_, rfl⟩
    rw [hD] at hnn
    rw [hT] at heq
    rw [hD, hT]
    clear hD hT hn1 hln
    by_cases s0 : S = 0
    · subst s0
      by_cases q0 : Q = 0
      · subst q0
        cases T with
        | true =>
          go_enter Try.func10, Try.ntmps10
          go_wp2_with ((with_reducible refine box_row rfl 28 (.tmp 0) rfl C ?_ ?_); rfl; refine RowKit.Hid.out ?_)
          refine Lib.hid ?_
          clear hW
          go_wp2_with ((with_reducible refine build_row rfl 25 #[] rfl (cells := Z.toArray) ?_ ?_); (refine Eq.trans (congrArg _ ?_) hbt; kernel_rfl); refine RowKit.Hid.out ?_)
          refine Lib.hid ?_
          refine wpList_alloc_blk rfl 25 rfl hZz ?_
          try simp only [Act.put, List.setIfInBounds_toArray, List.set_cons_zero, List.set_cons_succ]
          have hkA := hk.alloc (.cells Z.toArray 25)
          have hnA := Blk.new W 25 Z
          have hBA := hb.alloc hb.size (.cells Z.toArray 25)
          have hnG : G < W.heap.size := hk.lt
          obtain ⟨N, hN⟩ : ∃ N, W.heap.size = N := ⟨_, rfl⟩
          rw [hN] at hnA hnG ⊢
          obtain ⟨U, hU⟩ : ∃ V, W.alloc (.cells Z.toArray 25) = V := ⟨_, rfl⟩
          rw [hU] at hkA hnA hBA ⊢
          clear hk hb hN hU c3 c5
          refine store_row rfl 25 (.tmp 3) (.tmp 13) rfl rfl rfl hnA hrZ16 hZl hZl hZ1 ?_
          intro w2 hn2 hg2
          have hk2 := hkA.grown hg2 (fun e => by injection e with e; omega)
          have hS2 := hBA.grown hg2 hBA.size (fun q hq => by injection hq with hq; have := gH.out; omega)
          clear hkA hnA hBA hg2
          rw [← hCH.out] at hk2
          have c0 := ms0 hk2
          have c1 := ms1 hk2
          have c2 := ms2 hk2
          have c3 := ms3 hk2
          have c4 := ms4 hk2 hl
          have c5 := ms5 hk2 hl
          rw [hXH.out] at c4
          clear hk2
          go_wp2_with (first
            | ((with_reducible refine load_pif rfl 25 (.tmp 27) rfl ?_ X c4 hrX ?_); rfl)
            | ((with_reducible refine load_if rfl 25 (.tmp 3) rfl ?_ hn2 hrZ16 hZl ?_); rfl))
          go_ret
          exact ⟨by first | rfl | simp | (rw [hnn]; rfl), hS2⟩
        | false =>
          go_enter Try.func10, Try.ntmps10
          go_wp2_with ((with_reducible refine box_row rfl 28 (.tmp 0) rfl C ?_ ?_); rfl; refine RowKit.Hid.out ?_)
          refine Lib.hid ?_
          clear hW
          go_wp2_with ((with_reducible refine build_row rfl 25 #[] rfl (cells := Z.toArray) ?_ ?_); (refine Eq.trans (congrArg _ ?_) hbt; kernel_rfl); refine RowKit.Hid.out ?_)
          refine Lib.hid ?_
          refine wpList_alloc_blk rfl 25 rfl hZz ?_
          try simp only [Act.put, List.setIfInBounds_toArray, List.set_cons_zero, List.set_cons_succ]
          have hkA := hk.alloc (.cells Z.toArray 25)
          have hnA := Blk.new W 25 Z
          have hBA := hb.alloc hb.size (.cells Z.toArray 25)
          have hnG : G < W.heap.size := hk.lt
          obtain ⟨N, hN⟩ : ∃ N, W.heap.size = N := ⟨_, rfl⟩
          rw [hN] at hnA hnG ⊢
          obtain ⟨U, hU⟩ : ∃ V, W.alloc (.cells Z.toArray 25) = V := ⟨_, rfl⟩
          rw [hU] at hkA hnA hBA ⊢
          clear hk hb hN hU c3 c5
          refine store_row rfl 25 (.tmp 3) (.tmp 13) rfl rfl rfl hnA hrZ16 hZl hZl hZ1 ?_
          intro w2 hn2 hg2
          have hk2 := hkA.grown hg2 (fun e => by injection e with e; omega)
          have hS2 := hBA.grown hg2 hBA.size (fun q hq => by injection hq with hq; have := gH.out; omega)
          clear hkA hnA hBA hg2
          rw [← hCH.out] at hk2
          have c0 := ms0 hk2
          have c1 := ms1 hk2
          have c2 := ms2 hk2
          have c3 := ms3 hk2
          have c4 := ms4 hk2 hl
          have c5 := ms5 hk2 hl
          rw [hXH.out] at c4
          clear hk2
          go_wp2_with (first
            | ((with_reducible refine load_pif rfl 25 (.tmp 27) rfl ?_ X c4 hrX ?_); rfl)
            | ((with_reducible refine load_if rfl 25 (.tmp 3) rfl ?_ hn2 hrZ16 hZl ?_); rfl))
          go_ret
          exact ⟨by first | rfl | simp | (rw [hnn]; rfl), hS2⟩
      · have qb : (Q == 0) = false := beq_false_of_ne q0
        rw [qb]
        go_enter Try.func10, Try.ntmps10
        go_wp2_with ((with_reducible refine box_row rfl 28 (.tmp 0) rfl C ?_ ?_); rfl; refine RowKit.Hid.out ?_)
        refine Lib.hid ?_
        clear hW
        go_wp2_with ((with_reducible refine build_row rfl 25 #[] rfl (cells := Z.toArray) ?_ ?_); (refine Eq.trans (congrArg _ ?_) hbt; kernel_rfl); refine RowKit.Hid.out ?_)
        refine Lib.hid ?_
        refine wpList_alloc_blk rfl 25 rfl hZz ?_
        try simp only [Act.put, List.setIfInBounds_toArray, List.set_cons_zero, List.set_cons_succ]
        have hkA := hk.alloc (.cells Z.toArray 25)
        have hnA := Blk.new W 25 Z
        have hBA := hb.alloc hb.size (.cells Z.toArray 25)
        have hnG : G < W.heap.size := hk.lt
        obtain ⟨N, hN⟩ : ∃ N, W.heap.size = N := ⟨_, rfl⟩
        rw [hN] at hnA hnG ⊢
        obtain ⟨U, hU⟩ : ∃ V, W.alloc (.cells Z.toArray 25) = V := ⟨_, rfl⟩
        rw [hU] at hkA hnA hBA ⊢
        clear hk hb hN hU c3 c5
        refine store_row rfl 25 (.tmp 3) (.tmp 13) rfl rfl rfl hnA hrZ16 hZl hZl hZ1 ?_
        intro w2 hn2 hg2
        have hk2 := hkA.grown hg2 (fun e => by injection e with e; omega)
        have hS2 := hBA.grown hg2 hBA.size (fun q hq => by injection hq with hq; have := gH.out; omega)
        clear hkA hnA hBA hg2
        rw [← hCH.out] at hk2
        have c0 := ms0 hk2
        have c1 := ms1 hk2
        have c2 := ms2 hk2
        have c3 := ms3 hk2
        have c4 := ms4 hk2 hl
        have c5 := ms5 hk2 hl
        rw [hXH.out] at c4
        clear hk2
        go_wp2_with (first
          | ((with_reducible refine load_pif rfl 25 (.tmp 27) rfl ?_ X c4 hrX ?_); rfl)
          | ((with_reducible refine load_if rfl 25 (.tmp 3) rfl ?_ hn2 hrZ16 hZl ?_); rfl))
        go_ret
        exact ⟨by first | rfl | simp | (rw [hnn]; rfl), hS2⟩
    · have sb : (S == 0) = false := beq_false_of_ne s0
      rw [sb]
      go_enter Try.func10, Try.ntmps10
      go_wp2_with ((with_reducible refine box_row rfl 28 (.tmp 0) rfl C ?_ ?_); rfl; refine RowKit.Hid.out ?_)
      refine Lib.hid ?_
      clear hW
      go_wp2_with ((with_reducible refine build_row rfl 25 #[] rfl (cells := Z.toArray) ?_ ?_); (refine Eq.trans (congrArg _ ?_) hbt; kernel_rfl); refine RowKit.Hid.out ?_)
      refine Lib.hid ?_
      refine wpList_alloc_blk rfl 25 rfl hZz ?_
      try simp only [Act.put, List.setIfInBounds_toArray, List.set_cons_zero, List.set_cons_succ]
      have hkA := hk.alloc (.cells Z.toArray 25)
      have hnA := Blk.new W 25 Z
      have hBA := hb.alloc hb.size (.cells Z.toArray 25)
      have hnG : G < W.heap.size := hk.lt
      obtain ⟨N, hN⟩ : ∃ N, W.heap.size = N := ⟨_, rfl⟩
      rw [hN] at hnA hnG ⊢
      obtain ⟨U, hU⟩ : ∃ V, W.alloc (.cells Z.toArray 25) = V := ⟨_, rfl⟩
      rw [hU] at hkA hnA hBA ⊢
      clear hk hb hN hU c3 c5
      refine store_row rfl 25 (.tmp 3) (.tmp 13) rfl rfl rfl hnA hrZ16 hZl hZl hZ1 ?_
      intro w2 hn2 hg2
      have hk2 := hkA.grown hg2 (fun e => by injection e with e; omega)
      have hS2 := hBA.grown hg2 hBA.size (fun q hq => by injection hq with hq; have := gH.out; omega)
      clear hkA hnA hBA hg2
      rw [← hCH.out] at hk2
      have c0 := ms0 hk2
      have c1 := ms1 hk2
      have c2 := ms2 hk2
      have c3 := ms3 hk2
      have c4 := ms4 hk2 hl
      have c5 := ms5 hk2 hl
      rw [hXH.out] at c4
      clear hk2
      go_wp2_with (first
        | ((with_reducible refine load_pif rfl 25 (.tmp 27) rfl ?_ X c4 hrX ?_); rfl)
        | ((with_reducible refine load_if rfl 25 (.tmp 3) rfl ?_ hn2 hrZ16 hZl ?_); rfl))
      go_ret
      exact ⟨by first | rfl | simp | (rw [hnn]; rfl), hS2⟩
  have n1 : (K == 1) = false := beq_false_of_ne k1
  by_cases k2 : K = 2
  · subst k2
    rw [ref2 S Q O H xs hn1]
    clear k1 n1 hnn heq
    go_enter Try.func10, Try.ntmps10
    go_wp2_with ((with_reducible refine box_row rfl 28 (.tmp 0) rfl C ?_ ?_); rfl; refine RowKit.Hid.out ?_)
    refine Lib.hid ?_
    clear hW
    go_wp2_with ((with_reducible refine build_row rfl 25 #[] rfl (cells := Z.toArray) ?_ ?_); (refine Eq.trans (congrArg _ ?_) hbt; kernel_rfl); refine RowKit.Hid.out ?_)
    refine Lib.hid ?_
    refine wpList_alloc_blk rfl 25 rfl hZz ?_
    try simp only [Act.put, List.setIfInBounds_toArray, List.set_cons_zero, List.set_cons_succ]
    have hkA := hk.alloc (.cells Z.toArray 25)
    have hnA := Blk.new W 25 Z
    have hBA := hb.alloc hb.size (.cells Z.toArray 25)
    have hnG : G < W.heap.size := hk.lt
    obtain ⟨N, hN⟩ : ∃ N, W.heap.size = N := ⟨_, rfl⟩
    rw [hN] at hnA hnG ⊢
    obtain ⟨U, hU⟩ : ∃ V, W.alloc (.cells Z.toArray 25) = V := ⟨_, rfl⟩
    rw [hU] at hkA hnA hBA ⊢
    clear hk hb hN hU c3 c5
    refine store_row rfl 25 (.tmp 3) (.tmp 13) rfl rfl rfl hnA hrZ16 hZl hZl hZ1 ?_
    intro w2 hn2 hg2
    have hk2 := hkA.grown hg2 (fun e => by injection e with e; omega)
    have hS2 := hBA.grown hg2 hBA.size (fun q hq => by injection hq with hq; have := gH.out; omega)
    clear hkA hnA hBA hg2
    rw [← hCH.out] at hk2
    have c0 := ms0 hk2
    have c1 := ms1 hk2
    have c2 := ms2 hk2
    have c3 := ms3 hk2
    have c4 := ms4 hk2 hl
    have c5 := ms5 hk2 hl
    rw [hXH.out] at c4
    clear hk2
    go_wp2
    go_ret
    exact ⟨by first | rfl | simp, hS2⟩
  have n2 : (K == 2) = false := beq_false_of_ne k2
  by_cases k3 : K = 3 ∨ K = 4
  · rw [ref3 k3 S Q O H xs n hln]
    obtain ⟨D, hD⟩ : ∃ D, (n == 0) = D := ⟨_, rfl⟩
    obtain ⟨T, hT⟩ : ∃ D, (H == z16) = D := ⟨_, rfl⟩
    rw [hD] at hnn
    rw [hT] at heq
    rw [hD, hT]
    clear hD hT hn1 hln
    rcases k3 with rfl | rfl
    · clear k1 n1 k2 n2
      by_cases q0 : Q = 0
      · subst q0
        by_cases o0 : O = 0
        · subst o0
          cases T with
          | true =>
            go_enter Try.func10, Try.ntmps10
            go_wp2_with ((with_reducible refine box_row rfl 28 (.tmp 0) rfl C ?_ ?_); rfl; refine RowKit.Hid.out ?_)
            refine Lib.hid ?_
            clear hW
            go_wp2_with ((with_reducible refine build_row rfl 25 #[] rfl (cells := Z.toArray) ?_ ?_); (refine Eq.trans (congrArg _ ?_) hbt; kernel_rfl); refine RowKit.Hid.out ?_)
            refine Lib.hid ?_
            refine wpList_alloc_blk rfl 25 rfl hZz ?_
            try simp only [Act.put, List.setIfInBounds_toArray, List.set_cons_zero, List.set_cons_succ]
            have hkA := hk.alloc (.cells Z.toArray 25)
            have hnA := Blk.new W 25 Z
            have hBA := hb.alloc hb.size (.cells Z.toArray 25)
            have hnG : G < W.heap.size := hk.lt
            obtain ⟨N, hN⟩ : ∃ N, W.heap.size = N := ⟨_, rfl⟩
            rw [hN] at hnA hnG ⊢
            obtain ⟨U, hU⟩ : ∃ V, W.alloc (.cells Z.toArray 25) = V := ⟨_, rfl⟩
            rw [hU] at hkA hnA hBA ⊢
            clear hk hb hN hU c3 c5
            refine store_row rfl 25 (.tmp 3) (.tmp 13) rfl rfl rfl hnA hrZ16 hZl hZl hZ1 ?_
            intro w2 hn2 hg2
            have hk2 := hkA.grown hg2 (fun e => by injection e with e; omega)
            have hS2 := hBA.grown hg2 hBA.size (fun q hq => by injection hq with hq; have := gH.out; omega)
            clear hkA hnA hBA hg2
            rw [← hCH.out] at hk2
            have c0 := ms0 hk2
            have c1 := ms1 hk2
            have c2 := ms2 hk2
            have c3 := ms3 hk2
            have c4 := ms4 hk2 hl
            have c5 := ms5 hk2 hl
            rw [hXH.out] at c4
            clear hk2
            go_wp2_with (first
              | ((with_reducible refine load_pif rfl 25 (.tmp 55) rfl ?_ X c4 hrX ?_); rfl)
              | ((with_reducible refine load_if rfl 25 (.tmp 3) rfl ?_ hn2 hrZ16 hZl ?_); rfl))
            go_ret
            exact ⟨by first | rfl | simp | (rw [hnn]; rfl), hS2⟩
          | false =>
            go_enter Try.func10, Try.ntmps10
            go_wp2_with ((with_reducible refine box_row rfl 28 (.tmp 0) rfl C ?_ ?_); rfl; refine RowKit.Hid.out ?_)
            refine Lib.hid ?_
            clear hW
            go_wp2_with ((with_reducible refine build_row rfl 25 #[] rfl (cells := Z.toArray) ?_ ?_); (refine Eq.trans (congrArg _ ?_) hbt; kernel_rfl); refine RowKit.Hid.out ?_)
            refine Lib.hid ?_
            refine wpList_alloc_blk rfl 25 rfl hZz ?_
            try simp only [Act.put, List.setIfInBounds_toArray, List.set_cons_zero, List.set_cons_succ]
            have hkA := hk.alloc (.cells Z.toArray 25)
            have hnA := Blk.new W 25 Z
            have hBA := hb.alloc hb.size (.cells Z.toArray 25)
            have hnG : G < W.heap.size := hk.lt
            obtain ⟨N, hN⟩ : ∃ N, W.heap.size = N := ⟨_, rfl⟩
            rw [hN] at hnA hnG ⊢
            obtain ⟨U, hU⟩ : ∃ V, W.alloc (.cells Z.toArray 25) = V := ⟨_, rfl⟩
            rw [hU] at hkA hnA hBA ⊢
            clear hk hb hN hU c3 c5
            refine store_row rfl 25 (.tmp 3) (.tmp 13) rfl rfl rfl hnA hrZ16 hZl hZl hZ1 ?_
            intro w2 hn2 hg2
            have hk2 := hkA.grown hg2 (fun e => by injection e with e; omega)
            have hS2 := hBA.grown hg2 hBA.size (fun q hq => by injection hq with hq; have := gH.out; omega)
            clear hkA hnA hBA hg2
            rw [← hCH.out] at hk2
            have c0 := ms0 hk2
            have c1 := ms1 hk2
            have c2 := ms2 hk2
            have c3 := ms3 hk2
            have c4 := ms4 hk2 hl
            have c5 := ms5 hk2 hl
            rw [hXH.out] at c4
            clear hk2
            go_wp2_with (first
              | ((with_reducible refine load_pif rfl 25 (.tmp 55) rfl ?_ X c4 hrX ?_); rfl)
              | ((with_reducible refine load_if rfl 25 (.tmp 3) rfl ?_ hn2 hrZ16 hZl ?_); rfl))
            go_ret
            exact ⟨by first | rfl | simp | (rw [hnn]; rfl), hS2⟩
        · have ob : (O == 0) = false := beq_false_of_ne o0
          rw [ob]
          go_enter Try.func10, Try.ntmps10
          go_wp2_with ((with_reducible refine box_row rfl 28 (.tmp 0) rfl C ?_ ?_); rfl; refine RowKit.Hid.out ?_)
          refine Lib.hid ?_
          clear hW
          go_wp2_with ((with_reducible refine build_row rfl 25 #[] rfl (cells := Z.toArray) ?_ ?_); (refine Eq.trans (congrArg _ ?_) hbt; kernel_rfl); refine RowKit.Hid.out ?_)
          refine Lib.hid ?_
          refine wpList_alloc_blk rfl 25 rfl hZz ?_
          try simp only [Act.put, List.setIfInBounds_toArray, List.set_cons_zero, List.set_cons_succ]
          have hkA := hk.alloc (.cells Z.toArray 25)
          have hnA := Blk.new W 25 Z
          have hBA := hb.alloc hb.size (.cells Z.toArray 25)
          have hnG : G < W.heap.size := hk.lt
          obtain ⟨N, hN⟩ : ∃ N, W.heap.size = N := ⟨_, rfl⟩
          rw [hN] at hnA hnG ⊢
          obtain ⟨U, hU⟩ : ∃ V, W.alloc (.cells Z.toArray 25) = V := ⟨_, rfl⟩
          rw [hU] at hkA hnA hBA ⊢
          clear hk hb hN hU c3 c5
          refine store_row rfl 25 (.tmp 3) (.tmp 13) rfl rfl rfl hnA hrZ16 hZl hZl hZ1 ?_
          intro w2 hn2 hg2
          have hk2 := hkA.grown hg2 (fun e => by injection e with e; omega)
          have hS2 := hBA.grown hg2 hBA.size (fun q hq => by injection hq with hq; have := gH.out; omega)
          clear hkA hnA hBA hg2
          rw [← hCH.out] at hk2
          have c0 := ms0 hk2
          have c1 := ms1 hk2
          have c2 := ms2 hk2
          have c3 := ms3 hk2
          have c4 := ms4 hk2 hl
          have c5 := ms5 hk2 hl
          rw [hXH.out] at c4
          clear hk2
          go_wp2_with (first
            | ((with_reducible refine load_pif rfl 25 (.tmp 55) rfl ?_ X c4 hrX ?_); rfl)
            | ((with_reducible refine load_if rfl 25 (.tmp 3) rfl ?_ hn2 hrZ16 hZl ?_); rfl))
          go_ret
          exact ⟨by first | rfl | simp | (rw [hnn]; rfl), hS2⟩
      · have qb : (Q == 0) = false := beq_false_of_ne q0
        rw [qb]
        go_enter Try.func10, Try.ntmps10
        go_wp2_with ((with_reducible refine box_row rfl 28 (.tmp 0) rfl C ?_ ?_); rfl; refine RowKit.Hid.out ?_)
        refine Lib.hid ?_
        clear hW
        go_wp2_with ((with_reducible refine build_row rfl 25 #[] rfl (cells := Z.toArray) ?_ ?_); (refine Eq.trans (congrArg _ ?_) hbt; kernel_rfl); refine RowKit.Hid.out ?_)
        refine Lib.hid ?_
        refine wpList_alloc_blk rfl 25 rfl hZz ?_
        try simp only [Act.put, List.setIfInBounds_toArray, List.set_cons_zero, List.set_cons_succ]
        have hkA := hk.alloc (.cells Z.toArray 25)
        have hnA := Blk.new W 25 Z
        have hBA := hb.alloc hb.size (.cells Z.toArray 25)
        have hnG : G < W.heap.size := hk.lt
        obtain ⟨N, hN⟩ : ∃ N, W.heap.size = N := ⟨_, rfl⟩
        rw [hN] at hnA hnG ⊢
        obtain ⟨U, hU⟩ : ∃ V, W.alloc (.cells Z.toArray 25) = V := ⟨_, rfl⟩
        rw [hU] at hkA hnA hBA ⊢
        clear hk hb hN hU c3 c5
        refine store_row rfl 25 (.tmp 3) (.tmp 13) rfl rfl rfl hnA hrZ16 hZl hZl hZ1 ?_
        intro w2 hn2 hg2
        have hk2 := hkA.grown hg2 (fun e => by injection e with e; omega)
        have hS2 := hBA.grown hg2 hBA.size (fun q hq => by injection hq with hq; have := gH.out; omega)
        clear hkA hnA hBA hg2
        rw [← hCH.out] at hk2
        have c0 := ms0 hk2
        have c1 := ms1 hk2
        have c2 := ms2 hk2
        have c3 := ms3 hk2
        have c4 := ms4 hk2 hl
        have c5 := ms5 hk2 hl
        rw [hXH.out] at c4
        clear hk2
        go_wp2_with (first
          | ((with_reducible refine load_pif rfl 25 (.tmp 55) rfl ?_ X c4 hrX ?_); rfl)
          | ((with_reducible refine load_if rfl 25 (.tmp 3) rfl ?_ hn2 hrZ16 hZl ?_); rfl))
        go_ret
        exact ⟨by first | rfl | simp | (rw [hnn]; rfl), hS2⟩
    · clear k1 n1 k2 n2
      by_cases q0 : Q = 0
      · subst q0
        by_cases o0 : O = 0
        · subst o0
          cases T with
          | true =>
            go_enter Try.func10, Try.ntmps10
            go_wp2_with ((with_reducible refine box_row rfl 28 (.tmp 0) rfl C ?_ ?_); rfl; refine RowKit.Hid.out ?_)
            refine Lib.hid ?_
            clear hW
            go_wp2_with ((with_reducible refine build_row rfl 25 #[] rfl (cells := Z.toArray) ?_ ?_); (refine Eq.trans (congrArg _ ?_) hbt; kernel_rfl); refine RowKit.Hid.out ?_)
            refine Lib.hid ?_
            refine wpList_alloc_blk rfl 25 rfl hZz ?_
            try simp only [Act.put, List.setIfInBounds_toArray, List.set_cons_zero, List.set_cons_succ]
            have hkA := hk.alloc (.cells Z.toArray 25)
            have hnA := Blk.new W 25 Z
            have hBA := hb.alloc hb.size (.cells Z.toArray 25)
            have hnG : G < W.heap.size := hk.lt
            obtain ⟨N, hN⟩ : ∃ N, W.heap.size = N := ⟨_, rfl⟩
            rw [hN] at hnA hnG ⊢
            obtain ⟨U, hU⟩ : ∃ V, W.alloc (.cells Z.toArray 25) = V := ⟨_, rfl⟩
            rw [hU] at hkA hnA hBA ⊢
            clear hk hb hN hU c3 c5
            refine store_row rfl 25 (.tmp 3) (.tmp 13) rfl rfl rfl hnA hrZ16 hZl hZl hZ1 ?_
            intro w2 hn2 hg2
            have hk2 := hkA.grown hg2 (fun e => by injection e with e; omega)
            have hS2 := hBA.grown hg2 hBA.size (fun q hq => by injection hq with hq; have := gH.out; omega)
            clear hkA hnA hBA hg2
            rw [← hCH.out] at hk2
            have c0 := ms0 hk2
            have c1 := ms1 hk2
            have c2 := ms2 hk2
            have c3 := ms3 hk2
            have c4 := ms4 hk2 hl
            have c5 := ms5 hk2 hl
            rw [hXH.out] at c4
            clear hk2
            go_wp2_with (first
              | ((with_reducible refine load_pif rfl 25 (.tmp 55) rfl ?_ X c4 hrX ?_); rfl)
              | ((with_reducible refine load_if rfl 25 (.tmp 3) rfl ?_ hn2 hrZ16 hZl ?_); rfl))
            go_ret
            exact ⟨by first | rfl | simp | (rw [hnn]; rfl), hS2⟩
          | false =>
            go_enter Try.func10, Try.ntmps10
            go_wp2_with ((with_reducible refine box_row rfl 28 (.tmp 0) rfl C ?_ ?_); rfl; refine RowKit.Hid.out ?_)
            refine Lib.hid ?_
            clear hW
            go_wp2_with ((with_reducible refine build_row rfl 25 #[] rfl (cells := Z.toArray) ?_ ?_); (refine Eq.trans (congrArg _ ?_) hbt; kernel_rfl); refine RowKit.Hid.out ?_)
            refine Lib.hid ?_
            refine wpList_alloc_blk rfl 25 rfl hZz ?_
            try simp only [Act.put, List.setIfInBounds_toArray, List.set_cons_zero, List.set_cons_succ]
            have hkA := hk.alloc (.cells Z.toArray 25)
            have hnA := Blk.new W 25 Z
            have hBA := hb.alloc hb.size (.cells Z.toArray 25)
            have hnG : G < W.heap.size := hk.lt
            obtain ⟨N, hN⟩ : ∃ N, W.heap.size = N := ⟨_, rfl⟩
            rw [hN] at hnA hnG ⊢
            obtain ⟨U, hU⟩ : ∃ V, W.alloc (.cells Z.toArray 25) = V := ⟨_, rfl⟩
            rw [hU] at hkA hnA hBA ⊢
            clear hk hb hN hU c3 c5
            refine store_row rfl 25 (.tmp 3) (.tmp 13) rfl rfl rfl hnA hrZ16 hZl hZl hZ1 ?_
            intro w2 hn2 hg2
            have hk2 := hkA.grown hg2 (fun e => by injection e with e; omega)
            have hS2 := hBA.grown hg2 hBA.size (fun q hq => by injection hq with hq; have := gH.out; omega)
            clear hkA hnA hBA hg2
            rw [← hCH.out] at hk2
            have c0 := ms0 hk2
            have c1 := ms1 hk2
            have c2 := ms2 hk2
            have c3 := ms3 hk2
            have c4 := ms4 hk2 hl
            have c5 := ms5 hk2 hl
            rw [hXH.out] at c4
            clear hk2
            go_wp2_with (first
              | ((with_reducible refine load_pif rfl 25 (.tmp 55) rfl ?_ X c4 hrX ?_); rfl)
              | ((with_reducible refine load_if rfl 25 (.tmp 3) rfl ?_ hn2 hrZ16 hZl ?_); rfl))
            go_ret
            exact ⟨by first | rfl | simp | (rw [hnn]; rfl), hS2⟩
        · have ob : (O == 0) = false := beq_false_of_ne o0
          rw [ob]
          go_enter Try.func10, Try.ntmps10
          go_wp2_with ((with_reducible refine box_row rfl 28 (.tmp 0) rfl C ?_ ?_); rfl; refine RowKit.Hid.out ?_)
          refine Lib.hid ?_
          clear hW
          go_wp2_with ((with_reducible refine build_row rfl 25 #[] rfl (cells := Z.toArray) ?_ ?_); (refine Eq.trans (congrArg _ ?_) hbt; kernel_rfl); refine RowKit.Hid.out ?_)
          refine Lib.hid ?_
          refine wpList_alloc_blk rfl 25 rfl hZz ?_
          try simp only [Act.put, List.setIfInBounds_toArray, List.set_cons_zero, List.set_cons_succ]
          have hkA := hk.alloc (.cells Z.toArray 25)
          have hnA := Blk.new W 25 Z
          have hBA := hb.alloc hb.size (.cells Z.toArray 25)
          have hnG : G < W.heap.size := hk.lt
          obtain ⟨N, hN⟩ : ∃ N, W.heap.size = N := ⟨_, rfl⟩
          rw [hN] at hnA hnG ⊢
          obtain ⟨U, hU⟩ : ∃ V, W.alloc (.cells Z.toArray 25) = V := ⟨_, rfl⟩
          rw [hU] at hkA hnA hBA ⊢
          clear hk hb hN hU c3 c5
          refine store_row rfl 25 (.tmp 3) (.tmp 13) rfl rfl rfl hnA hrZ16 hZl hZl hZ1 ?_
          intro w2 hn2 hg2
          have hk2 := hkA.grown hg2 (fun e => by injection e with e; omega)
          have hS2 := hBA.grown hg2 hBA.size (fun q hq => by injection hq with hq; have := gH.out; omega)
          clear hkA hnA hBA hg2
          rw [← hCH.out] at hk2
          have c0 := ms0 hk2
          have c1 := ms1 hk2
          have c2 := ms2 hk2
          have c3 := ms3 hk2
          have c4 := ms4 hk2 hl
          have c5 := ms5 hk2 hl
          rw [hXH.out] at c4
          clear hk2
          go_wp2_with (first
            | ((with_reducible refine load_pif rfl 25 (.tmp 55) rfl ?_ X c4 hrX ?_); rfl)
            | ((with_reducible refine load_if rfl 25 (.tmp 3) rfl ?_ hn2 hrZ16 hZl ?_); rfl))
          go_ret
          exact ⟨by first | rfl | simp | (rw [hnn]; rfl), hS2⟩
      · have qb : (Q == 0) = false := beq_false_of_ne q0
        rw [qb]
        go_enter Try.func10, Try.ntmps10
        go_wp2_with ((with_reducible refine box_row rfl 28 (.tmp 0) rfl C ?_ ?_); rfl; refine RowKit.Hid.out ?_)
        refine Lib.hid ?_
        clear hW
        go_wp2_with ((with_reducible refine build_row rfl 25 #[] rfl (cells := Z.toArray) ?_ ?_); (refine Eq.trans (congrArg _ ?_) hbt; kernel_rfl); refine RowKit.Hid.out ?_)
        refine Lib.hid ?_
        refine wpList_alloc_blk rfl 25 rfl hZz ?_
        try simp only [Act.put, List.setIfInBounds_toArray, List.set_cons_zero, List.set_cons_succ]
        have hkA := hk.alloc (.cells Z.toArray 25)
        have hnA := Blk.new W 25 Z
        have hBA := hb.alloc hb.size (.cells Z.toArray 25)
        have hnG : G < W.heap.size := hk.lt
        obtain ⟨N, hN⟩ : ∃ N, W.heap.size = N := ⟨_, rfl⟩
        rw [hN] at hnA hnG ⊢
        obtain ⟨U, hU⟩ : ∃ V, W.alloc (.cells Z.toArray 25) = V := ⟨_, rfl⟩
        rw [hU] at hkA hnA hBA ⊢
        clear hk hb hN hU c3 c5
        refine store_row rfl 25 (.tmp 3) (.tmp 13) rfl rfl rfl hnA hrZ16 hZl hZl hZ1 ?_
        intro w2 hn2 hg2
        have hk2 := hkA.grown hg2 (fun e => by injection e with e; omega)
        have hS2 := hBA.grown hg2 hBA.size (fun q hq => by injection hq with hq; have := gH.out; omega)
        clear hkA hnA hBA hg2
        rw [← hCH.out] at hk2
        have c0 := ms0 hk2
        have c1 := ms1 hk2
        have c2 := ms2 hk2
        have c3 := ms3 hk2
        have c4 := ms4 hk2 hl
        have c5 := ms5 hk2 hl
        rw [hXH.out] at c4
        clear hk2
        go_wp2_with (first
          | ((with_reducible refine load_pif rfl 25 (.tmp 55) rfl ?_ X c4 hrX ?_); rfl)
          | ((with_reducible refine load_if rfl 25 (.tmp 3) rfl ?_ hn2 hrZ16 hZl ?_); rfl))
        go_ret
        exact ⟨by first | rfl | simp | (rw [hnn]; rfl), hS2⟩
  · have n3 : (K == 3) = false := beq_false_of_ne (fun e => k3 (.inl e))
    have n4 : (K == 4) = false := beq_false_of_ne (fun e => k3 (.inr e))
    rw [right0 (decide_eq_false (by omega))]
    clear hnn heq k1 k2 k3
    go_enter Try.func10, Try.ntmps10
    go_wp2_with ((with_reducible refine box_row rfl 28 (.tmp 0) rfl C ?_ ?_); rfl; refine RowKit.Hid.out ?_)
    refine Lib.hid ?_
    clear hW
    go_wp2_with ((with_reducible refine build_row rfl 25 #[] rfl (cells := Z.toArray) ?_ ?_); (refine Eq.trans (congrArg _ ?_) hbt; kernel_rfl); refine RowKit.Hid.out ?_)
    refine Lib.hid ?_
    refine wpList_alloc_blk rfl 25 rfl hZz ?_
    try simp only [Act.put, List.setIfInBounds_toArray, List.set_cons_zero, List.set_cons_succ]
    have hkA := hk.alloc (.cells Z.toArray 25)
    have hnA := Blk.new W 25 Z
    have hBA := hb.alloc hb.size (.cells Z.toArray 25)
    have hnG : G < W.heap.size := hk.lt
    obtain ⟨N, hN⟩ : ∃ N, W.heap.size = N := ⟨_, rfl⟩
    rw [hN] at hnA hnG ⊢
    obtain ⟨U, hU⟩ : ∃ V, W.alloc (.cells Z.toArray 25) = V := ⟨_, rfl⟩
    rw [hU] at hkA hnA hBA ⊢
    clear hk hb hN hU c3 c5
    refine store_row rfl 25 (.tmp 3) (.tmp 13) rfl rfl rfl hnA hrZ16 hZl hZl hZ1 ?_
    intro w2 hn2 hg2
    have hk2 := hkA.grown hg2 (fun e => by injection e with e; omega)
    have hS2 := hBA.grown hg2 hBA.size (fun q hq => by injection hq with hq; have := gH.out; omega)
    clear hkA hnA hBA hg2
    rw [← hCH.out] at hk2
    have c0 := ms0 hk2
    have c1 := ms1 hk2
    have c2 := ms2 hk2
    have c3 := ms3 hk2
    have c4 := ms4 hk2 hl
    have c5 := ms5 hk2 hl
    rw [hXH.out] at c4
    clear hk2
    go_wp2
    go_ret
    exact ⟨by first | rfl | simp, hS2⟩
end Go.Proofs.Ytgaelgpmmgjldaa

/-
  The document's own Same of two messages. New memory alone is written. Conditions: a hint has 16 bytes, bytes are below 256.
-/
namespace Go.Proofs.Ytgaelgpmmgjldaa
open Go.RowKit

set_option maxRecDepth 100000 in
set_option maxHeartbeats 4000000 in
theorem r14Same_any (K S Q O : Int) (H : List Int) (a : Option Addr) (n c : Nat) (xs : List Int) (K' S' Q' O' : Int) (H' : List Int) (a' : Option Addr) (n' c' : Nat) (ys : List Int) (w : World) (hl : H.length = 16) (hl' : H'.length = 16) (hI : Ints .u8 w a n c xs) (hJ : Ints .u8 w a' n' c' ys) (hx : okB xs) (hy : okB ys) :
    Calls Try.prog 12 #[.agg (msC K S Q O H a n c).toArray, .agg (msC K' S' Q' O' H' a' n' c').toArray] w fun q w' => q = .returned (.bool (hsB K S Q O H K' S' Q' O' H' && (xs == ys))) ∧ Below w.heap.size w w' := by
  have heq := fun w' => eq_hint H H' hl hl' 9998 w'
  have hng := noGuardHint
  obtain ⟨C, hC⟩ : ∃ C, msC K S Q O H a n c = C := ⟨_, rfl⟩
  obtain ⟨D, hD⟩ : ∃ C, msC K' S' Q' O' H' a' n' c' = C := ⟨_, rfl⟩
  rw [hC, hD]
  have hb := below2 w (.cells C.toArray 28) (.cells D.toArray 28)
  have hk : Blk ((w.alloc (.cells C.toArray 28)).alloc (.cells D.toArray 28)) w.heap.size 28 C := (Blk.new w _ C).alloc _
  have hk2 : Blk ((w.alloc (.cells C.toArray 28)).alloc (.cells D.toArray 28)) (w.heap.size + 1) 28 D := Blk.new1 w _ _ _
  obtain ⟨V, hV⟩ : ∃ V, (w.alloc (.cells C.toArray 28)).alloc (.cells D.toArray 28) = V := ⟨_, rfl⟩
  rw [hV] at hb hk hk2
  have v1 := (hI.keep hb).string (P := Try.prog) 26 9 5 Try.underlying26 Try.underlying5 Try.underlying9
  have v2 := (hJ.keep hb).string (P := Try.prog) 26 9 5 Try.underlying26 Try.underlying5 Try.underlying9
  have hst := str_eq hx hy
  rw [show decide (xs = ys) = (xs == ys) by rw [Bool.eq_iff_iff]; simp] at hst
  obtain ⟨SA, hSA⟩ : ∃ S, strOfNums xs = S := ⟨_, rfl⟩
  obtain ⟨SB, hSB⟩ : ∃ S, strOfNums ys = S := ⟨_, rfl⟩
  rw [hSA] at v1 hst
  rw [hSB] at v2 hst
  obtain ⟨E, hE⟩ : ∃ F, (xs == ys) = F := ⟨_, rfl⟩
  rw [hE] at hst ⊢
  have hbH := Lib.hid hb
  obtain ⟨G, g9⟩ : ∃ G, w.heap.size = G := ⟨_, rfl⟩
  rw [g9] at hk hk2
  rw [← hC] at hk
  rw [← hD] at hk2
  have c0 := ms0 hk
  have c1 := ms1 hk
  have c2 := ms2 hk
  have c3 := ms3 hk
  have c4 := ms4 hk hl
  have c5 := ms5 hk hl
  have d0 := ms0 hk2
  have d1 := ms1 hk2
  have d2 := ms2 hk2
  have d3 := ms3 hk2
  have d4 := ms4 hk2 hl'
  have d5 := ms5 hk2 hl'
  obtain ⟨X, hX⟩ : ∃ X, H.map (Value.int .u8) = X := ⟨_, rfl⟩
  have hrX : IsRow Try.prog 25 X.length := by rw [← hX, List.length_map, hl]; exact rowHint9
  obtain ⟨Y, hY⟩ : ∃ X, H'.map (Value.int .u8) = X := ⟨_, rfl⟩
  have hrY : IsRow Try.prog 25 Y.length := by rw [← hY, List.length_map, hl']; exact rowHint9
  rw [hX] at c4 heq
  rw [hY] at d4 heq
  unfold hsB
  obtain ⟨T, hT⟩ : ∃ T, (H == H') = T := ⟨_, rfl⟩
  rw [hT] at heq ⊢
  clear hC hD hk hk2 hb hI hJ hx hy hSA hSB hE hX hY hT
  by_cases kk : K = K'
  · subst kk
    by_cases ss : S = S'
    · subst ss
      by_cases qq : Q = Q'
      · subst qq
        by_cases oo : O = O'
        · subst oo
          cases T with
          | true =>
            go_enter Try.func12, Try.ntmps12
            go_wp2_with (first
              | ((with_reducible refine load_pif rfl 25 (.tmp 32) rfl ?_ X c4 hrX ?_); rfl)
              | ((with_reducible refine load_pif rfl 25 (.tmp 34) rfl ?_ Y d4 hrY ?_); rfl))
            go_ret
            exact ⟨by first | rfl | simp | (rw [hst]; rfl), hbH.out⟩
          | false =>
            go_enter Try.func12, Try.ntmps12
            go_wp2_with (first
              | ((with_reducible refine load_pif rfl 25 (.tmp 32) rfl ?_ X c4 hrX ?_); rfl)
              | ((with_reducible refine load_pif rfl 25 (.tmp 34) rfl ?_ Y d4 hrY ?_); rfl))
            go_ret
            exact ⟨by first | rfl | simp | (rw [hst]; rfl), hbH.out⟩
        · have hb4 : (O == O') = false := beq_false_of_ne oo
          rw [hb4]
          go_enter Try.func12, Try.ntmps12
          go_wp2_with (first
            | ((with_reducible refine load_pif rfl 25 (.tmp 32) rfl ?_ X c4 hrX ?_); rfl)
            | ((with_reducible refine load_pif rfl 25 (.tmp 34) rfl ?_ Y d4 hrY ?_); rfl))
          go_ret
          exact ⟨by first | rfl | simp | (rw [hst]; rfl), hbH.out⟩
      · have hb4 : (Q == Q') = false := beq_false_of_ne qq
        rw [hb4]
        go_enter Try.func12, Try.ntmps12
        go_wp2_with (first
          | ((with_reducible refine load_pif rfl 25 (.tmp 32) rfl ?_ X c4 hrX ?_); rfl)
          | ((with_reducible refine load_pif rfl 25 (.tmp 34) rfl ?_ Y d4 hrY ?_); rfl))
        go_ret
        exact ⟨by first | rfl | simp | (rw [hst]; rfl), hbH.out⟩
    · have hb4 : (S == S') = false := beq_false_of_ne ss
      rw [hb4]
      go_enter Try.func12, Try.ntmps12
      go_wp2_with (first
        | ((with_reducible refine load_pif rfl 25 (.tmp 32) rfl ?_ X c4 hrX ?_); rfl)
        | ((with_reducible refine load_pif rfl 25 (.tmp 34) rfl ?_ Y d4 hrY ?_); rfl))
      go_ret
      exact ⟨by first | rfl | simp | (rw [hst]; rfl), hbH.out⟩
  · have hb4 : (K == K') = false := beq_false_of_ne kk
    rw [hb4]
    go_enter Try.func12, Try.ntmps12
    go_wp2_with (first
      | ((with_reducible refine load_pif rfl 25 (.tmp 32) rfl ?_ X c4 hrX ?_); rfl)
      | ((with_reducible refine load_pif rfl 25 (.tmp 34) rfl ?_ Y d4 hrY ?_); rfl))
    go_ret
    exact ⟨by first | rfl | simp | (rw [hst]; rfl), hbH.out⟩
end Go.Proofs.Ytgaelgpmmgjldaa

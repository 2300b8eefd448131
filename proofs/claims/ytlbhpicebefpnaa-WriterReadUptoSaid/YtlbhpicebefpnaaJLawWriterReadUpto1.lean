/-
  Texts of stages that were proved on their own, joined: WrRead, WrLawR. Each begins with its own words.
-/
import Derived.Test.YtlbhpicebefpnaaWrWrites
import Derived.Test.YtlbhpicebefpnaaWrEnc
import Derived.Test.YtlbhpicebefpnaaRpIds
import Derived.Test.YtlbhpicebefpnaaRdSame
import Derived.Test.YtlbhpicebefpnaaJLawWriterReadUpto0

/-
  The law WriterRead, out of what the program's writer comes to ('WriterProg') and of the landed reader's contracts. New memory alone is written. Conditions: the calls and their bytes are no more than a hundred million.
-/
namespace Go.Proofs.Ytlbhpicebefpnaa
open Go.RowKit

/-- A load of a part of a block that stays what it is. -/
theorem yields_part {P : Program} {ops : Array Oper} {S : World → Prop} {o : Oper} {a : Act} (hw : Region.wanted o (yielded ops a.tmps) = true) (ty : TypeId) (x : Operand) (ho : o.op = .load ty x)
    {g off : Nat} (hx : a.eval x = .pointer (some ⟨g, off, none⟩)) {cs : List Value} (hS : ∀ w, S w → w.rangeAt g off cs) (hr : IsRow P ty cs.length) : YieldsIf P ops S o (.agg cs.toArray) a := by
  obtain ⟨⟨d, hu, hd⟩, hi⟩ := hr
  exact yieldsIf_load_mid hw ty x ho g off hx cs d hS hu hd hi

/-- A writer of room 100000 that was told to lay L. -/
def Lays (WP : WriterProg) (w0 : World) (g : Nat) (w : World) (L : List Int) : Prop :=
  (∃ F xs e, WP.Wr F w g 100000 xs e ∧ (∀ b, F b → w0.heap.size ≤ b) ∧ Laid 100000 xs e L) ∧ Below w0.heap.size w0 w
/-- The same, beside a block that holds a call. -/
def Runs (WP : WriterProg) (w0 : World) (g X : Nat) (C : List Value) (w : World) (L : List Int) : Prop :=
  (∃ F xs e, WP.Wr F w g 100000 xs e ∧ (∀ b, F b → w0.heap.size ≤ b) ∧ ¬ F X ∧ Laid 100000 xs e L) ∧ Blk w X 37 C ∧ Below w0.heap.size w0 w
theorem Runs.lays {WP : WriterProg} {w0 w : World} {g X : Nat} {C : List Value} {L : List Int} (h : Runs WP w0 g X C w L) : Lays WP w0 g w L := by
  obtain ⟨⟨F, xs, e, h1, h2, _, h3⟩, _, h4⟩ := h
  exact ⟨⟨F, xs, e, h1, h2, h3⟩, h4⟩
theorem Lays.run {WP : WriterProg} {w0 w w' : World} {g X : Nat} {C : List Value} {L : List Int} (h : Lays WP w0 g w L) (hb : Below w.heap.size w w') (hX : w.heap.size ≤ X) (hk : Blk w' X 37 C) : Runs WP w0 g X C w' L := by
  obtain ⟨⟨F, xs, e, h1, h2, h3⟩, h4⟩ := h
  exact ⟨⟨F, xs, e, WP.stay h1 hb, h2, fun hf => by have := WP.lt h1 _ hf; omega, h3⟩, hk, h4.trans (hb.mono h4.size)⟩

theorem run_num (WP : WriterProg) {w0 w : World} {g X : Nat} {C : List Value} {L : List Int} (hG : WP.Gl w0) (H : Runs WP w0 g X C w L) (N A : Int) (hf : fits N A) (h0 : 0 ≤ N) (h1 : N < 18446744073709551616) :
    Calls Try.prog 15 #[.pointer (some ⟨g, 0, none⟩), .int .u64 N, .int .i64 A] w fun q w' => q = .returned (.tuple #[]) ∧ Runs WP w0 g X C w' (L ++ beL N A.toNat) := by
  obtain ⟨⟨F, xs, e, hR, hF, nX, hL⟩, hk, hB⟩ := H
  have hl := hL.1
  have f1 := hf.1
  have f2 := hf.2.1
  refine (WP.num F g 100000 xs e N A w (WP.gl_keep hG (hB.mono (WP.gl_le hG))) hR (by omega) h0 h1 (by omega) (by omega)).mono ?_
  rintro q w' ⟨F', rfl, R', g', m'⟩
  exact ⟨rfl, ⟨F', _, _, R', g'.low hF hB.size, fun h => by
    rcases g' _ h with h | h
    · exact nX h
    · have := hk.lt; omega, hL.num hf⟩, (m'.2 X hk.lt nX).trans hk, hB.trans (m'.below hF hB.size)⟩
theorem run_bytes (WP : WriterProg) {w0 w : World} {g X : Nat} {C : List Value} {L : List Int} (hG : WP.Gl w0) (H : Runs WP w0 g X C w L) (b : Option Addr) (m d : Nat) (ys : List Int) (hI : Ints .u8 w0 b m d ys) (hr : ∀ y ∈ ys, 0 ≤ y ∧ y < 256) (hm : m ≤ 5000) :
    Calls Try.prog 17 #[.pointer (some ⟨g, 0, none⟩), .slice b m d] w fun q w' => q = .returned (.tuple #[]) ∧ Runs WP w0 g X C w' (L ++ ys) := by
  obtain ⟨⟨F, xs, e, hR, hF, nX, hL⟩, hk, hB⟩ := H
  have hl := hL.1
  have hin := hI.isIn.2
  refine (WP.bytes F g 100000 xs e b m d ys w (WP.gl_keep hG (hB.mono (WP.gl_le hG))) hR (hI.keep hB) hr (fun x hx h0 hf => by have := hin x hx h0; have := hF _ hf; omega) (by omega)).mono ?_
  rintro q w' ⟨F', rfl, R', g', m'⟩
  exact ⟨rfl, ⟨F', _, _, R', g'.low hF hB.size, fun h => by
    rcases g' _ h with h | h
    · exact nX h
    · have := hk.lt; omega, hL.step ys⟩, (m'.2 X hk.lt nX).trans hk, hB.trans (m'.below hF hB.size)⟩
theorem run_ids (WP : WriterProg) {w0 w : World} {g X : Nat} {C : List Value} {L : List Int} (hG : WP.Gl w0) (H : Runs WP w0 g X C w L) (b : Option Addr) (m d : Nat) (ys : List Int) (hI : IdsAt w0 b m d ys) (hr : ∀ y ∈ ys, 0 ≤ y ∧ y < 256) (hm : m ≤ 5000) :
    Calls Try.prog 18 #[.pointer (some ⟨g, 0, none⟩), .slice b m d] w fun q w' => q = .returned (.tuple #[]) ∧ Runs WP w0 g X C w' (L ++ ys) := by
  obtain ⟨⟨F, xs, e, hR, hF, nX, hL⟩, hk, hB⟩ := H
  have hl := hL.1
  have hin := ids_in hI
  refine (WP.ids F g 100000 xs e b m d ys w (WP.gl_keep hG (hB.mono (WP.gl_le hG))) hR (hI.keep hB) hr (fun x hx h0 hf => by have := hin x hx h0; have := hF _ hf; omega) (by omega)).mono ?_
  rintro q w' ⟨F', rfl, R', g', m'⟩
  exact ⟨rfl, ⟨F', _, _, R', g'.low hF hB.size, fun h => by
    rcases g' _ h with h | h
    · exact nX h
    · have := hk.lt; omega, hL.step ys⟩, (m'.2 X hk.lt nX).trans hk, hB.trans (m'.below hF hB.size)⟩
theorem run_id (WP : WriterProg) {w0 w : World} {g X : Nat} {C : List Value} {L : List Int} (hG : WP.Gl w0) (H : Runs WP w0 g X C w L) (ys : List Int) (hy : ys.length = 32) (hr : ∀ y ∈ ys, 0 ≤ y ∧ y < 256) :
    Calls Try.prog 16 #[.pointer (some ⟨g, 0, none⟩), .agg (ys.map (Value.int .u8)).toArray] w fun q w' => q = .returned (.tuple #[]) ∧ Runs WP w0 g X C w' (L ++ ys) := by
  obtain ⟨⟨F, xs, e, hR, hF, nX, hL⟩, hk, hB⟩ := H
  have hl := hL.1
  refine (WP.id F g 100000 xs e ys w (WP.gl_keep hG (hB.mono (WP.gl_le hG))) hR hy hr (by omega)).mono ?_
  rintro q w' ⟨F', rfl, R', g', m'⟩
  exact ⟨rfl, ⟨F', _, _, R', g'.low hF hB.size, fun h => by
    rcases g' _ h with h | h
    · exact nX h
    · have := hk.lt; omega, hL.step ys⟩, (m'.2 X hk.lt nX).trans hk, hB.trans (m'.below hF hB.size)⟩
/-- A call in memory, its id as a value. -/
theorem id_range {w : World} {X : Nat} {o : OpV} (h : o.id.length = 32) (hk : Blk w X 37 o.cells) : w.rangeAt X 4 (o.id.map (Value.int .u8)) :=
  hk.range 4 _ (fun j v hj => by
    rw [List.getElem?_map] at hj
    have hj' : j < 32 := by
      by_cases h' : j < 32
      · exact h'
      · rw [List.getElem?_eq_none (by rw [h]; omega)] at hj
        cases hj
    rw [OpV.at_id h j hj', List.getD_eq_getElem?_getD]
    rw [List.getElem?_eq_getElem (by rw [h]; exact hj')] at hj ⊢
    exact hj)

set_option maxRecDepth 100000 in
set_option maxHeartbeats 2000000 in
theorem read_any (WP : WriterProg) (a : Option Addr) (m k : Nat) (ops : List OpV) (w : World) (hG : WP.Gl w) (hO : OpsAt w a m k ops) (hm : m + wts ops ≤ 100000000) :
    Calls Try.prog 4 #[.slice a m k] w fun q w' => q = .returned (.bool true) ∧ Below w.heap.size w w' := by
  obtain ⟨ZL, hZZ, hZl⟩ := zeroOp
  go_enter Try.func4, Try.ntmps4
  go_wp2_with fail
  refine (small_any a m k ops w hO hm).mono ?_
  rintro q w1 ⟨rfl, b1⟩
  have G1 := WP.gl_keep hG (b1.mono (WP.gl_le hG))
  by_cases hS : (m : Int) + (wts ops : Int) ≤ 5000
  case neg =>
    rw [decide_eq_false hS]
    go_wp2_with fail
    refine (alive10_any WP _ G1).mono ?_
    rintro q w9 ⟨rfl, b9⟩
    go_wp2
    go_ret
    exact ⟨rfl, b1.trans (b9.mono b1.size)⟩
  rw [decide_eq_true hS]
  have hSH := Lib.hid hS
  have hmI : (m : Int) ≤ 5000 := by omega
  clear hS hm
  go_wp2_with fail
  refine (WP.new 100000 w1 G1 (by decide) (by decide)).mono ?_
  rintro q w2 ⟨g, F, rfl, R2, hF, b2⟩
  have hB2 := b1.trans (b2.mono b1.size)
  have hF2 : ∀ b, F b → w.heap.size ≤ b := fun b hb => Nat.le_trans b1.size (hF b hb)
  have L2 : Lays WP w g w2 (encOf (ops.take 0)) := ⟨⟨F, [], 0, R2, hF2, Nat.zero_le _, .inl ⟨rfl, rfl⟩⟩, hB2⟩
  clear b1 b2 G1 hF R2 hF2 hB2
  go_wp2_with fail
  go_loopw [18] (fun i wr => ∃ j : Nat, j ≤ m ∧ i = .int .i64 j ∧ Lays WP w g wr (encOf (ops.take j))) (fun i _ => m - (intOf i).toNat)
  case atStart => exact ⟨0, Nat.zero_le _, rfl, L2⟩
  case round =>
    clear L2
    obtain ⟨j, hj, rfl, hL⟩ := hrel
    by_cases hlt : j < m
    · have hji : (j : Int) < (m : Int) := by omega
      have hB := hL.2
      obtain ⟨ob, oo, o, rfl, ho, _, hkw⟩ := hO.get j hlt
      obtain ⟨ob', oo', o', ha', ho', hrg, hk⟩ := (hO.keep hB).get j hlt
      injection ha' with ha'
      injection ha' with e1 e2 _
      subst e1; subst e2
      obtain rfl : o = o' := by rw [ho] at ho'; injection ho'
      have henc := enc_take ops j o ho
      have hle := wt_le ho
      have hwt : o.wt = o.bn + 32 * o.ln := rfl
      have hbn : o.bn ≤ 5000 := by have := hSH.out; omega
      have hlnn : o.ln ≤ 156 := by have := hSH.out; omega
      have hol := OpV.len hk.il
      have hIr : IsRow Try.prog 37 o.cells.length := by rw [hol]; exact rowOp
      have hone := Lib.hid (o.one)
      have ir := fun w' h => id_range (w := w') (X := wr.heap.size) hk.il h
      obtain ⟨C, hC⟩ : ∃ C, o.cells = C := ⟨_, rfl⟩
      have h2 : C[2]? = some (.int .u64 o.N) := by rw [← hC]; exact o.at2
      have h3 : C[3]? = some (.slice o.ba o.bn o.bc) := by rw [← hC]; exact o.at3
      have h36 : C[36]? = some (.slice o.la o.ln o.lc) := by rw [← hC]; exact OpV.at36 hk.il
      rw [hC] at hrg hIr hol hone ir
      have hnew := Blk.new wr 37 ZL
      have b1 := below1 wr (.cells ZL.toArray 37)
      have hltH := Lib.hid hlt
      have hIid : IsRow Try.prog 34 (o.id.map (Value.int .u8)).length := by rw [List.length_map, hk.il]; exact rowId9
      have cid := fun w' L (h : Runs WP w g wr.heap.size C w' L) => run_id WP hG h o.id hk.il hk.ir
      obtain ⟨I, hIe⟩ : ∃ I, o.id.map (Value.int .u8) = I := ⟨_, rfl⟩
      rw [hIe] at ir hIid cid
      clear hle ho ho' hlt hj hIe hC
      go_wp2_with (first
        | ((with_reducible refine wpList_load_part rfl 37 (.tmp 20) rfl ?_ C hrg hIr ?_); rfl)
        | (with_reducible refine wpList_alloc_blk rfl 37 rfl hZZ ?_)
        | (refine wpList_store_part (cs := C) rfl 37 (.tmp 5) (.tmp 21) rfl rfl rfl hnew hIr ?_ hone.out ?_
           (rw [hol, hZl]; decide)
           intro w5 hk5 hg5
           refine RowKit.Hid.out ?_))
      refine Lib.hid ?_
      rw [overV_all _ _ (by rw [hol, hZl])] at hk5
      have bw5 : Below wr.heap.size wr w5 := b1.trans (below_of_grown hg5 (Nat.le_refl _) (by rw [size1]; omega))
      have U5 := hL.run bw5 (Nat.le_refl _) hk5
      have c2 : w5.cell? ⟨wr.heap.size, 2, none⟩ = some (.int .u64 o.N) := (hk5.cell 2).trans h2
      clear hk5 hg5 b1 hnew hk hrg bw5 hL hB
      go_wp2_with fail
      refine (run_num WP hG U5 o.N 8 ⟨by decide, by decide, hkw.hN.2⟩ hkw.hN.1 hkw.hN.2).mono ?_
      rintro q w6 ⟨rfl, U6⟩
      have r6 := ir w6 U6.2.1
      clear U5 c2
      go_wp2_with ((with_reducible refine wpList_load_part rfl 34 (.tmp 27) rfl ?_ I r6 hIid ?_); rfl)
      refine (cid w6 _ U6).mono ?_
      rintro q w7 ⟨rfl, U7⟩
      have c3 : w7.cell? ⟨wr.heap.size, 3, none⟩ = some (.slice o.ba o.bn o.bc) := (U7.2.1.cell 3).trans h3
      clear U6 r6
      go_wp2_with fail
      have hb4 : (o.bn : Int) < 256 ^ (4 : Int).toNat := by
        have h : (256 : Int) ^ (4 : Int).toNat = 4294967296 := by decide
        omega
      have hl2 : (o.ln : Int) < 256 ^ (2 : Int).toNat := by
        have h : (256 : Int) ^ (2 : Int).toNat = 65536 := by decide
        omega
      refine (run_num WP hG U7 o.bn 4 ⟨by decide, by decide, hb4⟩ (by omega) (by omega)).mono ?_
      rintro q w8 ⟨rfl, U8⟩
      have d3 : w8.cell? ⟨wr.heap.size, 3, none⟩ = some (.slice o.ba o.bn o.bc) := (U8.2.1.cell 3).trans h3
      clear U7 c3
      go_wp2_with fail
      refine (run_bytes WP hG U8 o.ba o.bn o.bc o.bs hkw.b hkw.br hbn).mono ?_
      rintro q w9 ⟨rfl, U9⟩
      have c36 : w9.cell? ⟨wr.heap.size, 36, none⟩ = some (.slice o.la o.ln o.lc) := (U9.2.1.cell 36).trans h36
      clear U8 d3
      go_wp2_with fail
      refine (run_num WP hG U9 o.ln 2 ⟨by decide, by decide, hl2⟩ (by omega) (by omega)).mono ?_
      rintro q w10 ⟨rfl, U10⟩
      have d36 : w10.cell? ⟨wr.heap.size, 36, none⟩ = some (.slice o.la o.ln o.lc) := (U10.2.1.cell 36).trans h36
      clear U9 c36
      go_wp2_with fail
      refine (run_ids WP hG U10 o.la o.ln o.lc o.ls hkw.l hkw.lr (by omega)).mono ?_
      rintro q w11 ⟨rfl, U11⟩
      have L11 := U11.lays
      rw [show (8 : Int).toNat = 8 from rfl, show (4 : Int).toNat = 4 from rfl, show (2 : Int).toNat = 2 from rfl] at L11
      rw [show encOf (ops.take j) ++ beL o.N 8 ++ o.id ++ beL o.bn 4 ++ o.bs ++ beL o.ln 2 ++ o.ls = encOf (ops.take (j + 1)) by rw [henc]; unfold encOp; simp only [List.append_assoc]] at L11
      clear U10 U11 d36
      go_wp2
      exact ⟨⟨j + 1, by have := hltH.out; omega, by congr 1, L11⟩, by simp only [intOf]; have := hltH.out; omega⟩
    · obtain rfl : j = m := by omega
      have hji : ¬ (j : Int) < (j : Int) := by omega
      rw [List.take_of_length_le (by rw [hO.1]; exact Nat.le_refl _)] at hL
      obtain ⟨⟨F, xs, e, hR, hF, hLd⟩, hB⟩ := hL
      have hlen := enc_len ops hO.2.2.2
      rw [hO.1] at hlen
      have G3 := WP.gl_keep hG (hB.mono (WP.gl_le hG))
      clear hlt hj
      go_wp2_with fail
      refine (WP.done F g 100000 xs e _ G3 hR).mono ?_
      rintro q w12 ⟨b, c, rfl, own, b12⟩
      have hB12 := hB.trans (b12.mono hB.size)
      have G12 := WP.gl_keep G3 (b12.mono (WP.gl_le G3))
      obtain ⟨hxl, ⟨rfl, rfl⟩ | ⟨rfl, hgr⟩⟩ := hLd
      case inr =>
        have hm4 : (400 : Int) < (j : Int) := by have := hSH.out; omega
        clear hR hB G3 b12 own
        go_wp2_with fail
        refine (alive10_any WP _ G12).mono ?_
        rintro q w9 ⟨rfl, b9⟩
        go_wp2
        go_ret
        exact ⟨rfl, hB12.trans (b9.mono hB12.size)⟩
      rw [if_pos rfl] at own ⊢
      have hIb : Ints .u8 w12 b (encOf ops).length c (encOf ops) := by
        obtain ⟨a5, c5, hv, hi⟩ := Ints.of_owns own
        injection hv with e1 _ e2
        subst e1; subst e2
        exact hi
      have hrng := enc_range hO.2.2.2
      have hops := op_reads ops
      obtain ⟨n, hn⟩ : ∃ n, (encOf ops).length = n := ⟨_, rfl⟩
      obtain ⟨xs, hxs⟩ : ∃ xs, encOf ops = xs := ⟨_, rfl⟩
      rw [hxs] at hrng hops hn hxl hIb
      have hlenH := Lib.hid hlen
      have hnH := Lib.hid hn
      rw [hxs, hn]
      rw [hn] at hIb hops hxl
      clear own hR hB b12 G3 hlen hn G12
      go_wp2_with fail
      refine (pNew_any b n c xs w12 hIb hrng (by omega)).mono ?_
      rintro q w13 ⟨gr, Fr, rfl, R13, hFr, b13⟩
      have hB13 := hB12.trans (b13.mono hB12.size)
      have hFl : ∀ y, Fr y → w.heap.size ≤ y := fun y hy => Nat.le_trans hB12.size (hFr y hy)
      clear hFr b13 hB12 hIb
      go_wp2_with fail
      go_loopw [72] (fun i wr => ∃ i' : Nat, i' ≤ j ∧ i = .int .i64 i' ∧ RdAt Fr wr gr xs (encOf (ops.take i')).length 0 ∧ Below w.heap.size w wr) (fun i _ => j - (intOf i).toNat)
      case atStart => exact ⟨0, Nat.zero_le _, rfl, R13, hB13⟩
      case round =>
        clear R13 hB13
        obtain ⟨i, hi, rfl, hR, hB⟩ := hrel
        by_cases hlt : i < j
        · have hij : (i : Int) < (j : Int) := by omega
          obtain ⟨ob, oo, o, rfl, ho, _, hkw⟩ := hO.get i hlt
          obtain ⟨ob', oo', o', ha', ho', hrg, hk⟩ := (hO.keep hB).get i hlt
          injection ha' with ha'
          injection ha' with e1 e2 _
          subst e1; subst e2
          obtain rfl : o = o' := by rw [ho] at ho'; injection ho'
          have hle := wt_le ho
          have hwt : o.wt = o.bn + 32 * o.ln := rfl
          have hbn : o.bn ≤ 5000 := by have := hSH.out; omega
          have hlnn : o.ln ≤ 156 := by have := hSH.out; omega
          obtain ⟨p1, p2, p3, p4, p5, q1, ⟨q2, q3⟩, q4, ⟨q5, q6⟩, q7, ⟨q8, q9⟩⟩ := hops i o ho hk hbn (by omega)
          have hol := OpV.len hk.il
          have hIr : IsRow Try.prog 37 o.cells.length := by rw [hol]; exact rowOp
          have hone := Lib.hid (o.one)
          have ir := fun w' h => id_range (w := w') (X := wr.heap.size) hk.il h
          obtain ⟨C, hC⟩ : ∃ C, o.cells = C := ⟨_, rfl⟩
          have h2 : C[2]? = some (.int .u64 o.N) := by rw [← hC]; exact o.at2
          have h3 : C[3]? = some (.slice o.ba o.bn o.bc) := by rw [← hC]; exact o.at3
          have h36 : C[36]? = some (.slice o.la o.ln o.lc) := by rw [← hC]; exact OpV.at36 hk.il
          rw [hC] at hrg hIr hol hone ir
          have hnew := Blk.new wr 37 ZL
          have b1 := below1 wr (.cells ZL.toArray 37)
          have hltH := Lib.hid hlt
          have hIid : IsRow Try.prog 34 (o.id.map (Value.int .u8)).length := by rw [List.length_map, hk.il]; exact rowId9
          have same := same_ids o.id hk.il
          have ng := noGuardIds
          have hpad : (padTo 32 o.id).map (Value.int .u8) = o.id.map (Value.int .u8) := by
            unfold padTo
            rw [hk.il]
            simp
          obtain ⟨I, hIe⟩ : ∃ I, o.id.map (Value.int .u8) = I := ⟨_, rfl⟩
          rw [hIe] at ir hIid same hpad
          clear hle ho ho' hlt hi hIe hC
          go_wp2_with (first
            | ((with_reducible refine wpList_load_part rfl 37 (.tmp 74) rfl ?_ C hrg hIr ?_); rfl)
            | (with_reducible refine wpList_alloc_blk rfl 37 rfl hZZ ?_)
            | (refine wpList_store_part (cs := C) rfl 37 (.tmp 10) (.tmp 75) rfl rfl rfl hnew hIr ?_ hone.out ?_
               (rw [hol, hZl]; decide)
               intro w5 hk5 hg5
               refine RowKit.Hid.out ?_))
          refine Lib.hid ?_
          rw [overV_all _ _ (by rw [hol, hZl])] at hk5
          have bw5 : Below wr.heap.size wr w5 := b1.trans (below_of_grown hg5 (Nat.le_refl _) (by rw [size1]; omega))
          have hR5 := hR.keep (fun y hy => bw5.block y (hR.lt y hy)) bw5.size
          have hB5 := hB.trans (bw5.mono hB.size)
          have nX : ¬ Fr wr.heap.size := fun h => by have := hR.lt _ h; omega
          have hbin := hkw.b.isIn.2
          have hlin := ids_in hkw.l
          obtain ⟨X, hX⟩ : ∃ X, wr.heap.size = X := ⟨_, rfl⟩
          rw [hX] at hk5 nX ir ⊢
          clear hg5 b1 hnew hrg bw5 hX hR hB
          go_wp2_with fail
          have S5 : Blk w5.drew X 37 C ∧ Ints .u8 w5.drew o.ba o.bn o.bc o.bs := ⟨hk5, hkw.b.keep (Below.drew hB5)⟩
          have R5 : RdAt Fr w5.drew gr xs (encOf (ops.take i)).length 0 := hR5.keep (fun _ _ => rfl) (Nat.le_refl _)
          have B5 : Below w.heap.size w w5.drew := Below.drew hB5
          obtain ⟨W5, hW5⟩ : ∃ W, w5.drew = W := ⟨_, rfl⟩
          rw [hW5] at S5 R5 B5
          clear hk5 hR5 hB5
          refine region_seqS (fun w' => Blk w' X 37 C ∧ Ints .u8 w' o.ba o.bn o.bc o.bs) (by kernel_rfl) (by rw [hW5]; exact S5) ?_
          rw [hW5]
          clear hW5
          simp only [pairs, Nat.reduceAdd]
          repeat (first
            | (refine SeqS.take (v := .agg (I).toArray) (by first | assumption | trivial) (by kernel_rfl) (by decide +kernel) (by decide +kernel) (yields_part (by rfl) 34 (.tmp 84) rfl rfl (fun w' h => ir w' h.1) (hIid)) ?_
               simp only [Act.put, List.setIfInBounds_toArray, List.set_cons_zero, List.set_cons_succ])
            | (refine SeqS.take (v := ?_) (by first | assumption | trivial) (by kernel_rfl) (by decide +kernel) (by decide +kernel) (Or.inl ⟨by rfl, ?_⟩) ?_
               rotate_left
               focus
                 intro w' hb'
                 go_simp
                 with_reducible rfl
               simp only [Act.put, List.setIfInBounds_toArray, List.set_cons_zero, List.set_cons_succ])
            | (refine SeqS.take (v := ?_) (by first | assumption | trivial) (by kernel_rfl) (by decide +kernel) (by decide +kernel) (Or.inl ⟨by rfl, ?_⟩) ?_
               rotate_left
               focus
                 intro w' hb'
                 have d0 : w'.cell? ⟨X, 2, none⟩ = some (.int .u64 o.N) := (hb'.1.cell 2).trans h2
                 go_simp
                 with_reducible rfl
               simp only [Act.put, List.setIfInBounds_toArray, List.set_cons_zero, List.set_cons_succ])
            | (refine SeqS.take (v := ?_) (by first | assumption | trivial) (by kernel_rfl) (by decide +kernel) (by decide +kernel) (Or.inl ⟨by rfl, ?_⟩) ?_
               rotate_left
               focus
                 intro w' hb'
                 have d0 : w'.cell? ⟨X, 3, none⟩ = some (.slice o.ba o.bn o.bc) := (hb'.1.cell 3).trans h3
                 go_simp
                 with_reducible rfl
               simp only [Act.put, List.setIfInBounds_toArray, List.set_cons_zero, List.set_cons_succ])
            | (refine SeqS.take (v := ?_) (by first | assumption | trivial) (by kernel_rfl) (by decide +kernel) (by decide +kernel) (Or.inl ⟨by rfl, ?_⟩) ?_
               rotate_left
               focus
                 intro w' hb'
                 have d0 : w'.cell? ⟨X, 36, none⟩ = some (.slice o.la o.ln o.lc) := (hb'.1.cell 36).trans h36
                 go_simp
                 with_reducible rfl
               simp only [Act.put, List.setIfInBounds_toArray, List.set_cons_zero, List.set_cons_succ])
            | (refine SeqS.take (v := ?_) (by first | assumption | trivial) (by kernel_rfl) (by decide +kernel) (by decide +kernel) (Or.inl ⟨by rfl, ?_⟩) ?_
               rotate_left
               focus
                 intro w' hb'
                 have f0 := hb'.2.string 27 9 5 Try.underlying27 Try.underlying5 Try.underlying9
                 go_simp
                 with_reducible rfl
               simp only [Act.put, List.setIfInBounds_toArray, List.set_cons_zero, List.set_cons_succ])
            | (refine SeqS.take (v := undef) (by first | assumption | trivial) (by kernel_rfl) (by decide +kernel) (by decide +kernel) (Or.inr ⟨by rfl, rfl⟩) ?_
               simp only [Act.put, List.setIfInBounds_toArray, List.set_cons_zero, List.set_cons_succ])
            | (refine SeqS.take1 (v := .agg (I).toArray) (by first | assumption | trivial) (by kernel_rfl) (by decide +kernel) (by decide +kernel) (yields_part (by rfl) 34 (.tmp 84) rfl rfl (fun w' h => ir w' h.1) (hIid)) ?_
               simp only [Act.put, List.setIfInBounds_toArray, List.set_cons_zero, List.set_cons_succ])
            | (refine SeqS.take1 (v := ?_) (by first | assumption | trivial) (by kernel_rfl) (by decide +kernel) (by decide +kernel) (Or.inl ⟨by rfl, ?_⟩) ?_
               rotate_left
               focus
                 intro w' hb'
                 go_simp
                 with_reducible rfl
               simp only [Act.put, List.setIfInBounds_toArray, List.set_cons_zero, List.set_cons_succ])
            | (refine SeqS.take1 (v := ?_) (by first | assumption | trivial) (by kernel_rfl) (by decide +kernel) (by decide +kernel) (Or.inl ⟨by rfl, ?_⟩) ?_
               rotate_left
               focus
                 intro w' hb'
                 have d0 : w'.cell? ⟨X, 2, none⟩ = some (.int .u64 o.N) := (hb'.1.cell 2).trans h2
                 go_simp
                 with_reducible rfl
               simp only [Act.put, List.setIfInBounds_toArray, List.set_cons_zero, List.set_cons_succ])
            | (refine SeqS.take1 (v := ?_) (by first | assumption | trivial) (by kernel_rfl) (by decide +kernel) (by decide +kernel) (Or.inl ⟨by rfl, ?_⟩) ?_
               rotate_left
               focus
                 intro w' hb'
                 have d0 : w'.cell? ⟨X, 3, none⟩ = some (.slice o.ba o.bn o.bc) := (hb'.1.cell 3).trans h3
                 go_simp
                 with_reducible rfl
               simp only [Act.put, List.setIfInBounds_toArray, List.set_cons_zero, List.set_cons_succ])
            | (refine SeqS.take1 (v := ?_) (by first | assumption | trivial) (by kernel_rfl) (by decide +kernel) (by decide +kernel) (Or.inl ⟨by rfl, ?_⟩) ?_
               rotate_left
               focus
                 intro w' hb'
                 have d0 : w'.cell? ⟨X, 36, none⟩ = some (.slice o.la o.ln o.lc) := (hb'.1.cell 36).trans h36
                 go_simp
                 with_reducible rfl
               simp only [Act.put, List.setIfInBounds_toArray, List.set_cons_zero, List.set_cons_succ])
            | (refine SeqS.take1 (v := ?_) (by first | assumption | trivial) (by kernel_rfl) (by decide +kernel) (by decide +kernel) (Or.inl ⟨by rfl, ?_⟩) ?_
               rotate_left
               focus
                 intro w' hb'
                 have f0 := hb'.2.string 27 9 5 Try.underlying27 Try.underlying5 Try.underlying9
                 go_simp
                 with_reducible rfl
               simp only [Act.put, List.setIfInBounds_toArray, List.set_cons_zero, List.set_cons_succ])
            | (refine SeqS.take1 (v := undef) (by first | assumption | trivial) (by kernel_rfl) (by decide +kernel) (by decide +kernel) (Or.inr ⟨by rfl, rfl⟩) ?_
               simp only [Act.put, List.setIfInBounds_toArray, List.set_cons_zero, List.set_cons_succ])
            | (refine SeqS.take2 (v := .agg (I).toArray) (by first | assumption | trivial) (by kernel_rfl) (by decide +kernel) (by decide +kernel) (yields_part (by rfl) 34 (.tmp 84) rfl rfl (fun w' h => ir w' h.1) (hIid)) ?_
               simp only [Act.put, List.setIfInBounds_toArray, List.set_cons_zero, List.set_cons_succ])
            | (refine SeqS.take2 (v := ?_) (by first | assumption | trivial) (by kernel_rfl) (by decide +kernel) (by decide +kernel) (Or.inl ⟨by rfl, ?_⟩) ?_
               rotate_left
               focus
                 intro w' hb'
                 go_simp
                 with_reducible rfl
               simp only [Act.put, List.setIfInBounds_toArray, List.set_cons_zero, List.set_cons_succ])
            | (refine SeqS.take2 (v := ?_) (by first | assumption | trivial) (by kernel_rfl) (by decide +kernel) (by decide +kernel) (Or.inl ⟨by rfl, ?_⟩) ?_
               rotate_left
               focus
                 intro w' hb'
                 have d0 : w'.cell? ⟨X, 2, none⟩ = some (.int .u64 o.N) := (hb'.1.cell 2).trans h2
                 go_simp
                 with_reducible rfl
               simp only [Act.put, List.setIfInBounds_toArray, List.set_cons_zero, List.set_cons_succ])
            | (refine SeqS.take2 (v := ?_) (by first | assumption | trivial) (by kernel_rfl) (by decide +kernel) (by decide +kernel) (Or.inl ⟨by rfl, ?_⟩) ?_
               rotate_left
               focus
                 intro w' hb'
                 have d0 : w'.cell? ⟨X, 3, none⟩ = some (.slice o.ba o.bn o.bc) := (hb'.1.cell 3).trans h3
                 go_simp
                 with_reducible rfl
               simp only [Act.put, List.setIfInBounds_toArray, List.set_cons_zero, List.set_cons_succ])
            | (refine SeqS.take2 (v := ?_) (by first | assumption | trivial) (by kernel_rfl) (by decide +kernel) (by decide +kernel) (Or.inl ⟨by rfl, ?_⟩) ?_
               rotate_left
               focus
                 intro w' hb'
                 have d0 : w'.cell? ⟨X, 36, none⟩ = some (.slice o.la o.ln o.lc) := (hb'.1.cell 36).trans h36
                 go_simp
                 with_reducible rfl
               simp only [Act.put, List.setIfInBounds_toArray, List.set_cons_zero, List.set_cons_succ])
            | (refine SeqS.take2 (v := ?_) (by first | assumption | trivial) (by kernel_rfl) (by decide +kernel) (by decide +kernel) (Or.inl ⟨by rfl, ?_⟩) ?_
               rotate_left
               focus
                 intro w' hb'
                 have f0 := hb'.2.string 27 9 5 Try.underlying27 Try.underlying5 Try.underlying9
                 go_simp
                 with_reducible rfl
               simp only [Act.put, List.setIfInBounds_toArray, List.set_cons_zero, List.set_cons_succ])
            | (refine SeqS.take2 (v := undef) (by first | assumption | trivial) (by kernel_rfl) (by decide +kernel) (by decide +kernel) (Or.inr ⟨by rfl, rfl⟩) ?_
               simp only [Act.put, List.setIfInBounds_toArray, List.set_cons_zero, List.set_cons_succ])
            | (refine SeqS.take3 (v := .agg (I).toArray) (by first | assumption | trivial) (by kernel_rfl) (by decide +kernel) (by decide +kernel) (yields_part (by rfl) 34 (.tmp 84) rfl rfl (fun w' h => ir w' h.1) (hIid)) ?_
               simp only [Act.put, List.setIfInBounds_toArray, List.set_cons_zero, List.set_cons_succ])
            | (refine SeqS.take3 (v := ?_) (by first | assumption | trivial) (by kernel_rfl) (by decide +kernel) (by decide +kernel) (Or.inl ⟨by rfl, ?_⟩) ?_
               rotate_left
               focus
                 intro w' hb'
                 go_simp
                 with_reducible rfl
               simp only [Act.put, List.setIfInBounds_toArray, List.set_cons_zero, List.set_cons_succ])
            | (refine SeqS.take3 (v := ?_) (by first | assumption | trivial) (by kernel_rfl) (by decide +kernel) (by decide +kernel) (Or.inl ⟨by rfl, ?_⟩) ?_
               rotate_left
               focus
                 intro w' hb'
                 have d0 : w'.cell? ⟨X, 2, none⟩ = some (.int .u64 o.N) := (hb'.1.cell 2).trans h2
                 go_simp
                 with_reducible rfl
               simp only [Act.put, List.setIfInBounds_toArray, List.set_cons_zero, List.set_cons_succ])
            | (refine SeqS.take3 (v := ?_) (by first | assumption | trivial) (by kernel_rfl) (by decide +kernel) (by decide +kernel) (Or.inl ⟨by rfl, ?_⟩) ?_
               rotate_left
               focus
                 intro w' hb'
                 have d0 : w'.cell? ⟨X, 3, none⟩ = some (.slice o.ba o.bn o.bc) := (hb'.1.cell 3).trans h3
                 go_simp
                 with_reducible rfl
               simp only [Act.put, List.setIfInBounds_toArray, List.set_cons_zero, List.set_cons_succ])
            | (refine SeqS.take3 (v := ?_) (by first | assumption | trivial) (by kernel_rfl) (by decide +kernel) (by decide +kernel) (Or.inl ⟨by rfl, ?_⟩) ?_
               rotate_left
               focus
                 intro w' hb'
                 have d0 : w'.cell? ⟨X, 36, none⟩ = some (.slice o.la o.ln o.lc) := (hb'.1.cell 36).trans h36
                 go_simp
                 with_reducible rfl
               simp only [Act.put, List.setIfInBounds_toArray, List.set_cons_zero, List.set_cons_succ])
            | (refine SeqS.take3 (v := ?_) (by first | assumption | trivial) (by kernel_rfl) (by decide +kernel) (by decide +kernel) (Or.inl ⟨by rfl, ?_⟩) ?_
               rotate_left
               focus
                 intro w' hb'
                 have f0 := hb'.2.string 27 9 5 Try.underlying27 Try.underlying5 Try.underlying9
                 go_simp
                 with_reducible rfl
               simp only [Act.put, List.setIfInBounds_toArray, List.set_cons_zero, List.set_cons_succ])
            | (refine SeqS.take3 (v := undef) (by first | assumption | trivial) (by kernel_rfl) (by decide +kernel) (by decide +kernel) (Or.inr ⟨by rfl, rfl⟩) ?_
               simp only [Act.put, List.setIfInBounds_toArray, List.set_cons_zero, List.set_cons_succ]))
          refine SeqS.alone (by decide +kernel) (by rfl) (fun K hK => ?_)
          go_simp
          have hc := pNum_any 8 R5
          rw [q1] at hc
          dsimp only at hc
          refine hc.mono ?_
          rintro q w6 ⟨rfl, R6, m6⟩
          have S6 : Blk w6 X 37 C ∧ Ints .u8 w6 o.ba o.bn o.bc o.bs := ⟨(m6.2 X S5.1.lt nX).trans S5.1, ints_still S5.2 m6 (fun x hx h0 hf => by have := hbin x hx h0; have := hFl _ hf; omega)⟩
          have B6 := B5.trans (m6.below hFl B5.size)
          clear hc S5 R5 B5 m6
          go_simp
          refine hK _ _ S6 ?_
          clear hK K
          repeat (first
            | (refine SeqS.take (v := .agg (I).toArray) (by first | assumption | trivial) (by kernel_rfl) (by decide +kernel) (by decide +kernel) (yields_part (by rfl) 34 (.tmp 84) rfl rfl (fun w' h => ir w' h.1) (hIid)) ?_
               simp only [Act.put, List.setIfInBounds_toArray, List.set_cons_zero, List.set_cons_succ])
            | (refine SeqS.take (v := ?_) (by first | assumption | trivial) (by kernel_rfl) (by decide +kernel) (by decide +kernel) (Or.inl ⟨by rfl, ?_⟩) ?_
               rotate_left
               focus
                 intro w' hb'
                 go_simp
                 with_reducible rfl
               simp only [Act.put, List.setIfInBounds_toArray, List.set_cons_zero, List.set_cons_succ])
            | (refine SeqS.take (v := ?_) (by first | assumption | trivial) (by kernel_rfl) (by decide +kernel) (by decide +kernel) (Or.inl ⟨by rfl, ?_⟩) ?_
               rotate_left
               focus
                 intro w' hb'
                 have d0 : w'.cell? ⟨X, 2, none⟩ = some (.int .u64 o.N) := (hb'.1.cell 2).trans h2
                 go_simp
                 with_reducible rfl
               simp only [Act.put, List.setIfInBounds_toArray, List.set_cons_zero, List.set_cons_succ])
            | (refine SeqS.take (v := ?_) (by first | assumption | trivial) (by kernel_rfl) (by decide +kernel) (by decide +kernel) (Or.inl ⟨by rfl, ?_⟩) ?_
               rotate_left
               focus
                 intro w' hb'
                 have d0 : w'.cell? ⟨X, 3, none⟩ = some (.slice o.ba o.bn o.bc) := (hb'.1.cell 3).trans h3
                 go_simp
                 with_reducible rfl
               simp only [Act.put, List.setIfInBounds_toArray, List.set_cons_zero, List.set_cons_succ])
            | (refine SeqS.take (v := ?_) (by first | assumption | trivial) (by kernel_rfl) (by decide +kernel) (by decide +kernel) (Or.inl ⟨by rfl, ?_⟩) ?_
               rotate_left
               focus
                 intro w' hb'
                 have d0 : w'.cell? ⟨X, 36, none⟩ = some (.slice o.la o.ln o.lc) := (hb'.1.cell 36).trans h36
                 go_simp
                 with_reducible rfl
               simp only [Act.put, List.setIfInBounds_toArray, List.set_cons_zero, List.set_cons_succ])
            | (refine SeqS.take (v := ?_) (by first | assumption | trivial) (by kernel_rfl) (by decide +kernel) (by decide +kernel) (Or.inl ⟨by rfl, ?_⟩) ?_
               rotate_left
               focus
                 intro w' hb'
                 have f0 := hb'.2.string 27 9 5 Try.underlying27 Try.underlying5 Try.underlying9
                 go_simp
                 with_reducible rfl
               simp only [Act.put, List.setIfInBounds_toArray, List.set_cons_zero, List.set_cons_succ])
            | (refine SeqS.take (v := undef) (by first | assumption | trivial) (by kernel_rfl) (by decide +kernel) (by decide +kernel) (Or.inr ⟨by rfl, rfl⟩) ?_
               simp only [Act.put, List.setIfInBounds_toArray, List.set_cons_zero, List.set_cons_succ])
            | (refine SeqS.take1 (v := .agg (I).toArray) (by first | assumption | trivial) (by kernel_rfl) (by decide +kernel) (by decide +kernel) (yields_part (by rfl) 34 (.tmp 84) rfl rfl (fun w' h => ir w' h.1) (hIid)) ?_
               simp only [Act.put, List.setIfInBounds_toArray, List.set_cons_zero, List.set_cons_succ])
            | (refine SeqS.take1 (v := ?_) (by first | assumption | trivial) (by kernel_rfl) (by decide +kernel) (by decide +kernel) (Or.inl ⟨by rfl, ?_⟩) ?_
               rotate_left
               focus
                 intro w' hb'
                 go_simp
                 with_reducible rfl
               simp only [Act.put, List.setIfInBounds_toArray, List.set_cons_zero, List.set_cons_succ])
            | (refine SeqS.take1 (v := ?_) (by first | assumption | trivial) (by kernel_rfl) (by decide +kernel) (by decide +kernel) (Or.inl ⟨by rfl, ?_⟩) ?_
               rotate_left
               focus
                 intro w' hb'
                 have d0 : w'.cell? ⟨X, 2, none⟩ = some (.int .u64 o.N) := (hb'.1.cell 2).trans h2
                 go_simp
                 with_reducible rfl
               simp only [Act.put, List.setIfInBounds_toArray, List.set_cons_zero, List.set_cons_succ])
            | (refine SeqS.take1 (v := ?_) (by first | assumption | trivial) (by kernel_rfl) (by decide +kernel) (by decide +kernel) (Or.inl ⟨by rfl, ?_⟩) ?_
               rotate_left
               focus
                 intro w' hb'
                 have d0 : w'.cell? ⟨X, 3, none⟩ = some (.slice o.ba o.bn o.bc) := (hb'.1.cell 3).trans h3
                 go_simp
                 with_reducible rfl
               simp only [Act.put, List.setIfInBounds_toArray, List.set_cons_zero, List.set_cons_succ])
            | (refine SeqS.take1 (v := ?_) (by first | assumption | trivial) (by kernel_rfl) (by decide +kernel) (by decide +kernel) (Or.inl ⟨by rfl, ?_⟩) ?_
               rotate_left
               focus
                 intro w' hb'
                 have d0 : w'.cell? ⟨X, 36, none⟩ = some (.slice o.la o.ln o.lc) := (hb'.1.cell 36).trans h36
                 go_simp
                 with_reducible rfl
               simp only [Act.put, List.setIfInBounds_toArray, List.set_cons_zero, List.set_cons_succ])
            | (refine SeqS.take1 (v := ?_) (by first | assumption | trivial) (by kernel_rfl) (by decide +kernel) (by decide +kernel) (Or.inl ⟨by rfl, ?_⟩) ?_
               rotate_left
               focus
                 intro w' hb'
                 have f0 := hb'.2.string 27 9 5 Try.underlying27 Try.underlying5 Try.underlying9
                 go_simp
                 with_reducible rfl
               simp only [Act.put, List.setIfInBounds_toArray, List.set_cons_zero, List.set_cons_succ])
            | (refine SeqS.take1 (v := undef) (by first | assumption | trivial) (by kernel_rfl) (by decide +kernel) (by decide +kernel) (Or.inr ⟨by rfl, rfl⟩) ?_
               simp only [Act.put, List.setIfInBounds_toArray, List.set_cons_zero, List.set_cons_succ])
            | (refine SeqS.take2 (v := .agg (I).toArray) (by first | assumption | trivial) (by kernel_rfl) (by decide +kernel) (by decide +kernel) (yields_part (by rfl) 34 (.tmp 84) rfl rfl (fun w' h => ir w' h.1) (hIid)) ?_
               simp only [Act.put, List.setIfInBounds_toArray, List.set_cons_zero, List.set_cons_succ])
            | (refine SeqS.take2 (v := ?_) (by first | assumption | trivial) (by kernel_rfl) (by decide +kernel) (by decide +kernel) (Or.inl ⟨by rfl, ?_⟩) ?_
               rotate_left
               focus
                 intro w' hb'
                 go_simp
                 with_reducible rfl
               simp only [Act.put, List.setIfInBounds_toArray, List.set_cons_zero, List.set_cons_succ])
            | (refine SeqS.take2 (v := ?_) (by first | assumption | trivial) (by kernel_rfl) (by decide +kernel) (by decide +kernel) (Or.inl ⟨by rfl, ?_⟩) ?_
               rotate_left
               focus
                 intro w' hb'
                 have d0 : w'.cell? ⟨X, 2, none⟩ = some (.int .u64 o.N) := (hb'.1.cell 2).trans h2
                 go_simp
                 with_reducible rfl
               simp only [Act.put, List.setIfInBounds_toArray, List.set_cons_zero, List.set_cons_succ])
            | (refine SeqS.take2 (v := ?_) (by first | assumption | trivial) (by kernel_rfl) (by decide +kernel) (by decide +kernel) (Or.inl ⟨by rfl, ?_⟩) ?_
               rotate_left
               focus
                 intro w' hb'
                 have d0 : w'.cell? ⟨X, 3, none⟩ = some (.slice o.ba o.bn o.bc) := (hb'.1.cell 3).trans h3
                 go_simp
                 with_reducible rfl
               simp only [Act.put, List.setIfInBounds_toArray, List.set_cons_zero, List.set_cons_succ])
            | (refine SeqS.take2 (v := ?_) (by first | assumption | trivial) (by kernel_rfl) (by decide +kernel) (by decide +kernel) (Or.inl ⟨by rfl, ?_⟩) ?_
               rotate_left
               focus
                 intro w' hb'
                 have d0 : w'.cell? ⟨X, 36, none⟩ = some (.slice o.la o.ln o.lc) := (hb'.1.cell 36).trans h36
                 go_simp
                 with_reducible rfl
               simp only [Act.put, List.setIfInBounds_toArray, List.set_cons_zero, List.set_cons_succ])
            | (refine SeqS.take2 (v := ?_) (by first | assumption | trivial) (by kernel_rfl) (by decide +kernel) (by decide +kernel) (Or.inl ⟨by rfl, ?_⟩) ?_
               rotate_left
               focus
                 intro w' hb'
                 have f0 := hb'.2.string 27 9 5 Try.underlying27 Try.underlying5 Try.underlying9
                 go_simp
                 with_reducible rfl
               simp only [Act.put, List.setIfInBounds_toArray, List.set_cons_zero, List.set_cons_succ])
            | (refine SeqS.take2 (v := undef) (by first | assumption | trivial) (by kernel_rfl) (by decide +kernel) (by decide +kernel) (Or.inr ⟨by rfl, rfl⟩) ?_
               simp only [Act.put, List.setIfInBounds_toArray, List.set_cons_zero, List.set_cons_succ])
            | (refine SeqS.take3 (v := .agg (I).toArray) (by first | assumption | trivial) (by kernel_rfl) (by decide +kernel) (by decide +kernel) (yields_part (by rfl) 34 (.tmp 84) rfl rfl (fun w' h => ir w' h.1) (hIid)) ?_
               simp only [Act.put, List.setIfInBounds_toArray, List.set_cons_zero, List.set_cons_succ])
            | (refine SeqS.take3 (v := ?_) (by first | assumption | trivial) (by kernel_rfl) (by decide +kernel) (by decide +kernel) (Or.inl ⟨by rfl, ?_⟩) ?_
               rotate_left
               focus
                 intro w' hb'
                 go_simp
                 with_reducible rfl
               simp only [Act.put, List.setIfInBounds_toArray, List.set_cons_zero, List.set_cons_succ])
            | (refine SeqS.take3 (v := ?_) (by first | assumption | trivial) (by kernel_rfl) (by decide +kernel) (by decide +kernel) (Or.inl ⟨by rfl, ?_⟩) ?_
               rotate_left
               focus
                 intro w' hb'
                 have d0 : w'.cell? ⟨X, 2, none⟩ = some (.int .u64 o.N) := (hb'.1.cell 2).trans h2
                 go_simp
                 with_reducible rfl
               simp only [Act.put, List.setIfInBounds_toArray, List.set_cons_zero, List.set_cons_succ])
            | (refine SeqS.take3 (v := ?_) (by first | assumption | trivial) (by kernel_rfl) (by decide +kernel) (by decide +kernel) (Or.inl ⟨by rfl, ?_⟩) ?_
               rotate_left
               focus
                 intro w' hb'
                 have d0 : w'.cell? ⟨X, 3, none⟩ = some (.slice o.ba o.bn o.bc) := (hb'.1.cell 3).trans h3
                 go_simp
                 with_reducible rfl
               simp only [Act.put, List.setIfInBounds_toArray, List.set_cons_zero, List.set_cons_succ])
            | (refine SeqS.take3 (v := ?_) (by first | assumption | trivial) (by kernel_rfl) (by decide +kernel) (by decide +kernel) (Or.inl ⟨by rfl, ?_⟩) ?_
               rotate_left
               focus
                 intro w' hb'
                 have d0 : w'.cell? ⟨X, 36, none⟩ = some (.slice o.la o.ln o.lc) := (hb'.1.cell 36).trans h36
                 go_simp
                 with_reducible rfl
               simp only [Act.put, List.setIfInBounds_toArray, List.set_cons_zero, List.set_cons_succ])
            | (refine SeqS.take3 (v := ?_) (by first | assumption | trivial) (by kernel_rfl) (by decide +kernel) (by decide +kernel) (Or.inl ⟨by rfl, ?_⟩) ?_
               rotate_left
               focus
                 intro w' hb'
                 have f0 := hb'.2.string 27 9 5 Try.underlying27 Try.underlying5 Try.underlying9
                 go_simp
                 with_reducible rfl
               simp only [Act.put, List.setIfInBounds_toArray, List.set_cons_zero, List.set_cons_succ])
            | (refine SeqS.take3 (v := undef) (by first | assumption | trivial) (by kernel_rfl) (by decide +kernel) (by decide +kernel) (Or.inr ⟨by rfl, rfl⟩) ?_
               simp only [Act.put, List.setIfInBounds_toArray, List.set_cons_zero, List.set_cons_succ]))
          refine SeqS.alone (by decide +kernel) (by rfl) (fun K hK => ?_)
          go_simp
          have hc := pId_any R6
          rw [hnH.out, q2, q3, hpad] at hc
          dsimp only at hc
          refine hc.mono ?_
          rintro q w7 ⟨rfl, R7, m7⟩
          have S7 : Blk w7 X 37 C ∧ Ints .u8 w7 o.ba o.bn o.bc o.bs := ⟨(m7.2 X S6.1.lt nX).trans S6.1, ints_still S6.2 m7 (fun x hx h0 hf => by have := hbin x hx h0; have := hFl _ hf; omega)⟩
          have B7 := B6.trans (m7.below hFl B6.size)
          clear hc S6 R6 B6 m7
          go_simp
          refine hK _ _ S7 ?_
          clear hK K
          repeat (first
            | (refine SeqS.take (v := .agg (I).toArray) (by first | assumption | trivial) (by kernel_rfl) (by decide +kernel) (by decide +kernel) (yields_part (by rfl) 34 (.tmp 84) rfl rfl (fun w' h => ir w' h.1) (hIid)) ?_
               simp only [Act.put, List.setIfInBounds_toArray, List.set_cons_zero, List.set_cons_succ])
            | (refine SeqS.take (v := ?_) (by first | assumption | trivial) (by kernel_rfl) (by decide +kernel) (by decide +kernel) (Or.inl ⟨by rfl, ?_⟩) ?_
               rotate_left
               focus
                 intro w' hb'
                 go_simp
                 with_reducible rfl
               simp only [Act.put, List.setIfInBounds_toArray, List.set_cons_zero, List.set_cons_succ])
            | (refine SeqS.take (v := ?_) (by first | assumption | trivial) (by kernel_rfl) (by decide +kernel) (by decide +kernel) (Or.inl ⟨by rfl, ?_⟩) ?_
               rotate_left
               focus
                 intro w' hb'
                 have d0 : w'.cell? ⟨X, 2, none⟩ = some (.int .u64 o.N) := (hb'.1.cell 2).trans h2
                 go_simp
                 with_reducible rfl
               simp only [Act.put, List.setIfInBounds_toArray, List.set_cons_zero, List.set_cons_succ])
            | (refine SeqS.take (v := ?_) (by first | assumption | trivial) (by kernel_rfl) (by decide +kernel) (by decide +kernel) (Or.inl ⟨by rfl, ?_⟩) ?_
               rotate_left
               focus
                 intro w' hb'
                 have d0 : w'.cell? ⟨X, 3, none⟩ = some (.slice o.ba o.bn o.bc) := (hb'.1.cell 3).trans h3
                 go_simp
                 with_reducible rfl
               simp only [Act.put, List.setIfInBounds_toArray, List.set_cons_zero, List.set_cons_succ])
            | (refine SeqS.take (v := ?_) (by first | assumption | trivial) (by kernel_rfl) (by decide +kernel) (by decide +kernel) (Or.inl ⟨by rfl, ?_⟩) ?_
               rotate_left
               focus
                 intro w' hb'
                 have d0 : w'.cell? ⟨X, 36, none⟩ = some (.slice o.la o.ln o.lc) := (hb'.1.cell 36).trans h36
                 go_simp
                 with_reducible rfl
               simp only [Act.put, List.setIfInBounds_toArray, List.set_cons_zero, List.set_cons_succ])
            | (refine SeqS.take (v := ?_) (by first | assumption | trivial) (by kernel_rfl) (by decide +kernel) (by decide +kernel) (Or.inl ⟨by rfl, ?_⟩) ?_
               rotate_left
               focus
                 intro w' hb'
                 have f0 := hb'.2.string 27 9 5 Try.underlying27 Try.underlying5 Try.underlying9
                 go_simp
                 with_reducible rfl
               simp only [Act.put, List.setIfInBounds_toArray, List.set_cons_zero, List.set_cons_succ])
            | (refine SeqS.take (v := undef) (by first | assumption | trivial) (by kernel_rfl) (by decide +kernel) (by decide +kernel) (Or.inr ⟨by rfl, rfl⟩) ?_
               simp only [Act.put, List.setIfInBounds_toArray, List.set_cons_zero, List.set_cons_succ])
            | (refine SeqS.take1 (v := .agg (I).toArray) (by first | assumption | trivial) (by kernel_rfl) (by decide +kernel) (by decide +kernel) (yields_part (by rfl) 34 (.tmp 84) rfl rfl (fun w' h => ir w' h.1) (hIid)) ?_
               simp only [Act.put, List.setIfInBounds_toArray, List.set_cons_zero, List.set_cons_succ])
            | (refine SeqS.take1 (v := ?_) (by first | assumption | trivial) (by kernel_rfl) (by decide +kernel) (by decide +kernel) (Or.inl ⟨by rfl, ?_⟩) ?_
               rotate_left
               focus
                 intro w' hb'
                 go_simp
                 with_reducible rfl
               simp only [Act.put, List.setIfInBounds_toArray, List.set_cons_zero, List.set_cons_succ])
            | (refine SeqS.take1 (v := ?_) (by first | assumption | trivial) (by kernel_rfl) (by decide +kernel) (by decide +kernel) (Or.inl ⟨by rfl, ?_⟩) ?_
               rotate_left
               focus
                 intro w' hb'
                 have d0 : w'.cell? ⟨X, 2, none⟩ = some (.int .u64 o.N) := (hb'.1.cell 2).trans h2
                 go_simp
                 with_reducible rfl
               simp only [Act.put, List.setIfInBounds_toArray, List.set_cons_zero, List.set_cons_succ])
            | (refine SeqS.take1 (v := ?_) (by first | assumption | trivial) (by kernel_rfl) (by decide +kernel) (by decide +kernel) (Or.inl ⟨by rfl, ?_⟩) ?_
               rotate_left
               focus
                 intro w' hb'
                 have d0 : w'.cell? ⟨X, 3, none⟩ = some (.slice o.ba o.bn o.bc) := (hb'.1.cell 3).trans h3
                 go_simp
                 with_reducible rfl
               simp only [Act.put, List.setIfInBounds_toArray, List.set_cons_zero, List.set_cons_succ])
            | (refine SeqS.take1 (v := ?_) (by first | assumption | trivial) (by kernel_rfl) (by decide +kernel) (by decide +kernel) (Or.inl ⟨by rfl, ?_⟩) ?_
               rotate_left
               focus
                 intro w' hb'
                 have d0 : w'.cell? ⟨X, 36, none⟩ = some (.slice o.la o.ln o.lc) := (hb'.1.cell 36).trans h36
                 go_simp
                 with_reducible rfl
               simp only [Act.put, List.setIfInBounds_toArray, List.set_cons_zero, List.set_cons_succ])
            | (refine SeqS.take1 (v := ?_) (by first | assumption | trivial) (by kernel_rfl) (by decide +kernel) (by decide +kernel) (Or.inl ⟨by rfl, ?_⟩) ?_
               rotate_left
               focus
                 intro w' hb'
                 have f0 := hb'.2.string 27 9 5 Try.underlying27 Try.underlying5 Try.underlying9
                 go_simp
                 with_reducible rfl
               simp only [Act.put, List.setIfInBounds_toArray, List.set_cons_zero, List.set_cons_succ])
            | (refine SeqS.take1 (v := undef) (by first | assumption | trivial) (by kernel_rfl) (by decide +kernel) (by decide +kernel) (Or.inr ⟨by rfl, rfl⟩) ?_
               simp only [Act.put, List.setIfInBounds_toArray, List.set_cons_zero, List.set_cons_succ])
            | (refine SeqS.take2 (v := .agg (I).toArray) (by first | assumption | trivial) (by kernel_rfl) (by decide +kernel) (by decide +kernel) (yields_part (by rfl) 34 (.tmp 84) rfl rfl (fun w' h => ir w' h.1) (hIid)) ?_
               simp only [Act.put, List.setIfInBounds_toArray, List.set_cons_zero, List.set_cons_succ])
            | (refine SeqS.take2 (v := ?_) (by first | assumption | trivial) (by kernel_rfl) (by decide +kernel) (by decide +kernel) (Or.inl ⟨by rfl, ?_⟩) ?_
               rotate_left
               focus
                 intro w' hb'
                 go_simp
                 with_reducible rfl
               simp only [Act.put, List.setIfInBounds_toArray, List.set_cons_zero, List.set_cons_succ])
            | (refine SeqS.take2 (v := ?_) (by first | assumption | trivial) (by kernel_rfl) (by decide +kernel) (by decide +kernel) (Or.inl ⟨by rfl, ?_⟩) ?_
               rotate_left
               focus
                 intro w' hb'
                 have d0 : w'.cell? ⟨X, 2, none⟩ = some (.int .u64 o.N) := (hb'.1.cell 2).trans h2
                 go_simp
                 with_reducible rfl
               simp only [Act.put, List.setIfInBounds_toArray, List.set_cons_zero, List.set_cons_succ])
            | (refine SeqS.take2 (v := ?_) (by first | assumption | trivial) (by kernel_rfl) (by decide +kernel) (by decide +kernel) (Or.inl ⟨by rfl, ?_⟩) ?_
               rotate_left
               focus
                 intro w' hb'
                 have d0 : w'.cell? ⟨X, 3, none⟩ = some (.slice o.ba o.bn o.bc) := (hb'.1.cell 3).trans h3
                 go_simp
                 with_reducible rfl
               simp only [Act.put, List.setIfInBounds_toArray, List.set_cons_zero, List.set_cons_succ])
            | (refine SeqS.take2 (v := ?_) (by first | assumption | trivial) (by kernel_rfl) (by decide +kernel) (by decide +kernel) (Or.inl ⟨by rfl, ?_⟩) ?_
               rotate_left
               focus
                 intro w' hb'
                 have d0 : w'.cell? ⟨X, 36, none⟩ = some (.slice o.la o.ln o.lc) := (hb'.1.cell 36).trans h36
                 go_simp
                 with_reducible rfl
               simp only [Act.put, List.setIfInBounds_toArray, List.set_cons_zero, List.set_cons_succ])
            | (refine SeqS.take2 (v := ?_) (by first | assumption | trivial) (by kernel_rfl) (by decide +kernel) (by decide +kernel) (Or.inl ⟨by rfl, ?_⟩) ?_
               rotate_left
               focus
                 intro w' hb'
                 have f0 := hb'.2.string 27 9 5 Try.underlying27 Try.underlying5 Try.underlying9
                 go_simp
                 with_reducible rfl
               simp only [Act.put, List.setIfInBounds_toArray, List.set_cons_zero, List.set_cons_succ])
            | (refine SeqS.take2 (v := undef) (by first | assumption | trivial) (by kernel_rfl) (by decide +kernel) (by decide +kernel) (Or.inr ⟨by rfl, rfl⟩) ?_
               simp only [Act.put, List.setIfInBounds_toArray, List.set_cons_zero, List.set_cons_succ])
            | (refine SeqS.take3 (v := .agg (I).toArray) (by first | assumption | trivial) (by kernel_rfl) (by decide +kernel) (by decide +kernel) (yields_part (by rfl) 34 (.tmp 84) rfl rfl (fun w' h => ir w' h.1) (hIid)) ?_
               simp only [Act.put, List.setIfInBounds_toArray, List.set_cons_zero, List.set_cons_succ])
            | (refine SeqS.take3 (v := ?_) (by first | assumption | trivial) (by kernel_rfl) (by decide +kernel) (by decide +kernel) (Or.inl ⟨by rfl, ?_⟩) ?_
               rotate_left
               focus
                 intro w' hb'
                 go_simp
                 with_reducible rfl
               simp only [Act.put, List.setIfInBounds_toArray, List.set_cons_zero, List.set_cons_succ])
            | (refine SeqS.take3 (v := ?_) (by first | assumption | trivial) (by kernel_rfl) (by decide +kernel) (by decide +kernel) (Or.inl ⟨by rfl, ?_⟩) ?_
               rotate_left
               focus
                 intro w' hb'
                 have d0 : w'.cell? ⟨X, 2, none⟩ = some (.int .u64 o.N) := (hb'.1.cell 2).trans h2
                 go_simp
                 with_reducible rfl
               simp only [Act.put, List.setIfInBounds_toArray, List.set_cons_zero, List.set_cons_succ])
            | (refine SeqS.take3 (v := ?_) (by first | assumption | trivial) (by kernel_rfl) (by decide +kernel) (by decide +kernel) (Or.inl ⟨by rfl, ?_⟩) ?_
               rotate_left
               focus
                 intro w' hb'
                 have d0 : w'.cell? ⟨X, 3, none⟩ = some (.slice o.ba o.bn o.bc) := (hb'.1.cell 3).trans h3
                 go_simp
                 with_reducible rfl
               simp only [Act.put, List.setIfInBounds_toArray, List.set_cons_zero, List.set_cons_succ])
            | (refine SeqS.take3 (v := ?_) (by first | assumption | trivial) (by kernel_rfl) (by decide +kernel) (by decide +kernel) (Or.inl ⟨by rfl, ?_⟩) ?_
               rotate_left
               focus
                 intro w' hb'
                 have d0 : w'.cell? ⟨X, 36, none⟩ = some (.slice o.la o.ln o.lc) := (hb'.1.cell 36).trans h36
                 go_simp
                 with_reducible rfl
               simp only [Act.put, List.setIfInBounds_toArray, List.set_cons_zero, List.set_cons_succ])
            | (refine SeqS.take3 (v := ?_) (by first | assumption | trivial) (by kernel_rfl) (by decide +kernel) (by decide +kernel) (Or.inl ⟨by rfl, ?_⟩) ?_
               rotate_left
               focus
                 intro w' hb'
                 have f0 := hb'.2.string 27 9 5 Try.underlying27 Try.underlying5 Try.underlying9
                 go_simp
                 with_reducible rfl
               simp only [Act.put, List.setIfInBounds_toArray, List.set_cons_zero, List.set_cons_succ])
            | (refine SeqS.take3 (v := undef) (by first | assumption | trivial) (by kernel_rfl) (by decide +kernel) (by decide +kernel) (Or.inr ⟨by rfl, rfl⟩) ?_
               simp only [Act.put, List.setIfInBounds_toArray, List.set_cons_zero, List.set_cons_succ]))
          refine SeqS.alone (by decide +kernel) (by rfl) (fun K hK => ?_)
          go_simp
          have hc := pCount_any 4 5000 (by decide) R7
          rw [q4] at hc
          dsimp only at hc
          refine hc.mono ?_
          rintro q w8 ⟨rfl, R8, m8⟩
          have S8 : Blk w8 X 37 C ∧ Ints .u8 w8 o.ba o.bn o.bc o.bs := ⟨(m8.2 X S7.1.lt nX).trans S7.1, ints_still S7.2 m8 (fun x hx h0 hf => by have := hbin x hx h0; have := hFl _ hf; omega)⟩
          have B8 := B7.trans (m8.below hFl B7.size)
          clear hc S7 R7 B7 m8
          go_simp
          refine hK _ _ S8 ?_
          clear hK K
          repeat (first
            | (refine SeqS.take (v := .agg (I).toArray) (by first | assumption | trivial) (by kernel_rfl) (by decide +kernel) (by decide +kernel) (yields_part (by rfl) 34 (.tmp 84) rfl rfl (fun w' h => ir w' h.1) (hIid)) ?_
               simp only [Act.put, List.setIfInBounds_toArray, List.set_cons_zero, List.set_cons_succ])
            | (refine SeqS.take (v := ?_) (by first | assumption | trivial) (by kernel_rfl) (by decide +kernel) (by decide +kernel) (Or.inl ⟨by rfl, ?_⟩) ?_
               rotate_left
               focus
                 intro w' hb'
                 go_simp
                 with_reducible rfl
               simp only [Act.put, List.setIfInBounds_toArray, List.set_cons_zero, List.set_cons_succ])
            | (refine SeqS.take (v := ?_) (by first | assumption | trivial) (by kernel_rfl) (by decide +kernel) (by decide +kernel) (Or.inl ⟨by rfl, ?_⟩) ?_
               rotate_left
               focus
                 intro w' hb'
                 have d0 : w'.cell? ⟨X, 2, none⟩ = some (.int .u64 o.N) := (hb'.1.cell 2).trans h2
                 go_simp
                 with_reducible rfl
               simp only [Act.put, List.setIfInBounds_toArray, List.set_cons_zero, List.set_cons_succ])
            | (refine SeqS.take (v := ?_) (by first | assumption | trivial) (by kernel_rfl) (by decide +kernel) (by decide +kernel) (Or.inl ⟨by rfl, ?_⟩) ?_
               rotate_left
               focus
                 intro w' hb'
                 have d0 : w'.cell? ⟨X, 3, none⟩ = some (.slice o.ba o.bn o.bc) := (hb'.1.cell 3).trans h3
                 go_simp
                 with_reducible rfl
               simp only [Act.put, List.setIfInBounds_toArray, List.set_cons_zero, List.set_cons_succ])
            | (refine SeqS.take (v := ?_) (by first | assumption | trivial) (by kernel_rfl) (by decide +kernel) (by decide +kernel) (Or.inl ⟨by rfl, ?_⟩) ?_
               rotate_left
               focus
                 intro w' hb'
                 have d0 : w'.cell? ⟨X, 36, none⟩ = some (.slice o.la o.ln o.lc) := (hb'.1.cell 36).trans h36
                 go_simp
                 with_reducible rfl
               simp only [Act.put, List.setIfInBounds_toArray, List.set_cons_zero, List.set_cons_succ])
            | (refine SeqS.take (v := ?_) (by first | assumption | trivial) (by kernel_rfl) (by decide +kernel) (by decide +kernel) (Or.inl ⟨by rfl, ?_⟩) ?_
               rotate_left
               focus
                 intro w' hb'
                 have f0 := hb'.2.string 27 9 5 Try.underlying27 Try.underlying5 Try.underlying9
                 go_simp
                 with_reducible rfl
               simp only [Act.put, List.setIfInBounds_toArray, List.set_cons_zero, List.set_cons_succ])
            | (refine SeqS.take (v := undef) (by first | assumption | trivial) (by kernel_rfl) (by decide +kernel) (by decide +kernel) (Or.inr ⟨by rfl, rfl⟩) ?_
               simp only [Act.put, List.setIfInBounds_toArray, List.set_cons_zero, List.set_cons_succ])
            | (refine SeqS.take1 (v := .agg (I).toArray) (by first | assumption | trivial) (by kernel_rfl) (by decide +kernel) (by decide +kernel) (yields_part (by rfl) 34 (.tmp 84) rfl rfl (fun w' h => ir w' h.1) (hIid)) ?_
               simp only [Act.put, List.setIfInBounds_toArray, List.set_cons_zero, List.set_cons_succ])
            | (refine SeqS.take1 (v := ?_) (by first | assumption | trivial) (by kernel_rfl) (by decide +kernel) (by decide +kernel) (Or.inl ⟨by rfl, ?_⟩) ?_
               rotate_left
               focus
                 intro w' hb'
                 go_simp
                 with_reducible rfl
               simp only [Act.put, List.setIfInBounds_toArray, List.set_cons_zero, List.set_cons_succ])
            | (refine SeqS.take1 (v := ?_) (by first | assumption | trivial) (by kernel_rfl) (by decide +kernel) (by decide +kernel) (Or.inl ⟨by rfl, ?_⟩) ?_
               rotate_left
               focus
                 intro w' hb'
                 have d0 : w'.cell? ⟨X, 2, none⟩ = some (.int .u64 o.N) := (hb'.1.cell 2).trans h2
                 go_simp
                 with_reducible rfl
               simp only [Act.put, List.setIfInBounds_toArray, List.set_cons_zero, List.set_cons_succ])
            | (refine SeqS.take1 (v := ?_) (by first | assumption | trivial) (by kernel_rfl) (by decide +kernel) (by decide +kernel) (Or.inl ⟨by rfl, ?_⟩) ?_
               rotate_left
               focus
                 intro w' hb'
                 have d0 : w'.cell? ⟨X, 3, none⟩ = some (.slice o.ba o.bn o.bc) := (hb'.1.cell 3).trans h3
                 go_simp
                 with_reducible rfl
               simp only [Act.put, List.setIfInBounds_toArray, List.set_cons_zero, List.set_cons_succ])
            | (refine SeqS.take1 (v := ?_) (by first | assumption | trivial) (by kernel_rfl) (by decide +kernel) (by decide +kernel) (Or.inl ⟨by rfl, ?_⟩) ?_
               rotate_left
               focus
                 intro w' hb'
                 have d0 : w'.cell? ⟨X, 36, none⟩ = some (.slice o.la o.ln o.lc) := (hb'.1.cell 36).trans h36
                 go_simp
                 with_reducible rfl
               simp only [Act.put, List.setIfInBounds_toArray, List.set_cons_zero, List.set_cons_succ])
            | (refine SeqS.take1 (v := ?_) (by first | assumption | trivial) (by kernel_rfl) (by decide +kernel) (by decide +kernel) (Or.inl ⟨by rfl, ?_⟩) ?_
               rotate_left
               focus
                 intro w' hb'
                 have f0 := hb'.2.string 27 9 5 Try.underlying27 Try.underlying5 Try.underlying9
                 go_simp
                 with_reducible rfl
               simp only [Act.put, List.setIfInBounds_toArray, List.set_cons_zero, List.set_cons_succ])
            | (refine SeqS.take1 (v := undef) (by first | assumption | trivial) (by kernel_rfl) (by decide +kernel) (by decide +kernel) (Or.inr ⟨by rfl, rfl⟩) ?_
               simp only [Act.put, List.setIfInBounds_toArray, List.set_cons_zero, List.set_cons_succ])
            | (refine SeqS.take2 (v := .agg (I).toArray) (by first | assumption | trivial) (by kernel_rfl) (by decide +kernel) (by decide +kernel) (yields_part (by rfl) 34 (.tmp 84) rfl rfl (fun w' h => ir w' h.1) (hIid)) ?_
               simp only [Act.put, List.setIfInBounds_toArray, List.set_cons_zero, List.set_cons_succ])
            | (refine SeqS.take2 (v := ?_) (by first | assumption | trivial) (by kernel_rfl) (by decide +kernel) (by decide +kernel) (Or.inl ⟨by rfl, ?_⟩) ?_
               rotate_left
               focus
                 intro w' hb'
                 go_simp
                 with_reducible rfl
               simp only [Act.put, List.setIfInBounds_toArray, List.set_cons_zero, List.set_cons_succ])
            | (refine SeqS.take2 (v := ?_) (by first | assumption | trivial) (by kernel_rfl) (by decide +kernel) (by decide +kernel) (Or.inl ⟨by rfl, ?_⟩) ?_
               rotate_left
               focus
                 intro w' hb'
                 have d0 : w'.cell? ⟨X, 2, none⟩ = some (.int .u64 o.N) := (hb'.1.cell 2).trans h2
                 go_simp
                 with_reducible rfl
               simp only [Act.put, List.setIfInBounds_toArray, List.set_cons_zero, List.set_cons_succ])
            | (refine SeqS.take2 (v := ?_) (by first | assumption | trivial) (by kernel_rfl) (by decide +kernel) (by decide +kernel) (Or.inl ⟨by rfl, ?_⟩) ?_
               rotate_left
               focus
                 intro w' hb'
                 have d0 : w'.cell? ⟨X, 3, none⟩ = some (.slice o.ba o.bn o.bc) := (hb'.1.cell 3).trans h3
                 go_simp
                 with_reducible rfl
               simp only [Act.put, List.setIfInBounds_toArray, List.set_cons_zero, List.set_cons_succ])
            | (refine SeqS.take2 (v := ?_) (by first | assumption | trivial) (by kernel_rfl) (by decide +kernel) (by decide +kernel) (Or.inl ⟨by rfl, ?_⟩) ?_
               rotate_left
               focus
                 intro w' hb'
                 have d0 : w'.cell? ⟨X, 36, none⟩ = some (.slice o.la o.ln o.lc) := (hb'.1.cell 36).trans h36
                 go_simp
                 with_reducible rfl
               simp only [Act.put, List.setIfInBounds_toArray, List.set_cons_zero, List.set_cons_succ])
            | (refine SeqS.take2 (v := ?_) (by first | assumption | trivial) (by kernel_rfl) (by decide +kernel) (by decide +kernel) (Or.inl ⟨by rfl, ?_⟩) ?_
               rotate_left
               focus
                 intro w' hb'
                 have f0 := hb'.2.string 27 9 5 Try.underlying27 Try.underlying5 Try.underlying9
                 go_simp
                 with_reducible rfl
               simp only [Act.put, List.setIfInBounds_toArray, List.set_cons_zero, List.set_cons_succ])
            | (refine SeqS.take2 (v := undef) (by first | assumption | trivial) (by kernel_rfl) (by decide +kernel) (by decide +kernel) (Or.inr ⟨by rfl, rfl⟩) ?_
               simp only [Act.put, List.setIfInBounds_toArray, List.set_cons_zero, List.set_cons_succ])
            | (refine SeqS.take3 (v := .agg (I).toArray) (by first | assumption | trivial) (by kernel_rfl) (by decide +kernel) (by decide +kernel) (yields_part (by rfl) 34 (.tmp 84) rfl rfl (fun w' h => ir w' h.1) (hIid)) ?_
               simp only [Act.put, List.setIfInBounds_toArray, List.set_cons_zero, List.set_cons_succ])
            | (refine SeqS.take3 (v := ?_) (by first | assumption | trivial) (by kernel_rfl) (by decide +kernel) (by decide +kernel) (Or.inl ⟨by rfl, ?_⟩) ?_
               rotate_left
               focus
                 intro w' hb'
                 go_simp
                 with_reducible rfl
               simp only [Act.put, List.setIfInBounds_toArray, List.set_cons_zero, List.set_cons_succ])
            | (refine SeqS.take3 (v := ?_) (by first | assumption | trivial) (by kernel_rfl) (by decide +kernel) (by decide +kernel) (Or.inl ⟨by rfl, ?_⟩) ?_
               rotate_left
               focus
                 intro w' hb'
                 have d0 : w'.cell? ⟨X, 2, none⟩ = some (.int .u64 o.N) := (hb'.1.cell 2).trans h2
                 go_simp
                 with_reducible rfl
               simp only [Act.put, List.setIfInBounds_toArray, List.set_cons_zero, List.set_cons_succ])
            | (refine SeqS.take3 (v := ?_) (by first | assumption | trivial) (by kernel_rfl) (by decide +kernel) (by decide +kernel) (Or.inl ⟨by rfl, ?_⟩) ?_
               rotate_left
               focus
                 intro w' hb'
                 have d0 : w'.cell? ⟨X, 3, none⟩ = some (.slice o.ba o.bn o.bc) := (hb'.1.cell 3).trans h3
                 go_simp
                 with_reducible rfl
               simp only [Act.put, List.setIfInBounds_toArray, List.set_cons_zero, List.set_cons_succ])
            | (refine SeqS.take3 (v := ?_) (by first | assumption | trivial) (by kernel_rfl) (by decide +kernel) (by decide +kernel) (Or.inl ⟨by rfl, ?_⟩) ?_
               rotate_left
               focus
                 intro w' hb'
                 have d0 : w'.cell? ⟨X, 36, none⟩ = some (.slice o.la o.ln o.lc) := (hb'.1.cell 36).trans h36
                 go_simp
                 with_reducible rfl
               simp only [Act.put, List.setIfInBounds_toArray, List.set_cons_zero, List.set_cons_succ])
            | (refine SeqS.take3 (v := ?_) (by first | assumption | trivial) (by kernel_rfl) (by decide +kernel) (by decide +kernel) (Or.inl ⟨by rfl, ?_⟩) ?_
               rotate_left
               focus
                 intro w' hb'
                 have f0 := hb'.2.string 27 9 5 Try.underlying27 Try.underlying5 Try.underlying9
                 go_simp
                 with_reducible rfl
               simp only [Act.put, List.setIfInBounds_toArray, List.set_cons_zero, List.set_cons_succ])
            | (refine SeqS.take3 (v := undef) (by first | assumption | trivial) (by kernel_rfl) (by decide +kernel) (by decide +kernel) (Or.inr ⟨by rfl, rfl⟩) ?_
               simp only [Act.put, List.setIfInBounds_toArray, List.set_cons_zero, List.set_cons_succ]))
          refine SeqS.alone (by decide +kernel) (by rfl) (fun K hK => ?_)
          go_simp
          have hc := pBytes_any (o.bn : Int) R8
          rw [hnH.out, q5, q6] at hc
          dsimp only at hc
          refine hc.mono ?_
          rintro q w9 ⟨yb, yc, rfl, yo, _, R9, m9⟩
          have S9 : Blk w9 X 37 C ∧ Ints .u8 w9 o.ba o.bn o.bc o.bs := ⟨(m9.2 X S8.1.lt nX).trans S8.1, ints_still S8.2 m9 (fun x hx h0 hf => by have := hbin x hx h0; have := hFl _ hf; omega)⟩
          have B9 := B8.trans (m9.below hFl B8.size)
          have J9 : Ints .u8 w9 yb o.bn yc o.bs := by
            obtain ⟨a5, c5, hv, hi⟩ := Ints.of_owns yo
            injection hv with e1 _ e2
            subst e1; subst e2
            exact hi
          have f9 := J9.string 27 9 5 Try.underlying27 Try.underlying5 Try.underlying9
          clear hc S8 R8 B8 m9 yo
          go_simp
          refine hK _ _ S9 ?_
          clear hK K
          refine SeqS.alone (by decide +kernel) (by rfl) (fun K hK => ?_)
          go_simp
          refine hK _ _ S9 ?_
          clear hK K f9 J9
          repeat (first
            | (refine SeqS.take (v := .agg (I).toArray) (by first | assumption | trivial) (by kernel_rfl) (by decide +kernel) (by decide +kernel) (yields_part (by rfl) 34 (.tmp 84) rfl rfl (fun w' h => ir w' h.1) (hIid)) ?_
               simp only [Act.put, List.setIfInBounds_toArray, List.set_cons_zero, List.set_cons_succ])
            | (refine SeqS.take (v := ?_) (by first | assumption | trivial) (by kernel_rfl) (by decide +kernel) (by decide +kernel) (Or.inl ⟨by rfl, ?_⟩) ?_
               rotate_left
               focus
                 intro w' hb'
                 go_simp
                 with_reducible rfl
               simp only [Act.put, List.setIfInBounds_toArray, List.set_cons_zero, List.set_cons_succ])
            | (refine SeqS.take (v := ?_) (by first | assumption | trivial) (by kernel_rfl) (by decide +kernel) (by decide +kernel) (Or.inl ⟨by rfl, ?_⟩) ?_
               rotate_left
               focus
                 intro w' hb'
                 have d0 : w'.cell? ⟨X, 2, none⟩ = some (.int .u64 o.N) := (hb'.1.cell 2).trans h2
                 go_simp
                 with_reducible rfl
               simp only [Act.put, List.setIfInBounds_toArray, List.set_cons_zero, List.set_cons_succ])
            | (refine SeqS.take (v := ?_) (by first | assumption | trivial) (by kernel_rfl) (by decide +kernel) (by decide +kernel) (Or.inl ⟨by rfl, ?_⟩) ?_
               rotate_left
               focus
                 intro w' hb'
                 have d0 : w'.cell? ⟨X, 3, none⟩ = some (.slice o.ba o.bn o.bc) := (hb'.1.cell 3).trans h3
                 go_simp
                 with_reducible rfl
               simp only [Act.put, List.setIfInBounds_toArray, List.set_cons_zero, List.set_cons_succ])
            | (refine SeqS.take (v := ?_) (by first | assumption | trivial) (by kernel_rfl) (by decide +kernel) (by decide +kernel) (Or.inl ⟨by rfl, ?_⟩) ?_
               rotate_left
               focus
                 intro w' hb'
                 have d0 : w'.cell? ⟨X, 36, none⟩ = some (.slice o.la o.ln o.lc) := (hb'.1.cell 36).trans h36
                 go_simp
                 with_reducible rfl
               simp only [Act.put, List.setIfInBounds_toArray, List.set_cons_zero, List.set_cons_succ])
            | (refine SeqS.take (v := ?_) (by first | assumption | trivial) (by kernel_rfl) (by decide +kernel) (by decide +kernel) (Or.inl ⟨by rfl, ?_⟩) ?_
               rotate_left
               focus
                 intro w' hb'
                 have f0 := hb'.2.string 27 9 5 Try.underlying27 Try.underlying5 Try.underlying9
                 go_simp
                 with_reducible rfl
               simp only [Act.put, List.setIfInBounds_toArray, List.set_cons_zero, List.set_cons_succ])
            | (refine SeqS.take (v := undef) (by first | assumption | trivial) (by kernel_rfl) (by decide +kernel) (by decide +kernel) (Or.inr ⟨by rfl, rfl⟩) ?_
               simp only [Act.put, List.setIfInBounds_toArray, List.set_cons_zero, List.set_cons_succ])
            | (refine SeqS.take1 (v := .agg (I).toArray) (by first | assumption | trivial) (by kernel_rfl) (by decide +kernel) (by decide +kernel) (yields_part (by rfl) 34 (.tmp 84) rfl rfl (fun w' h => ir w' h.1) (hIid)) ?_
               simp only [Act.put, List.setIfInBounds_toArray, List.set_cons_zero, List.set_cons_succ])
            | (refine SeqS.take1 (v := ?_) (by first | assumption | trivial) (by kernel_rfl) (by decide +kernel) (by decide +kernel) (Or.inl ⟨by rfl, ?_⟩) ?_
               rotate_left
               focus
                 intro w' hb'
                 go_simp
                 with_reducible rfl
               simp only [Act.put, List.setIfInBounds_toArray, List.set_cons_zero, List.set_cons_succ])
            | (refine SeqS.take1 (v := ?_) (by first | assumption | trivial) (by kernel_rfl) (by decide +kernel) (by decide +kernel) (Or.inl ⟨by rfl, ?_⟩) ?_
               rotate_left
               focus
                 intro w' hb'
                 have d0 : w'.cell? ⟨X, 2, none⟩ = some (.int .u64 o.N) := (hb'.1.cell 2).trans h2
                 go_simp
                 with_reducible rfl
               simp only [Act.put, List.setIfInBounds_toArray, List.set_cons_zero, List.set_cons_succ])
            | (refine SeqS.take1 (v := ?_) (by first | assumption | trivial) (by kernel_rfl) (by decide +kernel) (by decide +kernel) (Or.inl ⟨by rfl, ?_⟩) ?_
               rotate_left
               focus
                 intro w' hb'
                 have d0 : w'.cell? ⟨X, 3, none⟩ = some (.slice o.ba o.bn o.bc) := (hb'.1.cell 3).trans h3
                 go_simp
                 with_reducible rfl
               simp only [Act.put, List.setIfInBounds_toArray, List.set_cons_zero, List.set_cons_succ])
            | (refine SeqS.take1 (v := ?_) (by first | assumption | trivial) (by kernel_rfl) (by decide +kernel) (by decide +kernel) (Or.inl ⟨by rfl, ?_⟩) ?_
               rotate_left
               focus
                 intro w' hb'
                 have d0 : w'.cell? ⟨X, 36, none⟩ = some (.slice o.la o.ln o.lc) := (hb'.1.cell 36).trans h36
                 go_simp
                 with_reducible rfl
               simp only [Act.put, List.setIfInBounds_toArray, List.set_cons_zero, List.set_cons_succ])
            | (refine SeqS.take1 (v := ?_) (by first | assumption | trivial) (by kernel_rfl) (by decide +kernel) (by decide +kernel) (Or.inl ⟨by rfl, ?_⟩) ?_
               rotate_left
               focus
                 intro w' hb'
                 have f0 := hb'.2.string 27 9 5 Try.underlying27 Try.underlying5 Try.underlying9
                 go_simp
                 with_reducible rfl
               simp only [Act.put, List.setIfInBounds_toArray, List.set_cons_zero, List.set_cons_succ])
            | (refine SeqS.take1 (v := undef) (by first | assumption | trivial) (by kernel_rfl) (by decide +kernel) (by decide +kernel) (Or.inr ⟨by rfl, rfl⟩) ?_
               simp only [Act.put, List.setIfInBounds_toArray, List.set_cons_zero, List.set_cons_succ])
            | (refine SeqS.take2 (v := .agg (I).toArray) (by first | assumption | trivial) (by kernel_rfl) (by decide +kernel) (by decide +kernel) (yields_part (by rfl) 34 (.tmp 84) rfl rfl (fun w' h => ir w' h.1) (hIid)) ?_
               simp only [Act.put, List.setIfInBounds_toArray, List.set_cons_zero, List.set_cons_succ])
            | (refine SeqS.take2 (v := ?_) (by first | assumption | trivial) (by kernel_rfl) (by decide +kernel) (by decide +kernel) (Or.inl ⟨by rfl, ?_⟩) ?_
               rotate_left
               focus
                 intro w' hb'
                 go_simp
                 with_reducible rfl
               simp only [Act.put, List.setIfInBounds_toArray, List.set_cons_zero, List.set_cons_succ])
            | (refine SeqS.take2 (v := ?_) (by first | assumption | trivial) (by kernel_rfl) (by decide +kernel) (by decide +kernel) (Or.inl ⟨by rfl, ?_⟩) ?_
               rotate_left
               focus
                 intro w' hb'
                 have d0 : w'.cell? ⟨X, 2, none⟩ = some (.int .u64 o.N) := (hb'.1.cell 2).trans h2
                 go_simp
                 with_reducible rfl
               simp only [Act.put, List.setIfInBounds_toArray, List.set_cons_zero, List.set_cons_succ])
            | (refine SeqS.take2 (v := ?_) (by first | assumption | trivial) (by kernel_rfl) (by decide +kernel) (by decide +kernel) (Or.inl ⟨by rfl, ?_⟩) ?_
               rotate_left
               focus
                 intro w' hb'
                 have d0 : w'.cell? ⟨X, 3, none⟩ = some (.slice o.ba o.bn o.bc) := (hb'.1.cell 3).trans h3
                 go_simp
                 with_reducible rfl
               simp only [Act.put, List.setIfInBounds_toArray, List.set_cons_zero, List.set_cons_succ])
            | (refine SeqS.take2 (v := ?_) (by first | assumption | trivial) (by kernel_rfl) (by decide +kernel) (by decide +kernel) (Or.inl ⟨by rfl, ?_⟩) ?_
               rotate_left
               focus
                 intro w' hb'
                 have d0 : w'.cell? ⟨X, 36, none⟩ = some (.slice o.la o.ln o.lc) := (hb'.1.cell 36).trans h36
                 go_simp
                 with_reducible rfl
               simp only [Act.put, List.setIfInBounds_toArray, List.set_cons_zero, List.set_cons_succ])
            | (refine SeqS.take2 (v := ?_) (by first | assumption | trivial) (by kernel_rfl) (by decide +kernel) (by decide +kernel) (Or.inl ⟨by rfl, ?_⟩) ?_
               rotate_left
               focus
                 intro w' hb'
                 have f0 := hb'.2.string 27 9 5 Try.underlying27 Try.underlying5 Try.underlying9
                 go_simp
                 with_reducible rfl
               simp only [Act.put, List.setIfInBounds_toArray, List.set_cons_zero, List.set_cons_succ])
            | (refine SeqS.take2 (v := undef) (by first | assumption | trivial) (by kernel_rfl) (by decide +kernel) (by decide +kernel) (Or.inr ⟨by rfl, rfl⟩) ?_
               simp only [Act.put, List.setIfInBounds_toArray, List.set_cons_zero, List.set_cons_succ])
            | (refine SeqS.take3 (v := .agg (I).toArray) (by first | assumption | trivial) (by kernel_rfl) (by decide +kernel) (by decide +kernel) (yields_part (by rfl) 34 (.tmp 84) rfl rfl (fun w' h => ir w' h.1) (hIid)) ?_
               simp only [Act.put, List.setIfInBounds_toArray, List.set_cons_zero, List.set_cons_succ])
            | (refine SeqS.take3 (v := ?_) (by first | assumption | trivial) (by kernel_rfl) (by decide +kernel) (by decide +kernel) (Or.inl ⟨by rfl, ?_⟩) ?_
               rotate_left
               focus
                 intro w' hb'
                 go_simp
                 with_reducible rfl
               simp only [Act.put, List.setIfInBounds_toArray, List.set_cons_zero, List.set_cons_succ])
            | (refine SeqS.take3 (v := ?_) (by first | assumption | trivial) (by kernel_rfl) (by decide +kernel) (by decide +kernel) (Or.inl ⟨by rfl, ?_⟩) ?_
               rotate_left
               focus
                 intro w' hb'
                 have d0 : w'.cell? ⟨X, 2, none⟩ = some (.int .u64 o.N) := (hb'.1.cell 2).trans h2
                 go_simp
                 with_reducible rfl
               simp only [Act.put, List.setIfInBounds_toArray, List.set_cons_zero, List.set_cons_succ])
            | (refine SeqS.take3 (v := ?_) (by first | assumption | trivial) (by kernel_rfl) (by decide +kernel) (by decide +kernel) (Or.inl ⟨by rfl, ?_⟩) ?_
               rotate_left
               focus
                 intro w' hb'
                 have d0 : w'.cell? ⟨X, 3, none⟩ = some (.slice o.ba o.bn o.bc) := (hb'.1.cell 3).trans h3
                 go_simp
                 with_reducible rfl
               simp only [Act.put, List.setIfInBounds_toArray, List.set_cons_zero, List.set_cons_succ])
            | (refine SeqS.take3 (v := ?_) (by first | assumption | trivial) (by kernel_rfl) (by decide +kernel) (by decide +kernel) (Or.inl ⟨by rfl, ?_⟩) ?_
               rotate_left
               focus
                 intro w' hb'
                 have d0 : w'.cell? ⟨X, 36, none⟩ = some (.slice o.la o.ln o.lc) := (hb'.1.cell 36).trans h36
                 go_simp
                 with_reducible rfl
               simp only [Act.put, List.setIfInBounds_toArray, List.set_cons_zero, List.set_cons_succ])
            | (refine SeqS.take3 (v := ?_) (by first | assumption | trivial) (by kernel_rfl) (by decide +kernel) (by decide +kernel) (Or.inl ⟨by rfl, ?_⟩) ?_
               rotate_left
               focus
                 intro w' hb'
                 have f0 := hb'.2.string 27 9 5 Try.underlying27 Try.underlying5 Try.underlying9
                 go_simp
                 with_reducible rfl
               simp only [Act.put, List.setIfInBounds_toArray, List.set_cons_zero, List.set_cons_succ])
            | (refine SeqS.take3 (v := undef) (by first | assumption | trivial) (by kernel_rfl) (by decide +kernel) (by decide +kernel) (Or.inr ⟨by rfl, rfl⟩) ?_
               simp only [Act.put, List.setIfInBounds_toArray, List.set_cons_zero, List.set_cons_succ]))
          refine SeqS.alone (by decide +kernel) (by rfl) (fun K hK => ?_)
          go_simp
          have hc := pCount_any 2 5000 (by decide) R9
          rw [q7] at hc
          dsimp only at hc
          refine hc.mono ?_
          rintro q v10 ⟨rfl, R10, m10⟩
          have S10 : Blk v10 X 37 C ∧ Ints .u8 v10 o.ba o.bn o.bc o.bs := ⟨(m10.2 X S9.1.lt nX).trans S9.1, ints_still S9.2 m10 (fun x hx h0 hf => by have := hbin x hx h0; have := hFl _ hf; omega)⟩
          have B10 := B9.trans (m10.below hFl B9.size)
          clear hc S9 R9 B9 m10
          go_simp
          refine hK _ _ S10 ?_
          clear hK K
          repeat (first
            | (refine SeqS.take (v := .agg (I).toArray) (by first | assumption | trivial) (by kernel_rfl) (by decide +kernel) (by decide +kernel) (yields_part (by rfl) 34 (.tmp 84) rfl rfl (fun w' h => ir w' h.1) (hIid)) ?_
               simp only [Act.put, List.setIfInBounds_toArray, List.set_cons_zero, List.set_cons_succ])
            | (refine SeqS.take (v := ?_) (by first | assumption | trivial) (by kernel_rfl) (by decide +kernel) (by decide +kernel) (Or.inl ⟨by rfl, ?_⟩) ?_
               rotate_left
               focus
                 intro w' hb'
                 go_simp
                 with_reducible rfl
               simp only [Act.put, List.setIfInBounds_toArray, List.set_cons_zero, List.set_cons_succ])
            | (refine SeqS.take (v := ?_) (by first | assumption | trivial) (by kernel_rfl) (by decide +kernel) (by decide +kernel) (Or.inl ⟨by rfl, ?_⟩) ?_
               rotate_left
               focus
                 intro w' hb'
                 have d0 : w'.cell? ⟨X, 2, none⟩ = some (.int .u64 o.N) := (hb'.1.cell 2).trans h2
                 go_simp
                 with_reducible rfl
               simp only [Act.put, List.setIfInBounds_toArray, List.set_cons_zero, List.set_cons_succ])
            | (refine SeqS.take (v := ?_) (by first | assumption | trivial) (by kernel_rfl) (by decide +kernel) (by decide +kernel) (Or.inl ⟨by rfl, ?_⟩) ?_
               rotate_left
               focus
                 intro w' hb'
                 have d0 : w'.cell? ⟨X, 3, none⟩ = some (.slice o.ba o.bn o.bc) := (hb'.1.cell 3).trans h3
                 go_simp
                 with_reducible rfl
               simp only [Act.put, List.setIfInBounds_toArray, List.set_cons_zero, List.set_cons_succ])
            | (refine SeqS.take (v := ?_) (by first | assumption | trivial) (by kernel_rfl) (by decide +kernel) (by decide +kernel) (Or.inl ⟨by rfl, ?_⟩) ?_
               rotate_left
               focus
                 intro w' hb'
                 have d0 : w'.cell? ⟨X, 36, none⟩ = some (.slice o.la o.ln o.lc) := (hb'.1.cell 36).trans h36
                 go_simp
                 with_reducible rfl
               simp only [Act.put, List.setIfInBounds_toArray, List.set_cons_zero, List.set_cons_succ])
            | (refine SeqS.take (v := ?_) (by first | assumption | trivial) (by kernel_rfl) (by decide +kernel) (by decide +kernel) (Or.inl ⟨by rfl, ?_⟩) ?_
               rotate_left
               focus
                 intro w' hb'
                 have f0 := hb'.2.string 27 9 5 Try.underlying27 Try.underlying5 Try.underlying9
                 go_simp
                 with_reducible rfl
               simp only [Act.put, List.setIfInBounds_toArray, List.set_cons_zero, List.set_cons_succ])
            | (refine SeqS.take (v := undef) (by first | assumption | trivial) (by kernel_rfl) (by decide +kernel) (by decide +kernel) (Or.inr ⟨by rfl, rfl⟩) ?_
               simp only [Act.put, List.setIfInBounds_toArray, List.set_cons_zero, List.set_cons_succ])
            | (refine SeqS.take1 (v := .agg (I).toArray) (by first | assumption | trivial) (by kernel_rfl) (by decide +kernel) (by decide +kernel) (yields_part (by rfl) 34 (.tmp 84) rfl rfl (fun w' h => ir w' h.1) (hIid)) ?_
               simp only [Act.put, List.setIfInBounds_toArray, List.set_cons_zero, List.set_cons_succ])
            | (refine SeqS.take1 (v := ?_) (by first | assumption | trivial) (by kernel_rfl) (by decide +kernel) (by decide +kernel) (Or.inl ⟨by rfl, ?_⟩) ?_
               rotate_left
               focus
                 intro w' hb'
                 go_simp
                 with_reducible rfl
               simp only [Act.put, List.setIfInBounds_toArray, List.set_cons_zero, List.set_cons_succ])
            | (refine SeqS.take1 (v := ?_) (by first | assumption | trivial) (by kernel_rfl) (by decide +kernel) (by decide +kernel) (Or.inl ⟨by rfl, ?_⟩) ?_
               rotate_left
               focus
                 intro w' hb'
                 have d0 : w'.cell? ⟨X, 2, none⟩ = some (.int .u64 o.N) := (hb'.1.cell 2).trans h2
                 go_simp
                 with_reducible rfl
               simp only [Act.put, List.setIfInBounds_toArray, List.set_cons_zero, List.set_cons_succ])
            | (refine SeqS.take1 (v := ?_) (by first | assumption | trivial) (by kernel_rfl) (by decide +kernel) (by decide +kernel) (Or.inl ⟨by rfl, ?_⟩) ?_
               rotate_left
               focus
                 intro w' hb'
                 have d0 : w'.cell? ⟨X, 3, none⟩ = some (.slice o.ba o.bn o.bc) := (hb'.1.cell 3).trans h3
                 go_simp
                 with_reducible rfl
               simp only [Act.put, List.setIfInBounds_toArray, List.set_cons_zero, List.set_cons_succ])
            | (refine SeqS.take1 (v := ?_) (by first | assumption | trivial) (by kernel_rfl) (by decide +kernel) (by decide +kernel) (Or.inl ⟨by rfl, ?_⟩) ?_
               rotate_left
               focus
                 intro w' hb'
                 have d0 : w'.cell? ⟨X, 36, none⟩ = some (.slice o.la o.ln o.lc) := (hb'.1.cell 36).trans h36
                 go_simp
                 with_reducible rfl
               simp only [Act.put, List.setIfInBounds_toArray, List.set_cons_zero, List.set_cons_succ])
            | (refine SeqS.take1 (v := ?_) (by first | assumption | trivial) (by kernel_rfl) (by decide +kernel) (by decide +kernel) (Or.inl ⟨by rfl, ?_⟩) ?_
               rotate_left
               focus
                 intro w' hb'
                 have f0 := hb'.2.string 27 9 5 Try.underlying27 Try.underlying5 Try.underlying9
                 go_simp
                 with_reducible rfl
               simp only [Act.put, List.setIfInBounds_toArray, List.set_cons_zero, List.set_cons_succ])
            | (refine SeqS.take1 (v := undef) (by first | assumption | trivial) (by kernel_rfl) (by decide +kernel) (by decide +kernel) (Or.inr ⟨by rfl, rfl⟩) ?_
               simp only [Act.put, List.setIfInBounds_toArray, List.set_cons_zero, List.set_cons_succ])
            | (refine SeqS.take2 (v := .agg (I).toArray) (by first | assumption | trivial) (by kernel_rfl) (by decide +kernel) (by decide +kernel) (yields_part (by rfl) 34 (.tmp 84) rfl rfl (fun w' h => ir w' h.1) (hIid)) ?_
               simp only [Act.put, List.setIfInBounds_toArray, List.set_cons_zero, List.set_cons_succ])
            | (refine SeqS.take2 (v := ?_) (by first | assumption | trivial) (by kernel_rfl) (by decide +kernel) (by decide +kernel) (Or.inl ⟨by rfl, ?_⟩) ?_
               rotate_left
               focus
                 intro w' hb'
                 go_simp
                 with_reducible rfl
               simp only [Act.put, List.setIfInBounds_toArray, List.set_cons_zero, List.set_cons_succ])
            | (refine SeqS.take2 (v := ?_) (by first | assumption | trivial) (by kernel_rfl) (by decide +kernel) (by decide +kernel) (Or.inl ⟨by rfl, ?_⟩) ?_
               rotate_left
               focus
                 intro w' hb'
                 have d0 : w'.cell? ⟨X, 2, none⟩ = some (.int .u64 o.N) := (hb'.1.cell 2).trans h2
                 go_simp
                 with_reducible rfl
               simp only [Act.put, List.setIfInBounds_toArray, List.set_cons_zero, List.set_cons_succ])
            | (refine SeqS.take2 (v := ?_) (by first | assumption | trivial) (by kernel_rfl) (by decide +kernel) (by decide +kernel) (Or.inl ⟨by rfl, ?_⟩) ?_
               rotate_left
               focus
                 intro w' hb'
                 have d0 : w'.cell? ⟨X, 3, none⟩ = some (.slice o.ba o.bn o.bc) := (hb'.1.cell 3).trans h3
                 go_simp
                 with_reducible rfl
               simp only [Act.put, List.setIfInBounds_toArray, List.set_cons_zero, List.set_cons_succ])
            | (refine SeqS.take2 (v := ?_) (by first | assumption | trivial) (by kernel_rfl) (by decide +kernel) (by decide +kernel) (Or.inl ⟨by rfl, ?_⟩) ?_
               rotate_left
               focus
                 intro w' hb'
                 have d0 : w'.cell? ⟨X, 36, none⟩ = some (.slice o.la o.ln o.lc) := (hb'.1.cell 36).trans h36
                 go_simp
                 with_reducible rfl
               simp only [Act.put, List.setIfInBounds_toArray, List.set_cons_zero, List.set_cons_succ])
            | (refine SeqS.take2 (v := ?_) (by first | assumption | trivial) (by kernel_rfl) (by decide +kernel) (by decide +kernel) (Or.inl ⟨by rfl, ?_⟩) ?_
               rotate_left
               focus
                 intro w' hb'
                 have f0 := hb'.2.string 27 9 5 Try.underlying27 Try.underlying5 Try.underlying9
                 go_simp
                 with_reducible rfl
               simp only [Act.put, List.setIfInBounds_toArray, List.set_cons_zero, List.set_cons_succ])
            | (refine SeqS.take2 (v := undef) (by first | assumption | trivial) (by kernel_rfl) (by decide +kernel) (by decide +kernel) (Or.inr ⟨by rfl, rfl⟩) ?_
               simp only [Act.put, List.setIfInBounds_toArray, List.set_cons_zero, List.set_cons_succ])
            | (refine SeqS.take3 (v := .agg (I).toArray) (by first | assumption | trivial) (by kernel_rfl) (by decide +kernel) (by decide +kernel) (yields_part (by rfl) 34 (.tmp 84) rfl rfl (fun w' h => ir w' h.1) (hIid)) ?_
               simp only [Act.put, List.setIfInBounds_toArray, List.set_cons_zero, List.set_cons_succ])
            | (refine SeqS.take3 (v := ?_) (by first | assumption | trivial) (by kernel_rfl) (by decide +kernel) (by decide +kernel) (Or.inl ⟨by rfl, ?_⟩) ?_
               rotate_left
               focus
                 intro w' hb'
                 go_simp
                 with_reducible rfl
               simp only [Act.put, List.setIfInBounds_toArray, List.set_cons_zero, List.set_cons_succ])
            | (refine SeqS.take3 (v := ?_) (by first | assumption | trivial) (by kernel_rfl) (by decide +kernel) (by decide +kernel) (Or.inl ⟨by rfl, ?_⟩) ?_
               rotate_left
               focus
                 intro w' hb'
                 have d0 : w'.cell? ⟨X, 2, none⟩ = some (.int .u64 o.N) := (hb'.1.cell 2).trans h2
                 go_simp
                 with_reducible rfl
               simp only [Act.put, List.setIfInBounds_toArray, List.set_cons_zero, List.set_cons_succ])
            | (refine SeqS.take3 (v := ?_) (by first | assumption | trivial) (by kernel_rfl) (by decide +kernel) (by decide +kernel) (Or.inl ⟨by rfl, ?_⟩) ?_
               rotate_left
               focus
                 intro w' hb'
                 have d0 : w'.cell? ⟨X, 3, none⟩ = some (.slice o.ba o.bn o.bc) := (hb'.1.cell 3).trans h3
                 go_simp
                 with_reducible rfl
               simp only [Act.put, List.setIfInBounds_toArray, List.set_cons_zero, List.set_cons_succ])
            | (refine SeqS.take3 (v := ?_) (by first | assumption | trivial) (by kernel_rfl) (by decide +kernel) (by decide +kernel) (Or.inl ⟨by rfl, ?_⟩) ?_
               rotate_left
               focus
                 intro w' hb'
                 have d0 : w'.cell? ⟨X, 36, none⟩ = some (.slice o.la o.ln o.lc) := (hb'.1.cell 36).trans h36
                 go_simp
                 with_reducible rfl
               simp only [Act.put, List.setIfInBounds_toArray, List.set_cons_zero, List.set_cons_succ])
            | (refine SeqS.take3 (v := ?_) (by first | assumption | trivial) (by kernel_rfl) (by decide +kernel) (by decide +kernel) (Or.inl ⟨by rfl, ?_⟩) ?_
               rotate_left
               focus
                 intro w' hb'
                 have f0 := hb'.2.string 27 9 5 Try.underlying27 Try.underlying5 Try.underlying9
                 go_simp
                 with_reducible rfl
               simp only [Act.put, List.setIfInBounds_toArray, List.set_cons_zero, List.set_cons_succ])
            | (refine SeqS.take3 (v := undef) (by first | assumption | trivial) (by kernel_rfl) (by decide +kernel) (by decide +kernel) (Or.inr ⟨by rfl, rfl⟩) ?_
               simp only [Act.put, List.setIfInBounds_toArray, List.set_cons_zero, List.set_cons_succ]))
          refine SeqS.alone (by decide +kernel) (by rfl) (fun K hK => ?_)
          go_simp
          have hc := pIds_any (o.ln : Int) R10
          rw [hnH.out, q8, q9] at hc
          dsimp only at hc
          refine hc.mono ?_
          rintro q v11 ⟨zb, zc, rfl, zI, R11, m11⟩
          have S11 : Blk v11 X 37 C ∧ Ints .u8 v11 o.ba o.bn o.bc o.bs := ⟨(m11.2 X S10.1.lt nX).trans S10.1, ints_still S10.2 m11 (fun x hx h0 hf => by have := hbin x hx h0; have := hFl _ hf; omega)⟩
          have B11 := B10.trans (m11.below hFl B10.size)
          clear hc S10 R10 B10 m11
          go_simp
          refine hK _ _ S11 ?_
          clear hK K
          repeat (first
            | (refine SeqS.take (v := .agg (I).toArray) (by first | assumption | trivial) (by kernel_rfl) (by decide +kernel) (by decide +kernel) (yields_part (by rfl) 34 (.tmp 84) rfl rfl (fun w' h => ir w' h.1) (hIid)) ?_
               simp only [Act.put, List.setIfInBounds_toArray, List.set_cons_zero, List.set_cons_succ])
            | (refine SeqS.take (v := ?_) (by first | assumption | trivial) (by kernel_rfl) (by decide +kernel) (by decide +kernel) (Or.inl ⟨by rfl, ?_⟩) ?_
               rotate_left
               focus
                 intro w' hb'
                 go_simp
                 with_reducible rfl
               simp only [Act.put, List.setIfInBounds_toArray, List.set_cons_zero, List.set_cons_succ])
            | (refine SeqS.take (v := ?_) (by first | assumption | trivial) (by kernel_rfl) (by decide +kernel) (by decide +kernel) (Or.inl ⟨by rfl, ?_⟩) ?_
               rotate_left
               focus
                 intro w' hb'
                 have d0 : w'.cell? ⟨X, 2, none⟩ = some (.int .u64 o.N) := (hb'.1.cell 2).trans h2
                 go_simp
                 with_reducible rfl
               simp only [Act.put, List.setIfInBounds_toArray, List.set_cons_zero, List.set_cons_succ])
            | (refine SeqS.take (v := ?_) (by first | assumption | trivial) (by kernel_rfl) (by decide +kernel) (by decide +kernel) (Or.inl ⟨by rfl, ?_⟩) ?_
               rotate_left
               focus
                 intro w' hb'
                 have d0 : w'.cell? ⟨X, 3, none⟩ = some (.slice o.ba o.bn o.bc) := (hb'.1.cell 3).trans h3
                 go_simp
                 with_reducible rfl
               simp only [Act.put, List.setIfInBounds_toArray, List.set_cons_zero, List.set_cons_succ])
            | (refine SeqS.take (v := ?_) (by first | assumption | trivial) (by kernel_rfl) (by decide +kernel) (by decide +kernel) (Or.inl ⟨by rfl, ?_⟩) ?_
               rotate_left
               focus
                 intro w' hb'
                 have d0 : w'.cell? ⟨X, 36, none⟩ = some (.slice o.la o.ln o.lc) := (hb'.1.cell 36).trans h36
                 go_simp
                 with_reducible rfl
               simp only [Act.put, List.setIfInBounds_toArray, List.set_cons_zero, List.set_cons_succ])
            | (refine SeqS.take (v := ?_) (by first | assumption | trivial) (by kernel_rfl) (by decide +kernel) (by decide +kernel) (Or.inl ⟨by rfl, ?_⟩) ?_
               rotate_left
               focus
                 intro w' hb'
                 have f0 := hb'.2.string 27 9 5 Try.underlying27 Try.underlying5 Try.underlying9
                 go_simp
                 with_reducible rfl
               simp only [Act.put, List.setIfInBounds_toArray, List.set_cons_zero, List.set_cons_succ])
            | (refine SeqS.take (v := undef) (by first | assumption | trivial) (by kernel_rfl) (by decide +kernel) (by decide +kernel) (Or.inr ⟨by rfl, rfl⟩) ?_
               simp only [Act.put, List.setIfInBounds_toArray, List.set_cons_zero, List.set_cons_succ])
            | (refine SeqS.take1 (v := .agg (I).toArray) (by first | assumption | trivial) (by kernel_rfl) (by decide +kernel) (by decide +kernel) (yields_part (by rfl) 34 (.tmp 84) rfl rfl (fun w' h => ir w' h.1) (hIid)) ?_
               simp only [Act.put, List.setIfInBounds_toArray, List.set_cons_zero, List.set_cons_succ])
            | (refine SeqS.take1 (v := ?_) (by first | assumption | trivial) (by kernel_rfl) (by decide +kernel) (by decide +kernel) (Or.inl ⟨by rfl, ?_⟩) ?_
               rotate_left
               focus
                 intro w' hb'
                 go_simp
                 with_reducible rfl
               simp only [Act.put, List.setIfInBounds_toArray, List.set_cons_zero, List.set_cons_succ])
            | (refine SeqS.take1 (v := ?_) (by first | assumption | trivial) (by kernel_rfl) (by decide +kernel) (by decide +kernel) (Or.inl ⟨by rfl, ?_⟩) ?_
               rotate_left
               focus
                 intro w' hb'
                 have d0 : w'.cell? ⟨X, 2, none⟩ = some (.int .u64 o.N) := (hb'.1.cell 2).trans h2
                 go_simp
                 with_reducible rfl
               simp only [Act.put, List.setIfInBounds_toArray, List.set_cons_zero, List.set_cons_succ])
            | (refine SeqS.take1 (v := ?_) (by first | assumption | trivial) (by kernel_rfl) (by decide +kernel) (by decide +kernel) (Or.inl ⟨by rfl, ?_⟩) ?_
               rotate_left
               focus
                 intro w' hb'
                 have d0 : w'.cell? ⟨X, 3, none⟩ = some (.slice o.ba o.bn o.bc) := (hb'.1.cell 3).trans h3
                 go_simp
                 with_reducible rfl
               simp only [Act.put, List.setIfInBounds_toArray, List.set_cons_zero, List.set_cons_succ])
            | (refine SeqS.take1 (v := ?_) (by first | assumption | trivial) (by kernel_rfl) (by decide +kernel) (by decide +kernel) (Or.inl ⟨by rfl, ?_⟩) ?_
               rotate_left
               focus
                 intro w' hb'
                 have d0 : w'.cell? ⟨X, 36, none⟩ = some (.slice o.la o.ln o.lc) := (hb'.1.cell 36).trans h36
                 go_simp
                 with_reducible rfl
               simp only [Act.put, List.setIfInBounds_toArray, List.set_cons_zero, List.set_cons_succ])
            | (refine SeqS.take1 (v := ?_) (by first | assumption | trivial) (by kernel_rfl) (by decide +kernel) (by decide +kernel) (Or.inl ⟨by rfl, ?_⟩) ?_
               rotate_left
               focus
                 intro w' hb'
                 have f0 := hb'.2.string 27 9 5 Try.underlying27 Try.underlying5 Try.underlying9
                 go_simp
                 with_reducible rfl
               simp only [Act.put, List.setIfInBounds_toArray, List.set_cons_zero, List.set_cons_succ])
            | (refine SeqS.take1 (v := undef) (by first | assumption | trivial) (by kernel_rfl) (by decide +kernel) (by decide +kernel) (Or.inr ⟨by rfl, rfl⟩) ?_
               simp only [Act.put, List.setIfInBounds_toArray, List.set_cons_zero, List.set_cons_succ])
            | (refine SeqS.take2 (v := .agg (I).toArray) (by first | assumption | trivial) (by kernel_rfl) (by decide +kernel) (by decide +kernel) (yields_part (by rfl) 34 (.tmp 84) rfl rfl (fun w' h => ir w' h.1) (hIid)) ?_
               simp only [Act.put, List.setIfInBounds_toArray, List.set_cons_zero, List.set_cons_succ])
            | (refine SeqS.take2 (v := ?_) (by first | assumption | trivial) (by kernel_rfl) (by decide +kernel) (by decide +kernel) (Or.inl ⟨by rfl, ?_⟩) ?_
               rotate_left
               focus
                 intro w' hb'
                 go_simp
                 with_reducible rfl
               simp only [Act.put, List.setIfInBounds_toArray, List.set_cons_zero, List.set_cons_succ])
            | (refine SeqS.take2 (v := ?_) (by first | assumption | trivial) (by kernel_rfl) (by decide +kernel) (by decide +kernel) (Or.inl ⟨by rfl, ?_⟩) ?_
               rotate_left
               focus
                 intro w' hb'
                 have d0 : w'.cell? ⟨X, 2, none⟩ = some (.int .u64 o.N) := (hb'.1.cell 2).trans h2
                 go_simp
                 with_reducible rfl
               simp only [Act.put, List.setIfInBounds_toArray, List.set_cons_zero, List.set_cons_succ])
            | (refine SeqS.take2 (v := ?_) (by first | assumption | trivial) (by kernel_rfl) (by decide +kernel) (by decide +kernel) (Or.inl ⟨by rfl, ?_⟩) ?_
               rotate_left
               focus
                 intro w' hb'
                 have d0 : w'.cell? ⟨X, 3, none⟩ = some (.slice o.ba o.bn o.bc) := (hb'.1.cell 3).trans h3
                 go_simp
                 with_reducible rfl
               simp only [Act.put, List.setIfInBounds_toArray, List.set_cons_zero, List.set_cons_succ])
            | (refine SeqS.take2 (v := ?_) (by first | assumption | trivial) (by kernel_rfl) (by decide +kernel) (by decide +kernel) (Or.inl ⟨by rfl, ?_⟩) ?_
               rotate_left
               focus
                 intro w' hb'
                 have d0 : w'.cell? ⟨X, 36, none⟩ = some (.slice o.la o.ln o.lc) := (hb'.1.cell 36).trans h36
                 go_simp
                 with_reducible rfl
               simp only [Act.put, List.setIfInBounds_toArray, List.set_cons_zero, List.set_cons_succ])
            | (refine SeqS.take2 (v := ?_) (by first | assumption | trivial) (by kernel_rfl) (by decide +kernel) (by decide +kernel) (Or.inl ⟨by rfl, ?_⟩) ?_
               rotate_left
               focus
                 intro w' hb'
                 have f0 := hb'.2.string 27 9 5 Try.underlying27 Try.underlying5 Try.underlying9
                 go_simp
                 with_reducible rfl
               simp only [Act.put, List.setIfInBounds_toArray, List.set_cons_zero, List.set_cons_succ])
            | (refine SeqS.take2 (v := undef) (by first | assumption | trivial) (by kernel_rfl) (by decide +kernel) (by decide +kernel) (Or.inr ⟨by rfl, rfl⟩) ?_
               simp only [Act.put, List.setIfInBounds_toArray, List.set_cons_zero, List.set_cons_succ])
            | (refine SeqS.take3 (v := .agg (I).toArray) (by first | assumption | trivial) (by kernel_rfl) (by decide +kernel) (by decide +kernel) (yields_part (by rfl) 34 (.tmp 84) rfl rfl (fun w' h => ir w' h.1) (hIid)) ?_
               simp only [Act.put, List.setIfInBounds_toArray, List.set_cons_zero, List.set_cons_succ])
            | (refine SeqS.take3 (v := ?_) (by first | assumption | trivial) (by kernel_rfl) (by decide +kernel) (by decide +kernel) (Or.inl ⟨by rfl, ?_⟩) ?_
               rotate_left
               focus
                 intro w' hb'
                 go_simp
                 with_reducible rfl
               simp only [Act.put, List.setIfInBounds_toArray, List.set_cons_zero, List.set_cons_succ])
            | (refine SeqS.take3 (v := ?_) (by first | assumption | trivial) (by kernel_rfl) (by decide +kernel) (by decide +kernel) (Or.inl ⟨by rfl, ?_⟩) ?_
               rotate_left
               focus
                 intro w' hb'
                 have d0 : w'.cell? ⟨X, 2, none⟩ = some (.int .u64 o.N) := (hb'.1.cell 2).trans h2
                 go_simp
                 with_reducible rfl
               simp only [Act.put, List.setIfInBounds_toArray, List.set_cons_zero, List.set_cons_succ])
            | (refine SeqS.take3 (v := ?_) (by first | assumption | trivial) (by kernel_rfl) (by decide +kernel) (by decide +kernel) (Or.inl ⟨by rfl, ?_⟩) ?_
               rotate_left
               focus
                 intro w' hb'
                 have d0 : w'.cell? ⟨X, 3, none⟩ = some (.slice o.ba o.bn o.bc) := (hb'.1.cell 3).trans h3
                 go_simp
                 with_reducible rfl
               simp only [Act.put, List.setIfInBounds_toArray, List.set_cons_zero, List.set_cons_succ])
            | (refine SeqS.take3 (v := ?_) (by first | assumption | trivial) (by kernel_rfl) (by decide +kernel) (by decide +kernel) (Or.inl ⟨by rfl, ?_⟩) ?_
               rotate_left
               focus
                 intro w' hb'
                 have d0 : w'.cell? ⟨X, 36, none⟩ = some (.slice o.la o.ln o.lc) := (hb'.1.cell 36).trans h36
                 go_simp
                 with_reducible rfl
               simp only [Act.put, List.setIfInBounds_toArray, List.set_cons_zero, List.set_cons_succ])
            | (refine SeqS.take3 (v := ?_) (by first | assumption | trivial) (by kernel_rfl) (by decide +kernel) (by decide +kernel) (Or.inl ⟨by rfl, ?_⟩) ?_
               rotate_left
               focus
                 intro w' hb'
                 have f0 := hb'.2.string 27 9 5 Try.underlying27 Try.underlying5 Try.underlying9
                 go_simp
                 with_reducible rfl
               simp only [Act.put, List.setIfInBounds_toArray, List.set_cons_zero, List.set_cons_succ])
            | (refine SeqS.take3 (v := undef) (by first | assumption | trivial) (by kernel_rfl) (by decide +kernel) (by decide +kernel) (Or.inr ⟨by rfl, rfl⟩) ?_
               simp only [Act.put, List.setIfInBounds_toArray, List.set_cons_zero, List.set_cons_succ]))
          refine SeqS.alone (by decide +kernel) (by rfl) (fun K hK => ?_)
          go_simp
          refine (rSame_any zb o.la o.ln zc o.lc o.ls v11 zI (hkw.l.keep B11) (by omega)).mono ?_
          rintro q v12 ⟨rfl, b12⟩
          have S12 : Blk v12 X 37 C ∧ Ints .u8 v12 o.ba o.bn o.bc o.bs := ⟨S11.1.keep b12 S11.1.lt, S11.2.keep b12⟩
          have R12 := R11.keep (fun y hy => b12.block y (R11.lt y hy)) b12.size
          have B12 := B11.trans (b12.mono B11.size)
          clear S11 R11 B11 b12 zI
          go_simp
          refine hK _ _ S12 ?_
          clear hK K
          repeat (first
            | (refine SeqS.take (v := .agg (I).toArray) (by first | assumption | trivial) (by kernel_rfl) (by decide +kernel) (by decide +kernel) (yields_part (by rfl) 34 (.tmp 84) rfl rfl (fun w' h => ir w' h.1) (hIid)) ?_
               simp only [Act.put, List.setIfInBounds_toArray, List.set_cons_zero, List.set_cons_succ])
            | (refine SeqS.take (v := ?_) (by first | assumption | trivial) (by kernel_rfl) (by decide +kernel) (by decide +kernel) (Or.inl ⟨by rfl, ?_⟩) ?_
               rotate_left
               focus
                 intro w' hb'
                 go_simp
                 with_reducible rfl
               simp only [Act.put, List.setIfInBounds_toArray, List.set_cons_zero, List.set_cons_succ])
            | (refine SeqS.take (v := ?_) (by first | assumption | trivial) (by kernel_rfl) (by decide +kernel) (by decide +kernel) (Or.inl ⟨by rfl, ?_⟩) ?_
               rotate_left
               focus
                 intro w' hb'
                 have d0 : w'.cell? ⟨X, 2, none⟩ = some (.int .u64 o.N) := (hb'.1.cell 2).trans h2
                 go_simp
                 with_reducible rfl
               simp only [Act.put, List.setIfInBounds_toArray, List.set_cons_zero, List.set_cons_succ])
            | (refine SeqS.take (v := ?_) (by first | assumption | trivial) (by kernel_rfl) (by decide +kernel) (by decide +kernel) (Or.inl ⟨by rfl, ?_⟩) ?_
               rotate_left
               focus
                 intro w' hb'
                 have d0 : w'.cell? ⟨X, 3, none⟩ = some (.slice o.ba o.bn o.bc) := (hb'.1.cell 3).trans h3
                 go_simp
                 with_reducible rfl
               simp only [Act.put, List.setIfInBounds_toArray, List.set_cons_zero, List.set_cons_succ])
            | (refine SeqS.take (v := ?_) (by first | assumption | trivial) (by kernel_rfl) (by decide +kernel) (by decide +kernel) (Or.inl ⟨by rfl, ?_⟩) ?_
               rotate_left
               focus
                 intro w' hb'
                 have d0 : w'.cell? ⟨X, 36, none⟩ = some (.slice o.la o.ln o.lc) := (hb'.1.cell 36).trans h36
                 go_simp
                 with_reducible rfl
               simp only [Act.put, List.setIfInBounds_toArray, List.set_cons_zero, List.set_cons_succ])
            | (refine SeqS.take (v := ?_) (by first | assumption | trivial) (by kernel_rfl) (by decide +kernel) (by decide +kernel) (Or.inl ⟨by rfl, ?_⟩) ?_
               rotate_left
               focus
                 intro w' hb'
                 have f0 := hb'.2.string 27 9 5 Try.underlying27 Try.underlying5 Try.underlying9
                 go_simp
                 with_reducible rfl
               simp only [Act.put, List.setIfInBounds_toArray, List.set_cons_zero, List.set_cons_succ])
            | (refine SeqS.take (v := undef) (by first | assumption | trivial) (by kernel_rfl) (by decide +kernel) (by decide +kernel) (Or.inr ⟨by rfl, rfl⟩) ?_
               simp only [Act.put, List.setIfInBounds_toArray, List.set_cons_zero, List.set_cons_succ])
            | (refine SeqS.take1 (v := .agg (I).toArray) (by first | assumption | trivial) (by kernel_rfl) (by decide +kernel) (by decide +kernel) (yields_part (by rfl) 34 (.tmp 84) rfl rfl (fun w' h => ir w' h.1) (hIid)) ?_
               simp only [Act.put, List.setIfInBounds_toArray, List.set_cons_zero, List.set_cons_succ])
            | (refine SeqS.take1 (v := ?_) (by first | assumption | trivial) (by kernel_rfl) (by decide +kernel) (by decide +kernel) (Or.inl ⟨by rfl, ?_⟩) ?_
               rotate_left
               focus
                 intro w' hb'
                 go_simp
                 with_reducible rfl
               simp only [Act.put, List.setIfInBounds_toArray, List.set_cons_zero, List.set_cons_succ])
            | (refine SeqS.take1 (v := ?_) (by first | assumption | trivial) (by kernel_rfl) (by decide +kernel) (by decide +kernel) (Or.inl ⟨by rfl, ?_⟩) ?_
               rotate_left
               focus
                 intro w' hb'
                 have d0 : w'.cell? ⟨X, 2, none⟩ = some (.int .u64 o.N) := (hb'.1.cell 2).trans h2
                 go_simp
                 with_reducible rfl
               simp only [Act.put, List.setIfInBounds_toArray, List.set_cons_zero, List.set_cons_succ])
            | (refine SeqS.take1 (v := ?_) (by first | assumption | trivial) (by kernel_rfl) (by decide +kernel) (by decide +kernel) (Or.inl ⟨by rfl, ?_⟩) ?_
               rotate_left
               focus
                 intro w' hb'
                 have d0 : w'.cell? ⟨X, 3, none⟩ = some (.slice o.ba o.bn o.bc) := (hb'.1.cell 3).trans h3
                 go_simp
                 with_reducible rfl
               simp only [Act.put, List.setIfInBounds_toArray, List.set_cons_zero, List.set_cons_succ])
            | (refine SeqS.take1 (v := ?_) (by first | assumption | trivial) (by kernel_rfl) (by decide +kernel) (by decide +kernel) (Or.inl ⟨by rfl, ?_⟩) ?_
               rotate_left
               focus
                 intro w' hb'
                 have d0 : w'.cell? ⟨X, 36, none⟩ = some (.slice o.la o.ln o.lc) := (hb'.1.cell 36).trans h36
                 go_simp
                 with_reducible rfl
               simp only [Act.put, List.setIfInBounds_toArray, List.set_cons_zero, List.set_cons_succ])
            | (refine SeqS.take1 (v := ?_) (by first | assumption | trivial) (by kernel_rfl) (by decide +kernel) (by decide +kernel) (Or.inl ⟨by rfl, ?_⟩) ?_
               rotate_left
               focus
                 intro w' hb'
                 have f0 := hb'.2.string 27 9 5 Try.underlying27 Try.underlying5 Try.underlying9
                 go_simp
                 with_reducible rfl
               simp only [Act.put, List.setIfInBounds_toArray, List.set_cons_zero, List.set_cons_succ])
            | (refine SeqS.take1 (v := undef) (by first | assumption | trivial) (by kernel_rfl) (by decide +kernel) (by decide +kernel) (Or.inr ⟨by rfl, rfl⟩) ?_
               simp only [Act.put, List.setIfInBounds_toArray, List.set_cons_zero, List.set_cons_succ])
            | (refine SeqS.take2 (v := .agg (I).toArray) (by first | assumption | trivial) (by kernel_rfl) (by decide +kernel) (by decide +kernel) (yields_part (by rfl) 34 (.tmp 84) rfl rfl (fun w' h => ir w' h.1) (hIid)) ?_
               simp only [Act.put, List.setIfInBounds_toArray, List.set_cons_zero, List.set_cons_succ])
            | (refine SeqS.take2 (v := ?_) (by first | assumption | trivial) (by kernel_rfl) (by decide +kernel) (by decide +kernel) (Or.inl ⟨by rfl, ?_⟩) ?_
               rotate_left
               focus
                 intro w' hb'
                 go_simp
                 with_reducible rfl
               simp only [Act.put, List.setIfInBounds_toArray, List.set_cons_zero, List.set_cons_succ])
            | (refine SeqS.take2 (v := ?_) (by first | assumption | trivial) (by kernel_rfl) (by decide +kernel) (by decide +kernel) (Or.inl ⟨by rfl, ?_⟩) ?_
               rotate_left
               focus
                 intro w' hb'
                 have d0 : w'.cell? ⟨X, 2, none⟩ = some (.int .u64 o.N) := (hb'.1.cell 2).trans h2
                 go_simp
                 with_reducible rfl
               simp only [Act.put, List.setIfInBounds_toArray, List.set_cons_zero, List.set_cons_succ])
            | (refine SeqS.take2 (v := ?_) (by first | assumption | trivial) (by kernel_rfl) (by decide +kernel) (by decide +kernel) (Or.inl ⟨by rfl, ?_⟩) ?_
               rotate_left
               focus
                 intro w' hb'
                 have d0 : w'.cell? ⟨X, 3, none⟩ = some (.slice o.ba o.bn o.bc) := (hb'.1.cell 3).trans h3
                 go_simp
                 with_reducible rfl
               simp only [Act.put, List.setIfInBounds_toArray, List.set_cons_zero, List.set_cons_succ])
            | (refine SeqS.take2 (v := ?_) (by first | assumption | trivial) (by kernel_rfl) (by decide +kernel) (by decide +kernel) (Or.inl ⟨by rfl, ?_⟩) ?_
               rotate_left
               focus
                 intro w' hb'
                 have d0 : w'.cell? ⟨X, 36, none⟩ = some (.slice o.la o.ln o.lc) := (hb'.1.cell 36).trans h36
                 go_simp
                 with_reducible rfl
               simp only [Act.put, List.setIfInBounds_toArray, List.set_cons_zero, List.set_cons_succ])
            | (refine SeqS.take2 (v := ?_) (by first | assumption | trivial) (by kernel_rfl) (by decide +kernel) (by decide +kernel) (Or.inl ⟨by rfl, ?_⟩) ?_
               rotate_left
               focus
                 intro w' hb'
                 have f0 := hb'.2.string 27 9 5 Try.underlying27 Try.underlying5 Try.underlying9
                 go_simp
                 with_reducible rfl
               simp only [Act.put, List.setIfInBounds_toArray, List.set_cons_zero, List.set_cons_succ])
            | (refine SeqS.take2 (v := undef) (by first | assumption | trivial) (by kernel_rfl) (by decide +kernel) (by decide +kernel) (Or.inr ⟨by rfl, rfl⟩) ?_
               simp only [Act.put, List.setIfInBounds_toArray, List.set_cons_zero, List.set_cons_succ])
            | (refine SeqS.take3 (v := .agg (I).toArray) (by first | assumption | trivial) (by kernel_rfl) (by decide +kernel) (by decide +kernel) (yields_part (by rfl) 34 (.tmp 84) rfl rfl (fun w' h => ir w' h.1) (hIid)) ?_
               simp only [Act.put, List.setIfInBounds_toArray, List.set_cons_zero, List.set_cons_succ])
            | (refine SeqS.take3 (v := ?_) (by first | assumption | trivial) (by kernel_rfl) (by decide +kernel) (by decide +kernel) (Or.inl ⟨by rfl, ?_⟩) ?_
               rotate_left
               focus
                 intro w' hb'
                 go_simp
                 with_reducible rfl
               simp only [Act.put, List.setIfInBounds_toArray, List.set_cons_zero, List.set_cons_succ])
            | (refine SeqS.take3 (v := ?_) (by first | assumption | trivial) (by kernel_rfl) (by decide +kernel) (by decide +kernel) (Or.inl ⟨by rfl, ?_⟩) ?_
               rotate_left
               focus
                 intro w' hb'
                 have d0 : w'.cell? ⟨X, 2, none⟩ = some (.int .u64 o.N) := (hb'.1.cell 2).trans h2
                 go_simp
                 with_reducible rfl
               simp only [Act.put, List.setIfInBounds_toArray, List.set_cons_zero, List.set_cons_succ])
            | (refine SeqS.take3 (v := ?_) (by first | assumption | trivial) (by kernel_rfl) (by decide +kernel) (by decide +kernel) (Or.inl ⟨by rfl, ?_⟩) ?_
               rotate_left
               focus
                 intro w' hb'
                 have d0 : w'.cell? ⟨X, 3, none⟩ = some (.slice o.ba o.bn o.bc) := (hb'.1.cell 3).trans h3
                 go_simp
                 with_reducible rfl
               simp only [Act.put, List.setIfInBounds_toArray, List.set_cons_zero, List.set_cons_succ])
            | (refine SeqS.take3 (v := ?_) (by first | assumption | trivial) (by kernel_rfl) (by decide +kernel) (by decide +kernel) (Or.inl ⟨by rfl, ?_⟩) ?_
               rotate_left
               focus
                 intro w' hb'
                 have d0 : w'.cell? ⟨X, 36, none⟩ = some (.slice o.la o.ln o.lc) := (hb'.1.cell 36).trans h36
                 go_simp
                 with_reducible rfl
               simp only [Act.put, List.setIfInBounds_toArray, List.set_cons_zero, List.set_cons_succ])
            | (refine SeqS.take3 (v := ?_) (by first | assumption | trivial) (by kernel_rfl) (by decide +kernel) (by decide +kernel) (Or.inl ⟨by rfl, ?_⟩) ?_
               rotate_left
               focus
                 intro w' hb'
                 have f0 := hb'.2.string 27 9 5 Try.underlying27 Try.underlying5 Try.underlying9
                 go_simp
                 with_reducible rfl
               simp only [Act.put, List.setIfInBounds_toArray, List.set_cons_zero, List.set_cons_succ])
            | (refine SeqS.take3 (v := undef) (by first | assumption | trivial) (by kernel_rfl) (by decide +kernel) (by decide +kernel) (Or.inr ⟨by rfl, rfl⟩) ?_
               simp only [Act.put, List.setIfInBounds_toArray, List.set_cons_zero, List.set_cons_succ]))
          refine SeqS.done (by decide +kernel) ?_
          clear S12
          go_wp2
          exact ⟨⟨i + 1, by have := hltH.out; omega, by congr 1, R12, B12⟩, by simp only [intOf]; have := hltH.out; omega⟩
        · obtain rfl : i = j := by omega
          have hij : ¬ (i : Int) < (i : Int) := by omega
          rw [List.take_of_length_le (by rw [hO.1]; exact Nat.le_refl _), hxs, hnH.out] at hR
          have hc := pDone_any hR
          rw [hnH.out, show doneOf n (n : Int) 0 = 0 by unfold doneOf; rw [if_pos rfl, if_neg (by omega)]] at hc
          clear hlt hi
          go_wp2_with fail
          refine hc.mono ?_
          rintro q v1 ⟨rfl, c1⟩
          have B1 := hB.trans (c1.mono hB.size)
          have G9 := WP.gl_keep hG (B1.mono (WP.gl_le hG))
          go_wp2_with fail
          refine (alive10_any WP _ G9).mono ?_
          rintro q v2 ⟨rfl, c2⟩
          go_wp2
          go_ret
          exact ⟨rfl, B1.trans (c2.mono B1.size)⟩
end Go.Proofs.Ytlbhpicebefpnaa

/-
  The law WriterRead about the landed writer, as its statement's frame takes it. Conditions: at most a hundred million bytes and calls.
-/
namespace Go.Proofs.Ytlbhpicebefpnaa
open Go.RowKit

theorem law_read (a : Option Addr) (m k : Nat) (ops : List OpV) (w : World) (hO : OpsAt w a m k ops) (hm : m + wts ops ≤ 100000000) :
    Calls Try.prog 4 #[.slice a m k] w fun q w' => q = .returned (.bool true) ∧ Below w.heap.size w w' :=
  read_any writerProg a m k ops w trivial hO hm
end Go.Proofs.Ytlbhpicebefpnaa

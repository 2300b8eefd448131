/-
  Texts of stages that were proved on their own, joined: BkTwice. Each begins with its own words.
-/
import Derived.Test.YtaaflnmdaplfkaaJKcAll18
import Derived.Maps.Own
import Derived.Maps.OwnOps
import Derived.DeepKeys4
import Derived.Carry
import Derived.WalkMore

/-
  Whether an id stands twice: block's twice, which keeps the ids that it met in a map. New memory alone is written. Conditions: at most a hundred thousand ids, bytes below 256.
-/
namespace Go.Proofs.Ytaaflnmdaplfkaa
open Go.RowKit

/-- A map whose keys are ks, each of them at true. -/
def Met (w : World) (b : Nat) (ks : List Value) : Prop := ∃ es clock, w.heap[b]? = some (.map es clock) ∧ es.toList.map (·.key) = ks ∧ ∀ x ∈ es.toList, x.val = .bool true
theorem Met.made (w : World) : Met (w.alloc (.map #[] 0)) w.heap.size [] := ⟨#[], 0, (MapKept.heap_alloc w _).1, rfl, fun x hx => by simp at hx⟩
theorem Met.lt {w : World} {b : Nat} {ks : List Value} (h : Met w b ks) : b < w.heap.size := by
  obtain ⟨es, clock, hb, _⟩ := h
  exact (Array.getElem?_eq_some_iff.1 hb).1
theorem Met.grown {w w' : World} {b : Nat} {ks : List Value} {row : Option Nat} (h : Met w b ks) (hg : w.grownBy w' row) (hne : some b ≠ row) : Met w' b ks := by
  have hlt := h.lt
  obtain ⟨es, clock, hb, h1, h2⟩ := h
  exact ⟨es, clock, (hg.block b hlt hne).trans hb, h1, h2⟩
section
variable {P : Program} {k t e : TypeId} {w : World} {b : Nat} {ks : List Value}
theorem met_look (K : Maps.Keyed P k) (ht : P.underlying t = some (.map k e)) (h : Met w b ks) (hz : (zeroValue e).run P w = .ok (.bool false) w) (hks : ∀ v ∈ ks, ∃ l, keyOf P k v = some l) {key : Value} {kl : Lit} (hkey : keyOf P k key = some kl) {B : Bool} (hB : B = true ↔ key ∈ ks) :
    (Instr.lookup t (.map (some b)) key false).run P w = .ok (.bool B) w := by
  obtain ⟨es, clock, hb, hk, hv⟩ := h
  have hkeys : ∀ e ∈ es.toList, ∃ l, keyOf P k e.key = some l := fun e he => hks _ (by rw [← hk]; exact List.mem_map_of_mem he)
  rcases K.find w hkey es.toList hkeys with ⟨h1, h2⟩ | ⟨j, e0, h1, h2, h3⟩
  · have hf : B = false := by
      rw [← Bool.not_eq_true, hB, ← hk]
      intro hm
      obtain ⟨x, hx, e⟩ := List.mem_map.1 hm
      exact h2 x hx e
    subst hf
    simp [Instr.lookup, run_underlying ht, MapKept.run_getObj_map hb, K.check w _ hkey, h1, hz, Result.andThen]
  · have hf : B = true := hB.2 (by rw [← hk, ← h3]; exact List.mem_map_of_mem (List.mem_of_getElem? h2))
    subst hf
    simp [Instr.lookup, run_underlying ht, MapKept.run_getObj_map hb, K.check w _ hkey, h1, hv e0 (List.mem_of_getElem? h2), Result.andThen]
theorem met_store (K : Maps.Keyed P k) (ht : P.underlying t = some (.map k e)) (h : Met w b ks) (hks : ∀ v ∈ ks, ∃ l, keyOf P k v = some l) {key : Value} {kl : Lit} (hkey : keyOf P k key = some kl) (hB : key ∉ ks) :
    ∃ w', (Instr.mapUpdate t (.map (some b)) key (.bool true)).run P w = .ok () w' ∧ Met w' b (ks ++ [key]) ∧ w.grownBy w' (some b) := by
  obtain ⟨es, clock, hb, hk, hv⟩ := h
  have hkeys : ∀ e ∈ es.toList, ∃ l, keyOf P k e.key = some l := fun e he => hks _ (by rw [← hk]; exact List.mem_map_of_mem he)
  rcases K.find w hkey es.toList hkeys with ⟨h1, h2⟩ | ⟨j, e0, h1, h2, h3⟩
  · refine ⟨ChangeMaps.setBlock w b (.map (es.push ⟨key, .bool true, clock⟩) (clock + 1)), ?_, ⟨es.push ⟨key, .bool true, clock⟩, clock + 1, ChangeMaps.heap_setBlock_same hb _, ?_, ?_⟩, ⟨rfl, rfl, rfl, by simp [ChangeMaps.setBlock], fun i _ hi => ChangeMaps.heap_setBlock_other hb _ (fun e => hi (by rw [e]))⟩⟩
    · simp [Instr.mapUpdate, run_underlying ht, MapKept.run_getObj_map hb, K.check w false hkey, h1, MapKept.run_setObj_map _ hb, Result.andThen, ChangeMaps.setBlock]
    · rw [Array.toList_push, List.map_append, hk]
      rfl
    · intro x hx
      rw [Array.toList_push] at hx
      rcases List.mem_append.1 hx with hx | hx
      · exact hv x hx
      · obtain rfl := List.mem_singleton.1 hx
        rfl
  · exact absurd (by rw [← hk, ← h3]; exact List.mem_map_of_mem (List.mem_of_getElem? h2)) hB
variable {ops : Array Oper} {rest : List Oper} {o : Oper} {a : Act} {Q : Exit → Act → World → Prop}
theorem wpList_lookup_met (hg : o.guard = none) (m x : Operand) (t : TypeId) (hop : o.op = Op.lookup t m x false) (hm : a.eval m = .map (some b)) {key : Value} (hx : a.eval x = key) {B : Bool} (hrun : (Instr.lookup t (.map (some b)) key false).run P w = .ok (.bool B) w)
    (hK : wpList P ops Q rest (a.put o.dst (.bool B)) w) : wpList P ops Q (o :: rest) a w := by
  refine wpList_plain hg fun K' hK' => ?_
  unfold Oper.wp
  simp [execOp, hop, hm, hx, hrun, Result.andThen]
  exact hK' _ _ hK
theorem wpList_store_met (hg : o.guard = none) (m x v : Operand) (t : TypeId) (hop : o.op = Op.mapUpdate t m x v) (hm : a.eval m = .map (some b)) {key : Value} (hx : a.eval x = key) (hv : a.eval v = .bool true)
    {ks : List Value} (hrun : ∃ w', (Instr.mapUpdate t (.map (some b)) key (.bool true)).run P w = .ok () w' ∧ Met w' b ks ∧ w.grownBy w' (some b))
    (hK : ∀ w', Met w' b ks → w.grownBy w' (some b) → wpList P ops Q rest (a.put o.dst undef) w') : wpList P ops Q (o :: rest) a w := by
  refine wpList_plain hg fun K' hK' => ?_
  obtain ⟨w', hr, r1, r2⟩ := hrun
  unfold Oper.wp
  simp [execOp, hop, hm, hx, hv, hr, Result.andThen]
  exact hK' _ _ (hK w' r1 r2)
end
theorem mapM_some16 {α β : Type} {f : α → Option β} : ∀ {l : List α}, (∀ a ∈ l, ∃ y, f a = some y) → ∃ ys, l.mapM f = some ys
  | [], _ => ⟨[], rfl⟩
  | a :: l, h => by
    obtain ⟨y, hy⟩ := h a (by simp)
    obtain ⟨ys, hys⟩ := mapM_some16 (l := l) (fun b hb => h b (by simp [hb]))
    exact ⟨y :: ys, by simp [List.mapM_cons, hy, hys]⟩

theorem keyTypeId : Try.prog.keyType 28 = true := by kernel_rfl
theorem keyTypeAtId : Try.prog.keyTypeAt 2 28 = true := by kernel_rfl
theorem tiledId : Try.prog.tiled 2 28 = true := by kernel_rfl
theorem keyedId : Maps.Keyed Try.prog 28 := Maps.Keyed.of_law (deep_law (m := 2) (by omega) keyTypeAtId tiledId (by rw [Try.underlying28]))
theorem cellsId : Try.prog.cellsOf 28 = 32 := by kernel_rfl
theorem cellsU8 : Try.prog.cellsOf 5 = 1 := by kernel_rfl
set_option maxRecDepth 100000 in
theorem typesPos : (0 : TypeId) < Try.prog.types.size := of_decide_eq_true (by kernel_rfl)
theorem zeroBool16 (w : World) : (zeroValue 4).run Try.prog w = .ok (.bool false) w := by kernel_rfl
theorem keyId {x : List Int} (hx : x.length = 32) (ho : okB x) : ∃ l, keyOf Try.prog 28 (.agg (x.map (Value.int .u8)).toArray) = some l := by
  have hl : (x.map (Value.int .u8)).length = 32 := by rw [List.length_map, hx]
  obtain ⟨m, hm⟩ : ∃ m, Try.prog.types.size = m + 1 := ⟨Try.prog.types.size - 1, by have : 0 < Try.prog.types.size := typesPos; omega⟩
  have hu := Try.underlying28
  have hu8 := Try.underlying5
  obtain ⟨ys, hys⟩ : ∃ ys, (List.range 32).mapM (fun i => Try.prog.keyLits (m + 1) 5 (((x.map (Value.int .u8)).drop (i * Try.prog.cellsOf 5)).take (Try.prog.cellsOf 5))) = some ys := by
    refine mapM_some16 (fun i hi => ?_)
    have hi := List.mem_range.1 hi
    rw [cellsU8, Nat.mul_one, List.drop_eq_getElem_cons (by omega), List.take_succ_cons, List.take_zero, List.getElem_map]
    have hb := ho _ (List.getElem_mem (show i < x.length by omega))
    refine ⟨[.int .u8 (x[i]'(by omega))], ?_⟩
    unfold Program.keyLits
    rw [hu8]
    dsimp only
    rw [if_pos ⟨rfl, WalkArith.wf_u8 ⟨hb.1, by omega⟩⟩]
  refine ⟨.string (keyBytes ys.flatten), ?_⟩
  unfold keyOf
  rw [hu]
  dsimp only
  rw [keyTypeId, hm]
  have hf : (Value.agg (x.map (Value.int .u8)).toArray).formed Try.prog 28 = true := by
    simp [Value.formed, hu, cellsId, hx]
  rw [hf, if_pos (by decide)]
  unfold Program.keyLits
  rw [hu]
  dsimp only [Value.cells]
  rw [if_pos (by rw [cellsId]; exact hl), hys]
  rfl

/-- The ids that were met, as keys. -/
def keysL (zs : List Int) (j : Nat) : List Value := (List.range j).map fun i => .agg ((idP zs i).map (Value.int .u8)).toArray
theorem keysL_step (zs : List Int) (j : Nat) : keysL zs (j + 1) = keysL zs j ++ [.agg ((idP zs j).map (Value.int .u8)).toArray] := by
  unfold keysL
  rw [List.range_succ, List.map_append]
  rfl
theorem agg_inj {x y : List Int} (h : Value.agg (x.map (Value.int .u8)).toArray = .agg (y.map (Value.int .u8)).toArray) : x = y := by
  injection h with h
  have h : x.map (Value.int .u8) = y.map (Value.int .u8) := congrArg Array.toList h
  exact (List.map_inj_right (fun a b e => by injection e)).1 h
theorem keysL_mem {zs x : List Int} {j : Nat} : hasL zs x j = true ↔ Value.agg (x.map (Value.int .u8)).toArray ∈ keysL zs j := by
  rw [hasL_iff]
  unfold keysL
  rw [List.mem_map]
  constructor
  · rintro ⟨i, hi, e⟩
    exact ⟨i, List.mem_range.2 hi, by rw [e]⟩
  · rintro ⟨i, hi, e⟩
    exact ⟨i, List.mem_range.1 hi, agg_inj e⟩

set_option maxRecDepth 100000 in
set_option maxHeartbeats 2000000 in
theorem bkTwice_any (a : Option Addr) (n c : Nat) (zs : List Int) (w : World) (hT : IdsAt w a n c zs) (ho : okB zs) (hn : n ≤ 100000) :
    Calls Try.prog 48 #[.slice a n c] w fun q w' => q = .returned (.bool (twiceL zs n)) ∧ Below w.heap.size w w' := by
  have hl := hT.1
  have hnm : (n : Int) ≤ 100000 := by omega
  have hps := Lib.hid (fun j (hj : j < n) => rowId_of (idP_len hl hj))
  have hlen := Lib.hid (fun j (hj : j < n) => idP_len hl hj)
  have hkey := Lib.hid (fun j (hj : j < n) => keyId (idP_len hl hj) (idP_ok ho j))
  have hTH := Lib.hid hT
  have hmm := @run_makeMap Try.prog
  obtain ⟨Zr, hZr⟩ : ∃ Z, List.replicate 32 (Value.int .u8 0) = Z := ⟨_, rfl⟩
  have hZl : Zr.length = 32 := by rw [← hZr]; rfl
  have hZ0 : Zero Try.prog 28 Zr := by rw [← hZr]; exact zeroId9
  have hb0 := below1 w (.map #[] 0)
  have hm0 := Met.made w
  obtain ⟨V, hV⟩ : ∃ V, w.alloc (.map #[] 0) = V := ⟨_, rfl⟩
  rw [hV] at hb0 hm0
  obtain ⟨M, hM⟩ : ∃ V, w.heap.size = V := ⟨_, rfl⟩
  rw [hM] at hm0
  clear hZr hT ho hl
  go_enter Try.func48, Try.ntmps48
  go_wp2
  go_step3
  go_wp2
  go_step3
  go_wp2
  have hMH := Lib.hid hM
  clear hV hM hmm
  go_loopw [4, 10] (fun v i wr => ∃ j : Nat, j ≤ n ∧ v = .bool false ∧ i = .int .i64 j ∧ twiceL zs j = false ∧ Met wr M (keysL zs j) ∧ Below w.heap.size w wr) (fun _ i _ => n - (intOf i).toNat)
  case atStart => exact ⟨0, Nat.zero_le _, rfl, rfl, rfl, hm0, hb0⟩
  case round =>
    clear hb0 hm0
    obtain ⟨j, hj, rfl, rfl, hno, hmet, hB⟩ := hrel
    by_cases hlt : j < n
    · have hji : (j : Int) < (n : Int) := by omega
      obtain ⟨b, off, rfl, hp⟩ := (hTH.out.keep hB).get hlt
      have HY := hps.out j hlt
      obtain ⟨kl, hkl⟩ := hkey.out j hlt
      have hks : ∀ v ∈ keysL zs j, ∃ l, keyOf Try.prog 28 v = some l := by
        intro v hv
        obtain ⟨i, hi, rfl⟩ := List.mem_map.1 hv
        exact hkey.out i (by have := List.mem_range.1 hi; omega)
      have hmem := keysL_mem (zs := zs) (x := idP zs j) (j := j)
      have hstep : twiceL zs (j + 1) = hasL zs (idP zs j) j := by rw [twiceL, hno, Bool.false_or]
      have hyes : hasL zs (idP zs j) j = true → twiceL zs n = true := fun h => by
        obtain ⟨i, hi, e⟩ := hasL_iff.1 h
        exact twiceL_true hi hlt e
      have hkst := keysL_step zs j
      have hlY : ((idP zs j).map (Value.int .u8)).length = 32 := by rw [List.length_map]; exact hlen.out j hlt
      have hY1 := u8_one (idP zs j)
      obtain ⟨Bm, hBm⟩ : ∃ B, hasL zs (idP zs j) j = B := ⟨_, rfl⟩
      rw [hBm] at hmem hstep hyes
      obtain ⟨Y, hY⟩ : ∃ Y, (idP zs j).map (Value.int .u8) = Y := ⟨_, rfl⟩
      rw [hY] at hp HY hkl hmem hkst hlY hY1
      obtain ⟨H, hH⟩ : ∃ H, wr.heap.size = H := ⟨_, rfl⟩
      have hMl : M < H := by rw [← hH]; exact hmet.lt
      have h1 := Lib.hid (And.intro hstep (And.intro hyes hkst))
      have h2 := Lib.hid (And.intro hks (And.intro hkl hmem))
      have hltH := Lib.hid hlt
      clear hlt hj hno hBm hY hks hkl hmem hstep hyes hkst
      go_wp2_with (first
        | ((with_reducible refine wpList_load_part rfl 28 (.tmp 12) rfl ?_ Y hp HY ?_); rfl)
        | ((with_reducible refine wpList_alloc_blk rfl 28 rfl hZ0 ?_); refine RowKit.Hid.out ?_))
      refine Lib.hid ?_
      try simp only [Act.put, List.setIfInBounds_toArray, List.set_cons_zero, List.set_cons_succ]
      have hnew := Blk.new wr 28 Zr
      have hmet1 := hmet.grown (World.grownBy_alloc wr (.cells Zr.toArray 28) none) (by simp)
      have hB1 := hB.alloc hB.size (.cells Zr.toArray 28)
      obtain ⟨U, hU⟩ : ∃ U, wr.alloc (.cells Zr.toArray 28) = U := ⟨_, rfl⟩
      rw [hH] at hnew
      rw [hU] at hnew hmet1 hB1 ⊢
      have hHM := hMH.out
      have hHs : w.heap.size ≤ H := by rw [← hH]; exact hB.size
      clear hmet hB hp hU hH
      refine store_row rfl 28 (.tmp 6) (.tmp 13) rfl rfl rfl hnew rowId9 hlY hZl hY1 ?_
      intro w2 hn2 hg2
      have hmet2 := hmet1.grown hg2 (fun e => by injection e with e; omega)
      have hB2 := hB1.grown hg2 hB1.size (fun q hq => by injection hq with hq; omega)
      have hlook := met_look (t := 100) keyedId Try.underlying100 hmet2 (zeroBool16 w2) h2.out.1 h2.out.2.1 h2.out.2.2
      have hB2H := Lib.hid hB2
      have hmH := Lib.hid hmet2
      clear hnew hmet1 hB1 hg2 hB2 hHM hHs hMl hmet2
      cases Bm with
      | true =>
        have hR := h1.out.2.1 rfl
        go_wp2_with (first
          | ((with_reducible refine wpList_load_blk rfl 28 (.tmp 6) rfl ?_ hn2 rowId9 hlY ?_); rfl)
          | (at_lookup; refine wpList_lookup_met rfl (.tmp 17) (.tmp 18) _ rfl rfl rfl hlook ?_))
        go_ret
        exact ⟨by rw [hR]; rfl, hB2H.out⟩
      | false =>
        have hst := met_store (t := 100) keyedId Try.underlying100 hmH.out h2.out.1 h2.out.2.1 (fun h => absurd (h2.out.2.2.2 h) (by decide))
        rw [← h1.out.2.2] at hst
        go_wp2_with (first
          | ((with_reducible refine wpList_load_blk rfl 28 (.tmp 6) rfl ?_ hn2 rowId9 hlY ?_); rfl)
          | (at_lookup; refine wpList_lookup_met rfl (.tmp 17) (.tmp 18) _ rfl rfl rfl hlook ?_)
          | (at_mapUpdate; refine wpList_store_met rfl (.tmp 14) (.tmp 15) _ _ rfl rfl rfl rfl hst ?_; intro w3 hm3 hg3))
        have hB3 := hB2H.out.grown hg3 hB2H.out.size (fun q hq => by injection hq with hq; have := hMH.out; omega)
        exact ⟨⟨j + 1, by have := hltH.out; omega, rfl, by congr 1, h1.out.1, hm3, hB3⟩, by simp only [intOf]; have := hltH.out; omega⟩
    · obtain rfl : n = j := by omega
      have hji : ¬ (n : Int) < (n : Int) := by omega
      clear hlt hj
      go_wp2
      go_ret
      exact ⟨by rw [hno]; rfl, hB⟩
end Go.Proofs.Ytaaflnmdaplfkaa

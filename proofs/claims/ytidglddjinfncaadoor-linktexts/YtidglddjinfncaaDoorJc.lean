import Derived.Test.YtidglddjinfncaaDoorJb
import Derived.Deep.QuietTactic
import Derived.StillTail
import Derived.Laws.CopyOwn
import Derived.Lib.SliceRun
namespace Go.Proofs.YtidglddjinfncaaDoor
section
open Go.RowKit
theorem index8 (S : List Nat) (hs : S.length = 8) (i : Nat) (hi : i < 8) (w : World) : Sem.run Tryd.prog (Instr.index 105 (.agg (wv S).toArray) (.int .i64 (i : Nat))) w = .ok (.int .u32 ((S.getD i 0 : Nat) : Int)) w := by
  have h := Tryd.underlying105
  have hg := wv_get (l := S) (j := i) (by omega)
  simp only [List.getD_eq_getElem?_getD] at hg
  simp [Instr.index, run_underlying h, asIntOf, go_sem, hi, hg]

set_option maxRecDepth 1000000 in
set_option maxHeartbeats 1000000 in
theorem laid_any (w : World) (s : List Nat) (hs : s.length = 8) (hw : ∀ x ∈ s, x < 4294967296) :
    Calls Tryd.prog 87 #[.agg (wv s).toArray] w fun e w' => e = .returned (.agg (bv (outb s)).toArray) ∧ Below w.heap.size w w' := by
  obtain ⟨s0, s1, s2, s3, s4, s5, s6, s7, rfl⟩ := eight s hs
  have HW := hide hw
  clear hw hs
  have hlit : (wv [s0, s1, s2, s3, s4, s5, s6, s7]).toArray = #[.int .u32 (s0 : Nat), .int .u32 (s1 : Nat), .int .u32 (s2 : Nat), .int .u32 (s3 : Nat), .int .u32 (s4 : Nat), .int .u32 (s5 : Nat), .int .u32 (s6 : Nat), .int .u32 (s7 : Nat)] := rfl
  rw [hlit]
  go_enter Tryd.func87, Tryd.ntmps87
  go_wp2_with fail
  rw [← hlit, ← z32_lit]
  have HR0 : Hid ((((w.alloc (.cells (wv [s0, s1, s2, s3, s4, s5, s6, s7]).toArray 105)).alloc (.cells (bv (List.replicate 32 0)).toArray 76)).alloc (.cells (bv (List.replicate 32 0)).toArray 76)).heap[w.heap.size + 1]? = some (.cells (bv (List.replicate 32 0)).toArray 76 (0, 0))) := by
    have h := heap_alloc_new (w.alloc (.cells (wv [s0, s1, s2, s3, s4, s5, s6, s7]).toArray 105)) (.cells (bv (List.replicate 32 0)).toArray 76)
    have e : (w.alloc (.cells (wv [s0, s1, s2, s3, s4, s5, s6, s7]).toArray 105)).heap.size = w.heap.size + 1 := by simp
    rw [e] at h
    exact blk_alloc _ h
  have HO0 : Hid ((((w.alloc (.cells (wv [s0, s1, s2, s3, s4, s5, s6, s7]).toArray 105)).alloc (.cells (bv (List.replicate 32 0)).toArray 76)).alloc (.cells (bv (List.replicate 32 0)).toArray 76)).heap[w.heap.size + 1 + 1]? = some (.cells (bv (List.replicate 32 0)).toArray 76 (0, 0))) := by
    have h := heap_alloc_new ((w.alloc (.cells (wv [s0, s1, s2, s3, s4, s5, s6, s7]).toArray 105)).alloc (.cells (bv (List.replicate 32 0)).toArray 76)) (.cells (bv (List.replicate 32 0)).toArray 76)
    have e : ((w.alloc (.cells (wv [s0, s1, s2, s3, s4, s5, s6, s7]).toArray 105)).alloc (.cells (bv (List.replicate 32 0)).toArray 76)).heap.size = w.heap.size + 1 + 1 := by simp
    rw [e] at h
    exact h
  have HL0 : Hid (Below w.heap.size w (((w.alloc (.cells (wv [s0, s1, s2, s3, s4, s5, s6, s7]).toArray 105)).alloc (.cells (bv (List.replicate 32 0)).toArray 76)).alloc (.cells (bv (List.replicate 32 0)).toArray 76))) := (((Below.refl _ _).alloc (Nat.le_refl _) _).alloc (by simp) _).alloc (by simp; omega) _
  clear hlit
  generalize ((w.alloc (.cells (wv [s0, s1, s2, s3, s4, s5, s6, s7]).toArray 105)).alloc (.cells (bv (List.replicate 32 0)).toArray 76)).alloc (.cells (bv (List.replicate 32 0)).toArray 76) = w1 at *
  generalize hB : w.heap.size = B at *
  have HBB := hide hB
  clear hB
  have HSL : Hid ([s0, s1, s2, s3, s4, s5, s6, s7].length = 8) := rfl
  generalize hS : [s0, s1, s2, s3, s4, s5, s6, s7] = S at *
  have HS := hide hS
  clear hS
  have HOL := hide (outb_len S HSL.out)
  go_loopw [7] (fun ii wx => ∃ i : Nat, i ≤ 8 ∧ ii = .int .i64 (i : Nat) ∧ Hid (wx.heap[B + 1]? = some (.cells (bv (List.replicate 32 0)).toArray 76 (0, 0))) ∧ Hid (wx.heap[B + 1 + 1]? = some (.cells (bv ((outb S).take (4 * i) ++ List.replicate (32 - 4 * i) 0)).toArray 76 (0, 0))) ∧ Hid (Below B w wx)) (fun ii _ => 8 - (intOf ii).toNat)
  case atStart => exact ⟨0, by omega, rfl, HR0, HO0, HL0⟩
  case round =>
    obtain ⟨i, hi, rfl, HR1, HO1, HL1⟩ := hrel
    clear HR0 HO0 HL0
    by_cases hlt : i < 8
    · have hlt' : (i : Int) < 8 := by omega
      have hix := index8 S HSL.out i hlt wr
      have hxb := getD_w HW.out i
      have HG : Hid (∀ k, k < 4 → (outb S).getD (4 * i + k) 0 = S.getD i 0 / 256 ^ (3 - k) % 256) := by
        intro k hk
        rw [outb_get S HSL.out (4 * i + k) (by omega)]
        have e1 : (4 * i + k) / 4 = i := by omega
        have e2 : (4 * i + k) % 4 = k := by omega
        rw [e1, e2]
      have HCL : Hid (∀ k, k < 4 → wr.cell? ⟨B + 1 + 1, 4 * i + k, none⟩ = some (.int .u8 0)) := by
        intro k hk
        refine blk_cell HO1.out ?_
        rw [List.getElem?_toArray, bv_get (by simp [HOL.out]; omega)]
        have e : ((outb S).take (4 * i) ++ List.replicate (32 - 4 * i) 0).getD (4 * i + k) 0 = 0 := by
          rw [List.getD_eq_getElem?_getD, List.getElem?_append_right (by simp; omega)]
          simp only [List.getElem?_replicate]
          split <;> rfl
        rw [e]
        rfl
      have c0 : wr.cell? ⟨B + 1 + 1, 4 * i, none⟩ = some (.int .u8 0) := HCL.out 0 (by omega)
      have c1 := HCL.out 1 (by omega)
      have c2 := HCL.out 2 (by omega)
      have c3 := HCL.out 3 (by omega)
      have f0 := blk_frozen (4 * i) HO1.out
      have f1 := blk_frozen (4 * i + 1) HO1.out
      have f2 := blk_frozen (4 * i + 2) HO1.out
      have f3 := blk_frozen (4 * i + 3) HO1.out
      generalize S.getD i 0 = x at *
      go_wp2_with fail
      go_roundw
      case rel =>
        have e0 : (x : Int) / 16777216 = (((outb S).getD (4 * i) 0 : Nat) : Int) := by
          have h := HG.out 0 (by omega)
          rw [Nat.add_zero] at h
          rw [h]
          simp only [Nat.reduceSub, Nat.reducePow]
          omega
        have e1 : (x : Int) / 65536 % 256 = (((outb S).getD (4 * i + 1) 0 : Nat) : Int) := by
          rw [HG.out 1 (by omega)]
          simp only [Nat.reduceSub, Nat.reducePow]
          omega
        have e2 : (x : Int) / 256 % 256 = (((outb S).getD (4 * i + 2) 0 : Nat) : Int) := by
          rw [HG.out 2 (by omega)]
          simp only [Nat.reduceSub, Nat.reducePow]
          omega
        have e3 : (x : Int) % 256 = (((outb S).getD (4 * i + 3) 0 : Nat) : Int) := by
          rw [HG.out 3 (by omega)]
          simp only [Nat.reduceSub, Nat.reducePow]
          omega
        rw [e0, e1, e2, e3]
        refine ⟨i + 1, by omega, by go_num, ?_, ?_, below_set3 (below_set3 (below_set3 (below_set3 HL1.out _ _ (by omega) _) _ _ (by omega) _) _ _ (by omega) _) _ _ (by omega) _⟩
        · exact blk_other _ _ (blk_other _ _ (blk_other _ _ (blk_other _ _ HR1.out (by omega)) (by omega)) (by omega)) (by omega)
        · have k0 := blk_set (4 * i) (.int .u8 (((outb S).getD (4 * i) 0 : Nat) : Int)) HO1.out
          rw [out_set (outb S) HOL.out (4 * i) (by omega)] at k0
          have k1 := blk_set (4 * i + 1) (.int .u8 (((outb S).getD (4 * i + 1) 0 : Nat) : Int)) k0
          rw [out_set (outb S) HOL.out (4 * i + 1) (by omega)] at k1
          have k2 := blk_set (4 * i + 2) (.int .u8 (((outb S).getD (4 * i + 2) 0 : Nat) : Int)) k1
          rw [out_set (outb S) HOL.out (4 * i + 2) (by omega)] at k2
          have k3 := blk_set (4 * i + 3) (.int .u8 (((outb S).getD (4 * i + 3) 0 : Nat) : Int)) k2
          rw [out_set (outb S) HOL.out (4 * i + 3) (by omega)] at k3
          exact k3
      case measure => simp [intOf]; omega
    · have hi8 : i = 8 := by omega
      have hi6 : ¬ (i : Int) < 8 := by omega
      have HOF : Hid (wr.heap[B + 1 + 1]? = some (.cells (bv (outb S)).toArray 76 (0, 0))) := by
        have h := HO1.out
        rw [hi8, List.take_of_length_le (by rw [HOL.out]; omega)] at h
        show _ = _
        simpa using h
      clear hi8 hlt hi HO1
      have HI32 : Hid ((Tryd.prog.info? 76).map (·.size) = some (bv (outb S)).toArray.size) := by
        have h := info32
        show _ = _
        simpa [bv_len, HOL.out] using h
      have HSZ : Hid ((bv (List.replicate 32 0)).toArray.size = (bv (outb S)).toArray.size) := by show _ = _; simp [bv_len, HOL.out]
      have HON : Hid ((bv (outb S)).toArray.all (·.oneCell') = true) := by
        show _ = _
        rw [Array.all_eq_true_iff_forall_mem]
        intro u hu
        exact bv_one _ u (by simpa using hu)
      have hne : ¬ B + 1 = B + 1 + 1 := by omega
      generalize hD : outb S = D at *
      have HD := hide hD
      clear hD
      go_wp2_with (first
        | (refine wpList_loadRow rfl rfl (B + 1 + 1) 32 (bv D).toArray 76 rfl HOF.out Tryd.underlying76 HI32.out ?_)
        | (refine wpList_storeRow rfl rfl (B + 1) _ (bv D).toArray 76 rfl rfl HR1.out HI32.out HSZ.out HON.out ?_))
      refine bodyPost_ret (v := .agg (bv D).toArray) ((results_one (p := 2) (ty := 76) rfl _ _ _).trans (run_loadVar_row (P := Tryd.prog) _ (B + 1) 76 76 (bv D).toArray (0, 0) _ (row_same HR1.out) Tryd.underlying76 rfl HI32.out)) rfl ⟨by rw [HS.out, HD.out], ?_⟩
      rw [HBB.out]
      exact HL1.out.trans ((row_kp wr (B + 1) _).below (by have := HL1.out.size; have := HBB.out; omega) (fun q e => by omega))
end
section
open Go.RowKit
/-- The worlds that hold what w holds, and maybe more. -/
structure Ext (w : World) where
  w' : World
  h : Below w.heap.size w w'
instance (w : World) : Nonempty (Ext w) := ⟨⟨w, Below.refl _ _⟩⟩
theorem Ext.cell {w : World} {p : Addr} {v : Value} (h : w.cell? p = some v) (t : Ext w) : t.w'.cell? p = some v := keep_below t.h _ _ h
theorem Ext.bsl {w : World} {v : Value} {xs : List Nat} (h : BSl w v xs) (t : Ext w) : BSl t.w' v xs := h.move (keep_below t.h)
/-- A region that draws its order, whose operations read and whose callees read or make memory: one walk, in the text's order. -/
theorem region_ext {id : Nat} {Q : Exit → Act → World → Prop} {a : Act} {w : World} {l : List Oper} (hm : Tryd.prog.follows .mixedOrders = true) (hB : Region.lexB .any l.toArray = true)
    (h : wpQuiet Tryd.prog l.toArray (fun w' => ∃ t : Ext w, w' = t.w') (fun a' => ∀ w', (∃ t : Ext w, w' = t.w') → Q .normal a' w') l a) : (Code.region id l.toArray true).wp Tryd.prog Q a w :=
  wp_region_quiet (C := fun w' => ∃ t : Ext w, w' = t.w') hm hB ⟨⟨w.drew, (Below.refl _ _).drew⟩, rfl⟩ (by simpa using h)
/-- A callee that leaves the world as it is. -/
theorem Calls.ext_same {f : FuncId} {args : Array Value} {w : World} {t : Ext w} {v : Value} (h : Calls Tryd.prog f args t.w' fun e w' => e = .returned v ∧ w' = t.w') : Calls Tryd.prog f args t.w' fun e w'' => e = .returned v ∧ ∃ t' : Ext w, w'' = t'.w' :=
  h.mono fun _ _ ⟨he, hm⟩ => ⟨he, t, hm⟩
/-- A callee that makes memory. -/
theorem Calls.ext_below {f : FuncId} {args : Array Value} {w : World} {t : Ext w} {v : Value} (h : Calls Tryd.prog f args t.w' fun e w' => e = .returned v ∧ Below t.w'.heap.size t.w' w') : Calls Tryd.prog f args t.w' fun e w'' => e = .returned v ∧ ∃ t' : Ext w, w'' = t'.w' :=
  h.mono fun _ w' ⟨he, hb⟩ => ⟨he, ⟨w', t.h.trans (hb.mono t.h.size)⟩, rfl⟩
end
section
open Go.RowKit Go
section
variable {P : Program} {ops : Array Oper} {md : Region.Mode} {C : World → Prop}

/-- The first operations of a region, in whatever order, all of them quiet in a class of worlds; behind them L. -/
def hdQ (P : Program) (md : Region.Mode) (ops : Array Oper) (C : World → Prop) (n : Nat) (L : Array Bool → Act → Prop) : Nat → Array Bool → Act → Prop
  | 0, s, a => L s a
  | f + 1, s, a => Region.ready md ops s ≠ [] ∧ ∀ i ∈ Region.ready md ops s, i < n ∧ qOp P ops C i (hdQ P md ops C n L f (s.setIfInBounds i true)) a

theorem hdQ_any {n g : Nat} {L : Array Bool → Act → Prop} {Q : Exit → Act → World → Prop} (hL : ∀ s a w, C w → L s a → wpAny P md ops Q g s a w) : ∀ (f : Nat) (s : Array Bool) (a : Act) (w : World), C w → hdQ P md ops C n L f s a → wpAny P md ops Q (f + g) s a w := by
  intro f
  induction f with
  | zero => intro s a w hw h; rw [Nat.zero_add]; exact hL s a w hw h
  | succ f ih =>
    intro s a w hw h
    have e : f + 1 + g = (f + g) + 1 := by omega
    rw [e]
    exact ⟨fun h0 => absurd h0 h.1, fun i hi => wpOp_of_qOp hw (fun a' w' hw' h' => ih _ a' w' hw' h') (h.2 i hi).2⟩

theorem hdQ_first {n i : Nat} {oi : Oper} {v : Value} {L : Array Bool → Act → Prop} (hi : ops[i]? = some oi) (hsel : ∀ (j : Nat) (o : Oper) cs b, ops[j]? = some o → o.op ≠ .select cs b)
    (hs : Region.sinkB md ops n = true) (hc : Region.chainB md ops n = true) (hn : n < ops.size) (hin : i < n) (hd : ∀ s a, L s a → ∀ j ∈ Region.ready md ops s, n ≤ j)
    (f : Nat) : ∀ (s : Array Bool) (a : Act), HeadInv md ops n s →
      (∀ j oj, ops[j]? = some oj → j ≠ i → s.getD j true = false → (∀ e ∈ oj.after, Region.binds md e = true → e.on ≠ i) → oi.apart ops oj = true) →
      i ∈ Region.ready md ops s → YieldsIn P ops C oi v a → hdQ P md ops C n L f (s.setIfInBounds i true) (a.put oi.dst v) → hdQ P md ops C n L (f + 1) s a := by
  have low : ∀ s, HeadInv md ops n s → i ∈ Region.ready md ops s → ∀ j ∈ Region.ready md ops s, j < n := fun s inv hr j hj => by
    by_cases h : j < n
    · exact h
    · exact absurd hj (tail_waits hs hc hn inv _ i rfl hin (mem_ready.1 hr).1 j (by omega))
  have some_ready : ∀ s : Array Bool, i ∈ Region.ready md ops s → Region.ready md ops s ≠ [] := fun s hr h => by rw [h] at hr; cases hr
  induction f with
  | zero =>
    intro s a inv _ hr hy H
    refine ⟨some_ready s hr, fun j hj => ⟨low s inv hr j hj, ?_⟩⟩
    by_cases e : j = i
    · subst e; exact hy.qOp hi H
    · have := hd _ _ H j (ready_mono hj e)
      have := low s inv hr j hj
      omega
  | succ f ih =>
    intro s a inv hf hr hy H
    refine ⟨some_ready s hr, fun j hj => ⟨low s inv hr j hj, ?_⟩⟩
    by_cases e : j = i
    · subst e; exact hy.qOp hi H
    · obtain ⟨hju, oj, hoj, hall⟩ := mem_ready.1 hj
      have hun := getD_both (mem_ready.1 hr).1
      have hfj := hf j oj hoj e hju (fun d hd' hb he => by
        have h := hall d hd' hb
        rw [he, hun] at h
        cases h)
      have h2 := qOp_put hoj hfj (fun cs b => hsel i oi cs b hi) (fun cs b => hsel j oj cs b hoj) hy (H.2 j (ready_mono hj e)).2
      refine qOp_mono (fun a' h3 => ih (s.setIfInBounds j true) a' (inv.set hj (low s inv hr j hj)) (fun k ok hk hki hku hno => hf k ok hk hki ?_ hno) (ready_mono hr (Ne.symm e)) h3.1 ?_) h2
      · by_cases ejk : j = k
        · subst ejk; exact hju
        · rw [getD_set_ne true ejk] at hku; exact hku
      · rw [Array.setIfInBounds_comm _ _ e]
        exact h3.2

theorem hdQ_lex {n g : Nat} {Lq : Act → Prop} (hsel : Region.noSelect ops = true) (hs : Region.sinkB md ops n = true) (hc : Region.chainB md ops n = true) (hn : n < ops.size) (l : List Oper) :
    ∀ (k : Nat) (s : Array Bool) (a : Act), (∀ j, j < l.length → l[j]? = ops[k + j]?) → k + l.length = n → HeadInv md ops n s → Region.lexHead md ops g l.length k s = true → wpQuiet P ops C Lq l a →
      hdQ P md ops C n (fun s' a' => Region.seqB md ops g n s' = true ∧ Lq a') l.length s a := by
  induction l with
  | nil =>
    intro k s a _ hk _ hB h
    obtain rfl : k = n := by simpa using hk
    exact ⟨by simpa [Region.lexHead] using hB, h⟩
  | cons o l ih =>
    intro k s a hl hk inv hB h
    have h0 : ops[k]? = some o := by simpa using (hl 0 (by simp)).symm
    simp only [List.length_cons] at hk
    simp only [List.length_cons, Region.lexHead, Bool.and_eq_true] at hB
    have hr : k ∈ Region.ready md ops s := by simpa using hB.1.1
    have hq : qOp P ops C k (wpQuiet P ops C Lq l) a := by unfold qOp; simp only [h0]; exact h
    obtain ⟨v, hy, hK⟩ := yieldsIn_of_qOp h0 hq
    refine hdQ_first h0 (Region.noSelect_spec hsel) hs hc hn (by omega) (fun s' a' hL => seqB_ready hL.1) l.length s a inv (Region.free_spec h0 hB.1.2) hr hy (ih (k + 1) _ _ (fun j hj => ?_) (by omega) (inv.set hr (by omega)) hB.2 hK)
    have := hl (j + 1) (by simp; omega)
    simpa [Nat.add_assoc, Nat.add_comm 1 j] using this

/-- A region that draws its order: the first n operations quiet in a class of worlds, the rest in their own order behind them. -/
theorem wp_region_quiet_tail {id : Nat} {Q : Exit → Act → World → Prop} {a : Act} {w : World} {l : List Oper} (n : Nat) (hm : P.follows .mixedOrders = true) (hB : Region.lexTailB .any l.toArray n = true) (hC : C w.drew)
    (h : wpQuiet P l.toArray C (fun a' => ∀ w', C w' → wpList P l.toArray Q (l.drop n) a' w') (l.take n) a) : (Code.region id l.toArray true).wp P Q a w := by
  simp only [Region.lexTailB, Bool.and_eq_true, decide_eq_true_eq] at hB
  obtain ⟨⟨⟨⟨hsel, hn⟩, hs⟩, hc⟩, hlex⟩ := hB
  have hn' : n < l.length := by simpa using hn
  have ht : (l.take n).length = n := by simp; omega
  have hd : (l.drop n).length = l.toArray.size - n := by simp
  have inv : HeadInv .any l.toArray n (Array.replicate l.toArray.size false) :=
    ⟨by simp, fun j oj _ hl => absurd hl (by rw [getD_replicate_false]; decide), fun t _ ht => getD_in (by simpa using ht) (getD_replicate_false _ _)⟩
  have H := hdQ_lex (C := C) (md := .any) (g := l.toArray.size - n) hsel hs hc hn (l.take n) 0 _ a (fun j hj => by
    have : j < n := by omega
    simp [this]) (by simpa using ht) inv (by rw [ht]; exact hlex) h
  refine wp_region_any hm ?_
  have R := hdQ_any (Q := Q) (g := l.toArray.size - n) (fun s a' w' hw' hL => by
    have := wpAny_of_seq (md := .any) (Q' := Q) (l.drop n) n s a' w' (fun j => by simp [List.getElem?_drop]) (by rw [hd]; exact hL.1) (hL.2 w' hw')
    rwa [hd] at this) _ _ _ w.drew hC H
  have e : n + (l.toArray.size - n) = l.toArray.size := by simp; omega
  rw [ht, e] at R
  exact R
end

/-- The same, where the first n operations read, and their callees read or make memory. -/
theorem region_ext_tail {id : Nat} {Q : Exit → Act → World → Prop} {a : Act} {w : World} {l : List Oper} (n : Nat) (hm : Tryd.prog.follows .mixedOrders = true) (hB : Region.lexTailB .any l.toArray n = true)
    (h : wpQuiet Tryd.prog l.toArray (fun w' => ∃ t : Ext w, w' = t.w') (fun a' => ∀ w', (∃ t : Ext w, w' = t.w') → wpList Tryd.prog l.toArray Q (l.drop n) a' w') (l.take n) a) : (Code.region id l.toArray true).wp Tryd.prog Q a w :=
  wp_region_quiet_tail (C := fun w' => ∃ t : Ext w, w' = t.w') n hm hB ⟨⟨w.drew, (Below.refl _ _).drew⟩, rfl⟩ h
end
section
open Go.RowKit Go
/-! ### Parts of a block: by value, copied, cleared -/
theorem addr_add (g o j : Nat) : (⟨g, o, none⟩ : Addr).add j = ⟨g, o + j, none⟩ := by unfold Addr.add; split <;> simp_all
theorem part_load {w : World} {T e : TypeId} {n : Nat} (g off : Nat) (cs : List Value) (hu : Tryd.prog.underlying T = some (.array n e)) (hi : (Tryd.prog.info? T).map (·.size) = some cs.length) (hc : ∀ j v, cs[j]? = some v → w.cell? ⟨g, off + j, none⟩ = some v) :
    (Instr.loadAt T (.pointer (some ⟨g, off, none⟩))).run Tryd.prog w = .ok (.agg cs.toArray) w := by
  have hl := run_loadCells_list (P := Tryd.prog) (w := w) ⟨g, off, none⟩ cs (fun j v hv => by rw [addr_add]; exact hc j v hv)
  simp only [Instr.loadAt, Instr.sureAddr, Sem.run_bind, Sem.run_pure, Result.andThen]
  cases hq : Tryd.prog.info? T with
  | none => simp [hq] at hi
  | some i =>
    have hs : i.size = cs.length := by simpa [hq] using hi
    have ha : (isAgg T).run Tryd.prog w = .ok true w := by
      unfold isAgg
      rw [Sem.run_bind, run_underlying hu w]
      simp
    simp [loadVar, ha, sizeOf, typeInfo, hq, hs, hl]
theorem part_store {w : World} {T t : TypeId} (g off : Nat) (cur cs : List Value) (hg : w.heap[g]? = some (.cells cur.toArray t (0, 0))) (hi : (Tryd.prog.info? T).map (·.size) = some cs.length) (hf : off + cs.length ≤ cur.length) (h1 : ∀ v ∈ cs, v.oneCell' = true) :
    (Instr.storeAt T (.pointer (some ⟨g, off, none⟩)) (.agg cs.toArray)).run Tryd.prog w = .ok () (w.setRow g (splice cur off cs).toArray) := by
  have hst := run_storeCells_at (P := Tryd.prog) g off t cs 0 cur.toArray w hg (by simpa using hf) h1
  simp only [Nat.add_zero, List.append_assoc] at hst
  simp only [Instr.storeAt, Instr.sureAddr, Sem.run_bind, Sem.run_pure, Result.andThen]
  cases hq : Tryd.prog.info? T with
  | none => simp [hq] at hi
  | some i =>
    have hs : cs.length = i.size := by simp [hq] at hi; omega
    simp [storeVar, sizeOf, typeInfo, hq, Value.cells, hs, hst, splice]
/-- A part of a block by value, as a step of a region that draws. -/
theorem qstep_load {C : World → Prop} {ops : Array Oper} {o : Oper} {a : Act} {K : Act → Prop} {T e : TypeId} {n : Nat} {p : Operand} (hgd : o.guard = none) (ho : o.op = .load T p) (g off : Nat) (cs : List Value)
    (hp : a.eval p = .pointer (some ⟨g, off, none⟩)) (hu : Tryd.prog.underlying T = some (.array n e)) (hi : (Tryd.prog.info? T).map (·.size) = some cs.length) (hc : ∀ w, C w → ∀ j v, cs[j]? = some v → w.cell? ⟨g, off + j, none⟩ = some v)
    (h : K (a.put o.dst (.agg cs.toArray))) : if Region.wanted o (yielded ops a.tmps) = true then o.quiet Tryd.prog a C K else K (a.put o.dst undef) := by
  have hw : Region.wanted o (yielded ops a.tmps) = true := by simp [Region.wanted, hgd]
  rw [if_pos hw]
  refine ⟨.agg cs.toArray, fun w hC => ?_, h⟩
  unfold Oper.quietAt execOp
  simp only [ho, Sem.run_bind, hp, part_load g off cs hu hi (hc w hC), Result.andThen_ok]
  exact ⟨rfl, rfl⟩
theorem wpList_storePart {ops : Array Oper} {rest : List Oper} {o : Oper} {a : Act} {Q : Exit → Act → World → Prop} {w : World} {T : TypeId} {p x : Operand} (hgd : o.guard = none) (ho : o.op = .store T p x) (g off : Nat) (cur cs : List Value) (t : TypeId)
    (hp : a.eval p = .pointer (some ⟨g, off, none⟩)) (hx : a.eval x = .agg cs.toArray) (hg : w.heap[g]? = some (.cells cur.toArray t (0, 0))) (hi : (Tryd.prog.info? T).map (·.size) = some cs.length) (hf : off + cs.length ≤ cur.length) (h1 : ∀ v ∈ cs, v.oneCell' = true)
    (h : ∀ w', Hid (w'.heap[g]? = some (.cells (splice cur off cs).toArray t (0, 0))) → Hid (Kp (fun q => q = g) w w') → wpList Tryd.prog ops Q rest (a.put o.dst undef) w') : wpList Tryd.prog ops Q (o :: rest) a w := by
  refine wpList_plain hgd fun K hK => ?_
  unfold Oper.wp execOp
  simp only [ho, Sem.run_bind, hp, hx, part_store g off cur cs hg hi hf h1, Result.andThen_ok]
  exact hK _ _ (h _ (row_same hg) (row_kp _ _ _))
theorem wpList_copyPart {ops : Array Oper} {rest : List Oper} {o : Oper} {a : Act} {Q : Exit → Act → World → Prop} {w : World} (hgd : o.guard = none) (d s : Operand)
    (ho : o.op = .call { callee := .builtin .copy, args := #[d, s], argTypes := #[47, 47] }) (g off dLen dCap : Nat) (hd : a.eval d = .slice (some ⟨g, off, none⟩) dLen dCap) (xs : List Nat) (v : Value) (hs : a.eval s = v) (hb : BSl w v xs)
    (cur : List Value) (t : TypeId) (hg : w.heap[g]? = some (.cells cur.toArray t (0, 0))) (ys : List Nat) (k : Nat) (hk : ys.length = k) (hy : ys = xs.take dLen) (hf : off + ys.length ≤ cur.length)
    (h : ∀ w', Hid (w'.heap[g]? = some (.cells (splice cur off (bv ys)).toArray t (0, 0))) → Hid (Kp (fun q => q = g) w w') → wpList Tryd.prog ops Q rest (a.put o.dst (.int .i64 (k : Nat))) w') : wpList Tryd.prog ops Q (o :: rest) a w := by
  subst hk
  obtain ⟨⟨a', cap, rfl, hn, hc⟩, hmax, hby⟩ := hb
  have hsz : (Tryd.prog.info? 5).map (·.size) = some 1 := by
    have h5 := Tryd.info5
    cases hq : Tryd.prog.info? 5 with
    | none => simp [hq] at h5
    | some i => simp [hq] at h5 ⊢; exact h5.2.1
  have hl : ys.length = Nat.min xs.length dLen := by subst hy; simp [Nat.min_comm]
  by_cases h0 : ys.length = 0
  · refine wpList_copy_nothing hgd d s _ _ ho 5 Tryd.underlying47 hsz _ _ _ _ _ _ hd hs (by omega) ?_
    have e0 : ys = [] := List.eq_nil_of_length_eq_zero h0
    have h2 := h w (by show _ = _; subst e0; simpa [splice, bv] using hg) (Kp.refl _ _)
    rw [h0] at h2
    exact h2
  · rcases hc with hc | ⟨b, o', rfl, hc⟩
    · subst hc; subst hy; simp at h0
    have hlb : (bv ys).length = ys.length := bv_len ys
    refine wpList_copy_own hgd d s _ _ ho 5 Tryd.underlying47 hsz g off dLen dCap ⟨b, o', none⟩ _ _ hd hs cur.toArray t hg (bv ys) (by rw [hlb]; exact hl) (fun j v hv => ?_) (by rw [hlb]; simpa using hf) (bv_one ys) ?_
    · have hj : j < ys.length := by
        rw [← hlb]
        exact (List.getElem?_eq_some_iff.1 hv).1
      rw [bv_get hj] at hv
      have e : ys.getD j 0 = xs.getD j 0 := by
        subst hy
        simp only [List.getD_eq_getElem?_getD, List.getElem?_take]
        rw [if_pos (by simp at hj; omega)]
      rw [addr_add, hc j (by have := Nat.min_le_left xs.length dLen; have : ys.length ≤ xs.length := by rw [hl]; exact this
                             omega), ← e]
      exact hv
    · have h2 := h (w.setRow g (splice cur off (bv ys)).toArray) (row_same hg) (row_kp _ _ _)
      simpa [splice, hlb, goInt] using h2
theorem wpList_clearPart {ops : Array Oper} {rest : List Oper} {o : Oper} {a : Act} {Q : Exit → Act → World → Prop} {w : World} (hgd : o.guard = none) (s : Operand)
    (ho : o.op = .call { callee := .builtin .clear, args := #[s], argTypes := #[47] }) (g off n c : Nat) (hs : a.eval s = .slice (some ⟨g, off, none⟩) n c) (hn : 0 < n)
    (cur : List Value) (t : TypeId) (hg : w.heap[g]? = some (.cells cur.toArray t (0, 0))) (hf : off + n ≤ cur.length)
    (h : ∀ w', Hid (w'.heap[g]? = some (.cells (splice cur off (bv (List.replicate n 0))).toArray t (0, 0))) → Hid (Kp (fun q => q = g) w w') → wpList Tryd.prog ops Q rest (a.put o.dst (.tuple #[])) w') : wpList Tryd.prog ops Q (o :: rest) a w := by
  refine wpList_plain hgd fun K hK => ?_
  have hz : (∀ w, (zeroValue 5).run Tryd.prog w = .ok (.int .u8 0) w) := by
    have h5 := Tryd.info5
    intro w
    cases hq : Tryd.prog.info? 5 with
    | none => simp [hq] at h5
    | some i => simp [hq] at h5; simp [zeroValue, typeInfo, hq, h5.1]
  have hst := run_storeCells_at (P := Tryd.prog) g off t (bv (List.replicate n 0)) 0 cur.toArray w hg (by simpa [bv_len] using hf) (bv_one _)
  simp only [Nat.add_zero, List.append_assoc] at hst
  have hzc : (Builtin.zeroCells (Value.int .u8 0).cells n).toList = bv (List.replicate n 0) := by
    simp [Builtin.zeroCells, Value.cells, bv]
    apply List.ext_getElem
    · simp
    · intro i h1 h2
      simp [Nat.mod_one]
  have hrun : (Builtin.clear_ #[47] o.type #[.slice (some ⟨g, off, none⟩) n c]).run Tryd.prog w = .ok (.tuple #[]) (w.setRow g (splice cur off (bv (List.replicate n 0))).toArray) := by
    obtain ⟨m, rfl⟩ : ∃ m, n = m + 1 := ⟨n - 1, by omega⟩
    simp [Builtin.clear_, run_underlying Tryd.underlying47, hz, hzc, hst, splice]
  unfold Oper.wp
  simp [execOp, ho, resolve, invoke, builtin, hs, hrun, Result.andThen]
  exact hK _ _ (h _ (row_same hg) (row_kp _ _ _))
end
section
open Go.RowKit Go
/-! ### The state over pieces -/
theorem wrd_take (l : List Nat) (p : Nat) (q : Nat) (h : q + 4 ≤ 64) : wrd ((l.drop p).take 64) q = wrd l (p + q) := by
  unfold wrd
  have g : ∀ j, j < 64 → ((l.drop p).take 64).getD j 0 = l.getD (p + j) 0 := by
    intro j hj
    simp [List.getD, hj]
  rw [g q (by omega), g (q + 1) (by omega), g (q + 2) (by omega), g (q + 3) (by omega)]
  rfl
theorem wl_take (l : List Nat) (p : Nat) : ∀ n, wl ((l.drop p).take 64) 0 n = wl l p n
  | 0 => rfl
  | n + 1 => by
    rw [wl, wl, wl_take l p n]
    by_cases h : n < 16
    · rw [if_pos h, if_pos h, Nat.zero_add, wrd_take l p (4 * n) (by omega)]
    · rw [if_neg h, if_neg h]
theorem rl_take (l : List Nat) (p : Nat) (s : List Nat) : ∀ n, rl ((l.drop p).take 64) 0 s n = rl l p s n
  | 0 => rfl
  | n + 1 => by rw [rl, rl, rl_take l p s n, wl_take]
theorem cmp_take (l : List Nat) (p : Nat) (s : List Nat) : cmp ((l.drop p).take 64) 0 s = cmp l p s := by
  unfold cmp
  rw [rl_take]
theorem abs_app (xs ys s : List Nat) : ∀ n, 64 * n ≤ xs.length → abs (xs ++ ys) s n = abs xs s n
  | 0, _ => rfl
  | n + 1, h => by
    rw [abs, abs, abs_app xs ys s n (by omega), ← cmp_take, ← cmp_take xs]
    congr 1
    rw [List.drop_append_of_le_length (by omega), List.take_append_of_le_length (by simp; omega)]
/-! ### The cells of a hash, by parts -/
theorem hc_rest {s r : List Nat} {c off : Nat} {ys : List Nat} (hs : s.length = 8) (hr : off + ys.length ≤ r.length) : splice (hc s r c) (8 + off) (bv ys) = hc s (splice r off ys) c := by
  have e8 : (wv s).length = 8 := by rw [wv_len, hs]
  have eb : (bv r).length = r.length := bv_len r
  have ey : (bv ys).length = ys.length := bv_len ys
  unfold splice hc
  rw [List.take_append, List.drop_append, e8, ey]
  have a1 : (wv s).take (8 + off) = wv s := List.take_of_length_le (by omega)
  have a2 : (wv s).drop (8 + off + ys.length) = [] := List.drop_eq_nil_of_le (by omega)
  have a3 : 8 + off - 8 = off := by omega
  have a4 : 8 + off + ys.length - 8 = off + ys.length := by omega
  rw [a1, a2, a3, a4, List.take_append_of_le_length (by omega), List.drop_append_of_le_length (by omega)]
  simp [bv, List.map_take, List.map_drop]
theorem hc_state {s s' r : List Nat} {c : Nat} (hs : s.length = 8) (hs' : s'.length = 8) : splice (hc s r c) 0 (wv s') = hc s' r c := by
  have e8 : (wv s).length = 8 := by rw [wv_len, hs]
  have e9 : (wv s').length = 8 := by rw [wv_len, hs']
  unfold splice hc
  rw [e9, List.take_zero, List.nil_append, List.drop_append, e8]
  have a2 : (wv s).drop (0 + 8) = [] := List.drop_eq_nil_of_le (by omega)
  rw [a2]
  simp
theorem hc_count {s r : List Nat} {c c' : Nat} (hs : s.length = 8) (hr : r.length = 64) : (hc s r c).toArray.setIfInBounds 72 (.int .u64 ((c' : Nat) : Int)) = (hc s r c').toArray := by
  have e8 : (wv s).length = 8 := by rw [wv_len, hs]
  have e6 : (bv r).length = 64 := by rw [bv_len, hr]
  unfold hc
  rw [List.setIfInBounds_toArray, List.set_append_right _ _ (by omega), List.set_append_right _ _ (by omega), e8, e6]
  rfl
theorem hc_getc {s r : List Nat} {c : Nat} (hs : s.length = 8) (hr : r.length = 64) : (hc s r c).toArray[72]? = some (.int .u64 ((c : Nat) : Int)) := by
  have e8 : (wv s).length = 8 := by rw [wv_len, hs]
  have e6 : (bv r).length = 64 := by rw [bv_len, hr]
  unfold hc
  rw [List.getElem?_toArray, List.getElem?_append_right (by omega), List.getElem?_append_right (by omega), e8, e6]
  rfl
theorem hc_gets {s r : List Nat} {c j : Nat} {v : Value} (h : (wv s)[j]? = some v) : (hc s r c).toArray[j]? = some v := by
  have hj := (List.getElem?_eq_some_iff.1 h).1
  unfold hc
  rw [List.getElem?_toArray, List.getElem?_append_left hj]
  exact h
theorem hc_getr {s r : List Nat} {c j : Nat} (hs : s.length = 8) (hj : j < r.length) : (hc s r c).toArray[8 + j]? = some (.int .u8 ((r.getD j 0 : Nat) : Int)) := by
  have e8 : (wv s).length = 8 := by rw [wv_len, hs]
  unfold hc
  rw [List.getElem?_toArray, List.getElem?_append_right (by omega), e8, List.getElem?_append_left (by rw [bv_len]; omega)]
  have e : 8 + j - 8 = j := by omega
  rw [e]
  exact bv_get hj
/-- The part of a hash's block that holds bytes, as a slice. -/
theorem bsl_rest {w : World} {g : Nat} {s r : List Nat} {c : Nat} {t : TypeId} (h : w.heap[g]? = some (.cells (hc s r c).toArray t (0, 0))) (hs : s.length = 8) (hr : r.length = 64) (hb : ∀ x ∈ r, x < 256) : BSl w (.slice (some ⟨g, 8, none⟩) 64 64) r := by
  refine ⟨⟨_, 64, by rw [hr], ⟨by omega, fun h => by cases h⟩, .inr ⟨g, 8, rfl, fun j hj => ?_⟩⟩, by omega, hb⟩
  exact blk_cell h (hc_getr hs hj)
end
section
open Go.RowKit Go
/-- What a hash's block holds, with whatever rest. -/
structure HB (w : World) (g : Nat) (s r : List Nat) (c : Nat) : Prop where
  b : w.heap[g]? = some (.cells (hc s r c).toArray 118 (0, 0))
  s8 : s.length = 8
  sw : ∀ x ∈ s, x < 4294967296
  r64 : r.length = 64
  rb : ∀ x ∈ r, x < 256
theorem tl_byte {xs : List Nat} (h : ∀ x ∈ xs, x < 256) : ∀ x ∈ tl xs, x < 256 := fun x hx => h x (List.mem_of_mem_drop hx)
theorem fillz_byte {xs : List Nat} (h : ∀ x ∈ xs, x < 256) : ∀ x ∈ fillz xs, x < 256 := fun x hx => by
  rcases List.mem_append.1 hx with hx | hx
  · exact h x hx
  · rw [List.eq_of_mem_replicate hx]; decide
theorem HS.hb {w : World} {g : Nat} {xs : List Nat} (h : HS w g xs) (hx : ∀ x ∈ xs, x < 256) : HB w g (abs xs hh (xs.length / 64)) (fillz (tl xs)) xs.length :=
  ⟨h.b, abs_len _ _ rfl _, abs_lt _ _ hh_lt _, fillz_len (by rw [tl_len]; omega), fillz_byte (tl_byte hx)⟩

theorem bsl_nil (w : World) (p : Addr) (c : Nat) : BSl w (.slice (some p) 0 c) [] := ⟨⟨_, c, rfl, ⟨Nat.zero_le _, fun h => by cases h⟩, .inl rfl⟩, by simp, by simp⟩
theorem Kp.bsl0 {S : Nat → Prop} {w w' : World} (h : Kp S w w') {v : Value} {xs : List Nat} (hb : BSl w v xs) (hs : xs ≠ [] → ∀ k, v.ownBlock = some k → ¬ S k) : BSl w' v xs := by
  by_cases h0 : xs = []
  · subst h0
    obtain ⟨⟨a, cap, rfl, hn, _⟩, hmax, hy⟩ := hb
    exact ⟨⟨a, cap, rfl, hn, .inl rfl⟩, hmax, hy⟩
  · exact h.bsl hb (hs h0)
theorem drop_ne {l : List Nat} {a b : Nat} (hab : a ≤ b) (h : l.drop b ≠ []) : l.drop a ≠ [] := fun e => h (by
  have := List.drop_eq_nil_iff.1 e
  exact List.drop_eq_nil_of_le (by omega))
theorem fillz_splice (l ys : List Nat) (H : Nat) (h : l.length = H) (hf : H + ys.length ≤ 64) : fillz (l ++ ys) = splice (fillz l) H ys := by
  subst h
  unfold fillz splice
  rw [List.take_left' rfl, List.drop_append, List.drop_eq_nil_of_le (by omega), List.nil_append, List.drop_replicate, List.append_assoc]
  have e : 64 - (l ++ ys).length = 64 - l.length - (l.length + ys.length - l.length) := by simp; omega
  rw [e]
theorem fillz_full (l ys : List Nat) (H : Nat) (h : l.length = H) (hf : H + ys.length = 64) : splice (fillz l) H ys = l ++ ys := by
  rw [← fillz_splice l ys H h (by omega)]
  unfold fillz
  have e : 64 - (l ++ ys).length = 0 := by simp; omega
  rw [e]
  simp

theorem fillz_end (R T : List Nat) (L : Nat) (hT : T.length = L) (hR : R.length = 64) (hL : L ≤ 64) : splice (splice R 0 T) L (List.replicate (64 - L) 0) = fillz T := by
  subst hT
  unfold splice fillz
  simp only [List.take_zero, List.nil_append, List.length_replicate, List.take_left' rfl]
  rw [List.drop_eq_nil_of_le (by simp; omega)]
  simp

set_option maxRecDepth 1000000 in
set_option maxHeartbeats 1000000 in
theorem write_any (w : World) (g : Nat) (v : Value) (xs ys : List Nat) (hcb : Cb w) (hg0 : 1 < g) (hh0 : HS w g xs) (hx : ∀ x ∈ xs, x < 256) (hsl : BSl w v ys) (hne : ys ≠ [] → v.ownBlock ≠ some g) (hlen : xs.length + ys.length ≤ 140737488355328) :
    Calls Tryd.prog 68 #[.pointer (some ⟨g, 0, none⟩), v] w fun e w' => e = .returned (.tuple #[]) ∧ HS w' g (xs ++ ys) ∧ Kp (fun q => q = g) w w' := by
  have HCB := hide hcb
  have HH := hide (hh0.hb hx)
  have HXB := hide hx
  have HSL := hide hsl
  have HNE := hide hne
  have HG0 := hide hg0
  obtain ⟨⟨a, cap, rfl, hn, hc⟩, hmax, hb⟩ := hsl
  clear hn hc hb hcb hh0 hne hmax hx hg0
  have c0 : w.cell? ⟨g, 72, none⟩ = some (.int .u64 (xs.length : Nat)) := blk_cell HH.out.b (hc_getc HH.out.s8 HH.out.r64)
  have f0 := blk_frozen 72 HH.out.b
  go_enter Tryd.func68, Tryd.ntmps68
  go_upto_if 24 with fail
  have HZ : Hid ((xs ++ ys).length = xs.length + ys.length) := List.length_append
  have ez : (xs.length : Int) + (ys.length : Int) = ((xs.length + ys.length : Nat) : Int) := by omega
  rw [ez]
  have HB1 : Hid (HB (w.setCell ⟨g, 72, none⟩ (.int .u64 ((xs.length + ys.length : Nat) : Int))) g (abs xs hh (xs.length / 64)) (fillz (tl xs)) (xs.length + ys.length)) := by
    have h := HH.out
    refine ⟨?_, h.s8, h.sw, h.r64, h.rb⟩
    rw [← hc_count h.s8 h.r64 (c := xs.length)]
    exact blk_set 72 _ h.b
  have HK1 : Hid (Kp (fun q => q = g) w (w.setCell ⟨g, 72, none⟩ (.int .u64 ((xs.length + ys.length : Nat) : Int)))) := (Kp.refl _ _).setCell _ _ (fun _ => rfl)
  have HNB : Hid (ys ≠ [] → ∀ k, (Value.slice a ys.length cap).ownBlock = some k → ¬ k = g) := fun h0 k hk e => HNE.out h0 (by rw [hk, e])
  have HS1 := hide (HK1.out.bsl0 HSL.out HNB.out)
  clear ez c0 f0
  generalize w.setCell ⟨g, 72, none⟩ (.int .u64 ((xs.length + ys.length : Nat) : Int)) = w1 at *
  generalize hZ : xs.length + ys.length = Z at *
  have hHe : (xs.length : Int) % 64 = ((xs.length % 64 : Nat) : Int) := by omega
  rw [hHe]
  clear hHe
  have HTL := hide (tl_len xs)
  have HTT : Hid (tl xs = xs.drop (64 * (xs.length / 64))) := rfl
  have hH64 : xs.length % 64 < 64 := Nat.mod_lt _ (by decide)
  have HXE : Hid (xs.length = 64 * (xs.length / 64) + xs.length % 64) := by show _ = _; omega
  have HZX : Hid (xs.length + ys.length = Z) := hZ
  clear hZ
  generalize xs.length % 64 = H at *
  generalize xs.length / 64 = q at *
  have hZl : Z ≤ 140737488355328 := hlen
  go_cut [1] (fun u wx => ∃ (m : Nat) (R : List Nat), 64 * m ≤ Z ∧ Hid (BSl wx u ((xs ++ ys).drop (64 * m))) ∧ Hid ((xs ++ ys).drop (64 * m) ≠ [] → u.ownBlock ≠ some g) ∧ Hid (HB wx g (abs (xs ++ ys) hh m) R Z) ∧ Hid (Kp (fun q => q = g) w wx))
  case first => as_aux_lemma =>
    by_cases hH : H = 0
    · have hH' : ¬ (0 : Int) < (H : Int) := by omega
      have HHH := hide hH
      clear hH
      go_wp2_with fail
      go_meet
      case rel =>
        have e := HXE.out
        have hz := HZX.out
        have ed : (xs ++ ys).drop (64 * q) = ys := by rw [List.drop_append_of_le_length (by omega), List.drop_eq_nil_of_le (by have := HHH.out; omega), List.nil_append]
        refine ⟨q, fillz (tl xs), by have := HHH.out; omega, ?_, ?_, ?_, HK1⟩
        · show BSl _ _ _
          rw [ed]
          exact HS1.out
        · intro h
          rw [ed] at h
          exact HNE.out h
        · show HB _ _ _ _ _
          rw [abs_app xs ys hh q (by omega)]
          exact HB1.out
    · have hH' : (0 : Int) < (H : Int) := by omega
      have hH6 : (H : Int) ≤ 64 := by omega
      have hHn : ¬ 64 = H := by omega
      have HH0 := hide hH
      clear hH
      by_cases hsh : H + ys.length < 64
      · have hsh' : (H : Int) + (ys.length : Int) < 64 := by omega
        have HTK : Hid (8 + H + ys.length ≤ (hc (abs xs hh q) (fillz (tl xs)) Z).length) := by
          show _ ≤ _
          rw [hc_len HB1.out.s8 HB1.out.r64]
          omega
        have HYT : Hid (ys = ys.take (64 - H)) := by show _ = _; rw [List.take_of_length_le (by omega)]
        have HSH := hide hsh
        clear hsh
        go_wp2_with (refine wpList_copyPart rfl _ _ rfl g (8 + H) (64 - H) (64 - H) rfl ys _ rfl HS1.out _ _ HB1.out.b ys ys.length rfl HYT.out HTK.out ?_; intro w2 hb2 hk2)
        refine bodyPost_ret (results_none rfl _ _ _) rfl ?_
        refine ⟨rfl, ⟨?_⟩, HK1.out.trans hk2.out (fun _ _ h => h)⟩
        have h2 := hb2.out
        have hx := HXE.out
        have hz := HZX.out
        have hsh2 := HSH.out
        rw [hc_rest HB1.out.s8 (by rw [fillz_len (by rw [HTL.out]; omega)]; omega)] at h2
        have e1 : (xs ++ ys).length / 64 = q := by rw [HZ.out]; omega
        have e2 : abs (xs ++ ys) hh q = abs xs hh q := abs_app xs ys hh q (by omega)
        have e3 : fillz (tl (xs ++ ys)) = splice (fillz (tl xs)) H ys := by
          have e4 : tl (xs ++ ys) = tl xs ++ ys := by
            rw [HTT.out]
            unfold tl
            rw [e1, List.drop_append_of_le_length (by omega)]
          rw [e4]
          exact fillz_splice (tl xs) ys H HTL.out (by omega)
        rw [e1, e2, e3, HZ.out]
        exact h2
      · obtain ⟨N, hN⟩ : ∃ N, H + N = 64 := ⟨64 - H, by omega⟩
        have hNH : 64 - H = N := by omega
        have hsh' : ¬ (H : Int) + (N : Int) < 64 := by omega
        have hN6 : N < 64 := by have := HH0.out; omega
        have HYL : Hid ((ys.take N).length = N) := by show _ = _; simp; omega
        have HTK : Hid (8 + H + (ys.take N).length ≤ (hc (abs xs hh q) (fillz (tl xs)) Z).length) := by
          show _ ≤ _
          rw [hc_len HB1.out.s8 HB1.out.r64, HYL.out]
          omega
        have HYN : Hid (N ≤ ys.length) := by show _ ≤ _; omega
        have HHN := hide hN
        have HSE : Hid (splice (fillz (tl xs)) H (ys.take N) = ((xs ++ ys).drop (64 * q)).take 64) := by
          have hx := HXE.out
          show _ = _
          have e5 : (tl xs).take 64 = tl xs := List.take_of_length_le (by rw [HTL.out]; omega)
          rw [List.drop_append_of_le_length (by omega), ← HTT.out, List.take_append, HTL.out, hNH, e5]
          exact fillz_full (tl xs) (ys.take N) H HTL.out (by rw [HYL.out]; omega)
        clear hsh hN
        go_wp2_with (refine wpList_copyPart rfl _ _ rfl g (8 + H) N N rfl ys _ rfl HS1.out _ _ HB1.out.b (ys.take N) N HYL.out rfl HTK.out ?_; intro w2 hb2 hk2)
        have HB2 : Hid (HB w2 g (abs xs hh q) (((xs ++ ys).drop (64 * q)).take 64) Z) := by
          have h2 := hb2.out
          rw [hc_rest HB1.out.s8 (by rw [fillz_len (by rw [HTL.out]; omega), HYL.out]; have := HHN.out; omega), HSE.out] at h2
          refine ⟨h2, HB1.out.s8, HB1.out.sw, ?_, ?_⟩
          · have := HYN.out
            have := HHN.out
            have := HXE.out
            simp
            omega
          · intro x hx
            rcases List.mem_append.1 (List.mem_of_mem_drop (List.mem_of_mem_take hx)) with hx | hx
            · exact HXB.out x hx
            · exact HSL.out.byte x hx
        have HK2 : Hid (Kp (fun q => q = g) w w2) := HK1.out.trans hk2.out (fun _ _ h => h)
        have HS2 := hide (hk2.out.bsl0 HS1.out HNB.out)
        have HCB2 := hide (HCB.out.kp HK2.out (fun e => by have := HG0.out; omega))
        have HAE : Hid (abs xs hh q = abs (xs ++ ys) hh q) := (abs_app xs ys hh q (by have := HXE.out; omega)).symm
        have HCM : Hid (cmp (((xs ++ ys).drop (64 * q)).take 64) 0 (abs xs hh q) = abs (xs ++ ys) hh (q + 1)) := by
          show _ = _
          rw [HAE.out, cmp_take]
          rfl
        clear hb2 hk2 HB1 HK1 HS1 HTK HSE HAE
        generalize ((xs ++ ys).drop (64 * q)).take 64 = P at *
        generalize abs xs hh q = S at *
        have HLD : Hid (∀ w, (∃ t : Ext w2, w = t.w') → ∀ j v, (wv S)[j]? = some v → w.cell? ⟨g, 0 + j, none⟩ = some v) := by
          rintro w' ⟨t, rfl⟩ j v hv
          rw [Nat.zero_add]
          exact Ext.cell (blk_cell HB2.out.b (hc_gets hv)) t
        have HI8 : Hid ((Tryd.prog.info? 105).map (·.size) = some (wv S).length) := by
          have h := info8w S HB2.out.s8
          show _ = _
          simpa using h
        have HCH : Hid (∀ t : Ext w2, Calls Tryd.prog 85 #[.agg (wv S).toArray, .slice (some ⟨g, 8, none⟩) 64 64] t.w' fun e w'' => e = .returned (.agg (wv (cmp P 0 S)).toArray) ∧ ∃ t' : Ext w2, w'' = t'.w') := fun t =>
          Calls.ext_below (changed_any t.w' _ P S (HCB2.out.below t.h) (Ext.bsl (bsl_rest HB2.out.b HB2.out.s8 HB2.out.r64 HB2.out.rb) t) HB2.out.r64 HB2.out.s8 HB2.out.sw)
        refine region_ext_tail 10 (by kernel_rfl) (by kernel_rfl) ?_
        simp only [List.take_succ_cons, List.take_zero, List.drop_succ_cons, List.drop_zero]
        repeat (
          refine wpQuiet_step (fun K hK => ?_)
          first
            | (refine qstep_load rfl rfl g 0 (wv S) rfl Tryd.underlying105 HI8.out HLD.out (hK _ ?_); clear hK K)
            | (go_simp
               first
                 | (refine hK _ ?_; clear hK K)
                 | (apply Exists.intro
                    refine ⟨fun _ => ?_, hK _ ?_⟩
                    (go_at_call 85; exact HCH.out _)
                    clear hK K)))
        refine wpQuiet_nil ?_
        rintro _ ⟨tq, rfl⟩
        have HBT := hide ((tq.h.block g (blk_lt HB2.out.b)).trans HB2.out.b)
        have HC8 := hide (cmp_len P 0 S HB2.out.s8)
        have HI9 : Hid ((Tryd.prog.info? 105).map (·.size) = some (wv (cmp P 0 S)).length) := by
          have h := info8w (cmp P 0 S) HC8.out
          show _ = _
          simpa using h
        have HF9 : Hid (0 + (wv (cmp P 0 S)).length ≤ (hc S P Z).length) := by
          show _ ≤ _
          rw [hc_len HB2.out.s8 HB2.out.r64, wv_len, HC8.out]
          decide
        have HKT : Hid (Kp (fun q => q = g) w tq.w') := HK2.out.trans (Kp.of_below tq.h) (fun _ _ h => h)
        have HST : Hid (BSl tq.w' (.slice a ys.length cap) ys) := Ext.bsl HS2.out tq
        generalize tq.w' = wt at *
        have hbt := HST.out
        obtain ⟨⟨a', cap', hv, hn, hc⟩, hmax, hb⟩ := hbt
        injection hv with hv1 hv2 hv3
        subst hv1
        subst hv3
        rcases hc with hc | ⟨bb, off, rfl, hc⟩
        · exfalso
          have h1 := HYN.out
          have h2 := HHN.out
          rw [hc] at h1
          simp at h1
          omega
        have hcl : (ys.length : Int) ≤ (cap : Int) := by have := hn.1; omega
        have hNl : (N : Int) ≤ (ys.length : Int) := by have := HYN.out; omega
        clear hn hc hmax hb hv2
        have HW3 : Hid (∀ w3, w3.heap[g]? = some (.cells (splice (hc S P Z) 0 (wv (cmp P 0 S))).toArray 118 (0, 0)) → HB w3 g (abs (xs ++ ys) hh (q + 1)) P Z) := by
          intro w3 h3
          rw [hc_state HB2.out.s8 HC8.out, HCM.out] at h3
          refine ⟨h3, ?_, abs_lt _ _ hh_lt _, HB2.out.r64, HB2.out.rb⟩
          exact abs_len _ _ rfl _
        have HDR : Hid ((xs ++ ys).drop (64 * (q + 1)) = ys.drop N) := by
          show _ = _
          have h1 := HXE.out
          have h2 := HHN.out
          rw [List.drop_append, List.drop_eq_nil_of_le (by omega), List.nil_append]
          congr 1
          omega
        have HM1 : Hid (64 * (q + 1) ≤ Z) := by
          have h1 := HXE.out
          have h2 := HHN.out
          have h3 := HZX.out
          have h4 := HYN.out
          show _ ≤ _
          omega
        by_cases hcp : cap = N
        · have hyN : (N : Int) = (ys.length : Int) := by omega
          go_wp2_with (refine wpList_storePart rfl rfl g 0 _ (wv (cmp P 0 S)) _ rfl rfl HBT.out HI9.out HF9.out (wv_one _) ?_; intro w3 hb3 hk3)
          go_meet
          case rel =>
            refine ⟨q + 1, P, HM1.out, ?_, fun h0 h => HNE.out (by rw [HDR.out] at h0; exact drop_ne (l := ys) (Nat.zero_le _) h0) h, HW3.out w3 hb3.out, HKT.out.trans hk3.out (fun _ _ h => h)⟩
            show BSl _ _ _
            rw [HDR.out, List.drop_eq_nil_of_le (by omega)]
            exact bsl_nil _ _ _
        · go_wp2_with (refine wpList_storePart rfl rfl g 0 _ (wv (cmp P 0 S)) _ rfl rfl HBT.out HI9.out HF9.out (wv_one _) ?_; intro w3 hb3 hk3)
          go_meet
          case rel =>
            refine ⟨q + 1, P, HM1.out, ?_, fun h0 h => HNE.out (by rw [HDR.out] at h0; exact drop_ne (l := ys) (Nat.zero_le _) h0) h, HW3.out w3 hb3.out, HKT.out.trans hk3.out (fun _ _ h => h)⟩
            show BSl _ _ _
            rw [HDR.out]
            exact (hk3.out.bsl0 HST.out HNB.out).drop N (by have := HYN.out; omega)
  case rest => as_aux_lemma =>
    clear HB1 HK1 HS1 HSL HNE HNB
    go_wp2_with fail
    go_loopw [1] (fun u wx => ∃ (m : Nat) (R : List Nat), 64 * m ≤ Z ∧ lenOf u = Z - 64 * m ∧ Hid (BSl wx u ((xs ++ ys).drop (64 * m))) ∧ Hid ((xs ++ ys).drop (64 * m) ≠ [] → u.ownBlock ≠ some g) ∧ Hid (HB wx g (abs (xs ++ ys) hh m) R Z) ∧ Hid (Kp (fun q => q = g) w wx)) (fun u _ => lenOf u)
    case atStart =>
      obtain ⟨m, R, hm, hb, hne, hB, hk⟩ := hcut
      refine ⟨m, R, hm, ?_, hb, hne, hB, hk⟩
      obtain ⟨⟨a', cap', hv, hn, hc⟩, hmax, hby⟩ := hb.out
      rw [hv]
      simp only [lenOf, List.length_drop, HZ.out]
    case round =>
      obtain ⟨m, R, hm, hlu, HSL, HNE, HB1, HK1⟩ := hrel
      clear hcut
      have hbt := HSL.out
      obtain ⟨⟨a1, cap1, hv, hn, hc⟩, hmax, hb⟩ := hbt
      subst hv
      have hLL : ((xs ++ ys).drop (64 * m)).length = Z - 64 * m := by rw [List.length_drop, HZ.out]
      rw [hLL] at HSL HNE hn hmax hlu ⊢
      obtain ⟨L, hL⟩ : ∃ L, Z - 64 * m = L := ⟨_, rfl⟩
      rw [hL] at HSL HNE hn hmax hlu hLL ⊢
      have HLL := hide hLL
      have HLZ := hide hL
      clear hLL hL hlu
      by_cases h64 : 64 ≤ L
      · have h64' : (64 : Int) ≤ (L : Int) := by omega
        rcases hc with hc | ⟨b1, o1, rfl, hc⟩
        · exfalso
          have h1 := HLL.out
          rw [hc] at h1
          simp at h1
          omega
        have hcl : (L : Int) ≤ (cap1 : Int) := by have := hn.1; omega
        have hc64 : (64 : Int) ≤ (cap1 : Int) := by omega
        clear hn hc hmax hb
        have HNB : Hid ((xs ++ ys).drop (64 * m) ≠ [] → ∀ k, (Value.slice (some ⟨b1, o1, none⟩) L cap1).ownBlock = some k → ¬ k = g) := fun h0 k hk e => HNE.out h0 (by rw [hk, e])
        have HCB2 := hide (HCB.out.kp HK1.out (fun e => by have := HG0.out; omega))
        have HCM : Hid (cmp (((xs ++ ys).drop (64 * m)).take 64) 0 (abs (xs ++ ys) hh m) = abs (xs ++ ys) hh (m + 1)) := by
          show _ = _
          rw [cmp_take]
          rfl
        have HPL : Hid ((((xs ++ ys).drop (64 * m)).take 64).length = 64) := by
          show _ = _
          rw [List.length_take, HLL.out]
          omega
        have HPS : Hid (BSl wr (.slice (some ⟨b1, o1, none⟩) 64 64) (((xs ++ ys).drop (64 * m)).take 64)) := HSL.out.take3 64 (by rw [HLL.out]; omega)
        have HD64 : Hid (((xs ++ ys).drop (64 * m)).drop 64 = (xs ++ ys).drop (64 * (m + 1))) := by
          show _ = _
          rw [List.drop_drop]
          congr 1
        generalize ((xs ++ ys).drop (64 * m)).take 64 = P at *
        generalize abs (xs ++ ys) hh m = S at *
        have HLD : Hid (∀ w, (∃ t : Ext wr, w = t.w') → ∀ j v, (wv S)[j]? = some v → w.cell? ⟨g, 0 + j, none⟩ = some v) := by
          rintro w' ⟨t, rfl⟩ j v hv
          rw [Nat.zero_add]
          exact Ext.cell (blk_cell HB1.out.b (hc_gets hv)) t
        have HI8 : Hid ((Tryd.prog.info? 105).map (·.size) = some (wv S).length) := by
          have h := info8w S HB1.out.s8
          show _ = _
          simpa using h
        have HCH : Hid (∀ t : Ext wr, Calls Tryd.prog 85 #[.agg (wv S).toArray, .slice (some ⟨b1, o1, none⟩) 64 64] t.w' fun e w'' => e = .returned (.agg (wv (cmp P 0 S)).toArray) ∧ ∃ t' : Ext wr, w'' = t'.w') := fun t =>
          Calls.ext_below (changed_any t.w' _ P S (HCB2.out.below t.h) (Ext.bsl HPS.out t) HPL.out HB1.out.s8 HB1.out.sw)
        go_wp2_with fail
        refine region_ext_tail 8 (by kernel_rfl) (by kernel_rfl) ?_
        simp only [List.take_succ_cons, List.take_zero, List.drop_succ_cons, List.drop_zero]
        repeat (
          refine wpQuiet_step (fun K hK => ?_)
          first
            | (refine qstep_load rfl rfl g 0 (wv S) rfl Tryd.underlying105 HI8.out HLD.out (hK _ ?_); clear hK K)
            | (go_simp
               first
                 | (refine hK _ ?_; clear hK K)
                 | (apply Exists.intro
                    refine ⟨fun _ => ?_, hK _ ?_⟩
                    (go_at_call 85; exact HCH.out _)
                    clear hK K)))
        refine wpQuiet_nil ?_
        rintro _ ⟨tq, rfl⟩
        have HBT := hide ((tq.h.block g (blk_lt HB1.out.b)).trans HB1.out.b)
        have HC8 := hide (cmp_len P 0 S HB1.out.s8)
        have HI9 : Hid ((Tryd.prog.info? 105).map (·.size) = some (wv (cmp P 0 S)).length) := by
          have h := info8w (cmp P 0 S) HC8.out
          show _ = _
          simpa using h
        have HF9 : Hid (0 + (wv (cmp P 0 S)).length ≤ (hc S R Z).length) := by
          show _ ≤ _
          rw [hc_len HB1.out.s8 HB1.out.r64, wv_len, HC8.out]
          decide
        have HKT : Hid (Kp (fun q => q = g) w tq.w') := HK1.out.trans (Kp.of_below tq.h) (fun _ _ h => h)
        have HST := hide (Ext.bsl HSL.out tq)
        generalize tq.w' = wt at *
        have HW3 : Hid (∀ w3, w3.heap[g]? = some (.cells (splice (hc S R Z) 0 (wv (cmp P 0 S))).toArray 118 (0, 0)) → HB w3 g (abs (xs ++ ys) hh (m + 1)) R Z) := by
          intro w3 h3
          rw [hc_state HB1.out.s8 HC8.out, HCM.out] at h3
          refine ⟨h3, ?_, abs_lt _ _ hh_lt _, HB1.out.r64, HB1.out.rb⟩
          exact abs_len _ _ rfl _
        have HM1 : Hid (64 * (m + 1) ≤ Z) := by
          have h1 := HLZ.out
          show _ ≤ _
          omega
        by_cases hcp : cap1 = 64
        · have hl64 : L = 64 := by omega
          subst hl64
          subst hcp
          go_wp2_with (refine wpList_storePart rfl rfl g 0 _ (wv (cmp P 0 S)) _ rfl rfl HBT.out HI9.out HF9.out (wv_one _) ?_; intro w3 hb3 hk3)
          go_roundw
          case rel =>
            refine ⟨m + 1, R, HM1.out, by have := HLZ.out; simp only [lenOf]; omega, ?_, fun h0 h => HNE.out (drop_ne (by omega) h0) h, HW3.out w3 hb3.out, HKT.out.trans hk3.out (fun _ _ h => h)⟩
            show BSl _ _ _
            rw [← HD64.out, List.drop_eq_nil_of_le (by rw [HLL.out]; exact Nat.le_refl _)]
            exact bsl_nil _ _ _
          case measure => simp [lenOf]
        · have hcp' : ¬ 64 = cap1 := fun e => hcp e.symm
          go_wp2_with (refine wpList_storePart rfl rfl g 0 _ (wv (cmp P 0 S)) _ rfl rfl HBT.out HI9.out HF9.out (wv_one _) ?_; intro w3 hb3 hk3)
          go_roundw
          case rel =>
            refine ⟨m + 1, R, HM1.out, by have := HLZ.out; simp only [lenOf]; omega, ?_, fun h0 h => HNE.out (drop_ne (by omega) h0) h, HW3.out w3 hb3.out, HKT.out.trans hk3.out (fun _ _ h => h)⟩
            show BSl _ _ _
            rw [← HD64.out]
            exact (hk3.out.bsl0 HST.out HNB.out).drop 64 (by rw [HLL.out]; omega)
          case measure => simp [lenOf]; omega
      · have h64' : ¬ (64 : Int) ≤ (L : Int) := by omega
        have hL6 : (L : Int) ≤ 64 := by omega
        have hLn : ¬ 64 = L := by omega
        have HL64 := hide h64
        clear hn hc hmax hb h64
        have hML : (xs ++ ys).length / 64 = m := by have := HLZ.out; have := HZ.out; have := HL64.out; omega
        have HTE : Hid ((xs ++ ys).drop (64 * m) = tl (xs ++ ys)) := by show _ = _; unfold tl; rw [hML]
        have HME := hide hML
        clear hML
        rw [HTE.out] at HSL HLL
        have HF1 : Hid (8 + (tl (xs ++ ys)).length ≤ (hc (abs (xs ++ ys) hh m) R Z).length) := by
          show _ ≤ _
          rw [hc_len HB1.out.s8 HB1.out.r64, HLL.out]
          have := HL64.out
          omega
        have HYT : Hid (tl (xs ++ ys) = (tl (xs ++ ys)).take 64) := by show _ = _; rw [List.take_of_length_le (by rw [HLL.out]; have := HL64.out; omega)]
        go_wp2_with (first
          | (refine wpList_copyPart rfl _ _ rfl g 8 64 64 rfl (tl (xs ++ ys)) _ rfl HSL.out _ _ HB1.out.b (tl (xs ++ ys)) L HLL.out HYT.out HF1.out ?_; intro w2 hb2 hk2; have HB2 := hide hb2; have HK2 := hide hk2)
          | (refine wpList_clearPart rfl _ rfl g (8 + L) (64 - L) (64 - L) rfl ?c1 _ _ HB2.out.out ?c2 ?_; rotate_left; rotate_left; intro w3 hb3 hk3))
        case c1 => have := HL64.out; omega
        case c2 =>
          have h8 := hc_rest (c := Z) (off := 0) (ys := tl (xs ++ ys)) (r := R) HB1.out.s8 (by rw [HLL.out, HB1.out.r64]; have := HL64.out; omega)
          rw [Nat.add_zero] at h8
          rw [h8, hc_len HB1.out.s8 (by rw [length_splice _ _ _ (by rw [HLL.out, HB1.out.r64]; have := HL64.out; omega)]; exact HB1.out.r64)]
          have := HL64.out
          omega
        go_end0
        refine ⟨rfl, ⟨?_⟩, (HK1.out.trans HK2.out.out (fun _ _ h => h)).trans hk3.out (fun _ _ h => h)⟩
        have h3 := hb3.out
        have h8 := hc_rest (c := Z) (off := 0) (ys := tl (xs ++ ys)) (r := R) HB1.out.s8 (by rw [HLL.out, HB1.out.r64]; have := HL64.out; omega)
        rw [Nat.add_zero] at h8
        have hl := HL64.out
        rw [h8, hc_rest HB1.out.s8 (by rw [length_splice _ _ _ (by rw [HLL.out, HB1.out.r64]; omega), HB1.out.r64, List.length_replicate]; omega), fillz_end R _ L HLL.out HB1.out.r64 (by omega)] at h3
        rw [HME.out, HZ.out]
        exact h3
end
section
open Go.RowKit Go
theorem wpList_loadAll {ops : Array Oper} {rest : List Oper} {o : Oper} {a : Act} {Q : Exit → Act → World → Prop} {w : World} {T : TypeId} {p : Operand} (hgd : o.guard = none) (ho : o.op = .load T p) (g : Nat) (cs : Array Value) (t : TypeId) {fs : Array Field}
    (hp : a.eval p = .pointer (some ⟨g, 0, none⟩)) (hg : w.heap[g]? = some (.cells cs t (0, 0))) (hu : Tryd.prog.underlying T = some (.struct fs)) (hi : (Tryd.prog.info? T).map (·.size) = some cs.size)
    (h : wpList Tryd.prog ops Q rest (a.put o.dst (.agg cs)) w) : wpList Tryd.prog ops Q (o :: rest) a w := by
  refine wpList_plain hgd fun K hK => ?_
  unfold Oper.wp execOp
  have hr : (Instr.loadAt T (.pointer (some ⟨g, 0, none⟩))).run Tryd.prog w = .ok (.agg cs) w := by
    simp only [Instr.loadAt, Instr.sureAddr, Sem.run_bind, Sem.run_pure, Result.andThen]
    exact run_loadVar_row (P := Tryd.prog) w g t T cs (0, 0) _ hg hu rfl hi
  simp only [ho, Sem.run_bind, hp, hr, Result.andThen_ok]
  exact hK _ _ h
theorem wpList_loadPart {ops : Array Oper} {rest : List Oper} {o : Oper} {a : Act} {Q : Exit → Act → World → Prop} {w : World} {T e : TypeId} {n : Nat} {p : Operand} (hgd : o.guard = none) (ho : o.op = .load T p) (g off : Nat) (cs : List Value)
    (hp : a.eval p = .pointer (some ⟨g, off, none⟩)) (hu : Tryd.prog.underlying T = some (.array n e)) (hi : (Tryd.prog.info? T).map (·.size) = some cs.length) (hc : ∀ j v, cs[j]? = some v → w.cell? ⟨g, off + j, none⟩ = some v)
    (h : wpList Tryd.prog ops Q rest (a.put o.dst (.agg cs.toArray)) w) : wpList Tryd.prog ops Q (o :: rest) a w := by
  refine wpList_plain hgd fun K hK => ?_
  unfold Oper.wp execOp
  simp only [ho, Sem.run_bind, hp, part_load g off cs hu hi hc, Result.andThen_ok]
  exact hK _ _ h
theorem alloc2_new (w : World) (o1 o2 : Obj) : ((w.alloc o1).alloc o2).heap[w.heap.size + 1]? = some o2 := by
  have h := heap_alloc_new (w.alloc o1) o2
  have e : (w.alloc o1).heap.size = w.heap.size + 1 := by simp
  rwa [e] at h
theorem endg_byte (n : Nat) : ∀ x ∈ endg n, x < 256 := by
  intro x hx
  unfold endg at hx
  rcases List.mem_append.1 hx with hx | hx
  · rcases List.mem_append.1 hx with hx | hx
    · simp at hx; omega
    · rw [List.eq_of_mem_replicate hx]; decide
  · exact beb_byte _ _ _ hx
theorem endg_len (n : Nat) : (endg n).length ≤ 73 := by
  unfold endg
  have := zer_lt n
  simp [beb_len]
  omega
theorem info73 : (Tryd.prog.info? 118).map (·.size) = some 73 := by kernel_rfl
theorem hc_one (s r : List Nat) (c : Nat) : (hc s r c).toArray.all (·.oneCell') = true := by
  rw [Array.all_eq_true_iff_forall_mem]
  intro u hu
  have hu' : u ∈ hc s r c := by simpa using hu
  unfold hc at hu'
  rcases List.mem_append.1 hu' with h | h
  · exact wv_one _ u h
  · rcases List.mem_append.1 h with h | h
    · exact bv_one _ u h
    · simp at h; subst h; rfl
theorem zero73 : Tryd.zeroCells118.size = 73 := by kernel_rfl

set_option maxRecDepth 1000000 in
set_option maxHeartbeats 1000000 in
theorem hsum_any (w : World) (g : Nat) (xs : List Nat) (hcb : Cb w) (hh0 : HS w g xs) (hx : ∀ x ∈ xs, x < 256) (hlen : xs.length ≤ 140737488351232) :
    Calls Tryd.prog 69 #[.pointer (some ⟨g, 0, none⟩)] w fun e w' => e = .returned (.agg (bv (sha xs)).toArray) ∧ Below w.heap.size w w' := by
  have HCB := hide hcb
  have HH := hide hh0
  have HB0 := hide (hh0.hb hx)
  have HXB := hide hx
  have HLE := hide hlen
  clear hcb hh0 hx hlen
  have HP8 := hide HB0.out.s8
  have HP6 := hide HB0.out.r64
  have HB1 : Hid ((w.alloc (.cells (bv (List.replicate 32 0)).toArray 76)).heap[g]? = some (.cells (hc (abs xs hh (xs.length / 64)) (fillz (tl xs)) xs.length).toArray 118 (0, 0))) := blk_alloc _ HB0.out.b
  have HI7 : Hid ((Tryd.prog.info? 118).map (·.size) = some (hc (abs xs hh (xs.length / 64)) (fillz (tl xs)) xs.length).toArray.size) := by
    show _ = _
    rw [List.size_toArray, hc_len HB0.out.s8 HB0.out.r64]
    exact info73
  have HSZ : Hid (Tryd.zeroCells118.size = (hc (abs xs hh (xs.length / 64)) (fillz (tl xs)) xs.length).toArray.size) := by
    have e : (hc (abs xs hh (xs.length / 64)) (fillz (tl xs)) xs.length).toArray.size = 73 := by rw [List.size_toArray, hc_len HB0.out.s8 HB0.out.r64]
    show _ = _
    rw [e]
    exact zero73
  have HON := hide (hc_one (abs xs hh (xs.length / 64)) (fillz (tl xs)) xs.length)
  have HGC : Hid ((hc (abs xs hh (xs.length / 64)) (fillz (tl xs)) xs.length).toArray[72]? = some (.int .u64 (xs.length : Nat))) := hc_getc HB0.out.s8 HB0.out.r64
  have HSX : Hid (∀ wx k, wx.heap[k]? = some (.cells (hc (abs xs hh (xs.length / 64)) (fillz (tl xs)) xs.length).toArray 118 (0, 0)) → HS wx k xs) := fun wx k h => ⟨h⟩
  have HHB := hide HB0.out.b
  clear HB0
  have HGL := hide (blk_lt HH.out.b)
  generalize hc (abs xs hh (xs.length / 64)) (fillz (tl xs)) xs.length = HC at *
  have HR2 : Hid ((((w.alloc (.cells (bv (List.replicate 32 0)).toArray 76)).alloc (.cells Tryd.zeroCells118 118)).setRow (w.heap.size + 1) HC.toArray).heap[w.heap.size]? = some (.cells (bv (List.replicate 32 0)).toArray 76 (0, 0))) := by
    show _ = _
    rw [row_other (by omega)]
    exact blk_alloc _ (heap_alloc_new w _)
  have HE2 : Hid ((((w.alloc (.cells (bv (List.replicate 32 0)).toArray 76)).alloc (.cells Tryd.zeroCells118 118)).setRow (w.heap.size + 1) HC.toArray).heap[w.heap.size + 1]? = some (.cells HC.toArray 118 (0, 0))) := row_same (alloc2_new _ _ _)
  have HL2 : Hid (Below w.heap.size w (((w.alloc (.cells (bv (List.replicate 32 0)).toArray 76)).alloc (.cells Tryd.zeroCells118 118)).setRow (w.heap.size + 1) HC.toArray)) := (((Below.refl _ _).alloc (Nat.le_refl _) _).alloc (by simp) _).trans ((row_kp _ _ _).below (by simp; omega) (fun q e => by omega))
  rw [z32_lit] at HB1
  go_enter Tryd.func69, Tryd.ntmps69
  go_wp2_with (first
    | (refine wpList_loadAll rfl rfl g HC.toArray 118 rfl HB1.out Tryd.underlying118 HI7.out ?_)
    | (refine wpList_storeRow rfl rfl (w.heap.size + 1) _ HC.toArray 118 rfl rfl (alloc2_new _ _ _) HI7.out HSZ.out HON.out ?_; rw [← z32_lit]; generalize ((w.alloc (.cells (bv (List.replicate 32 0)).toArray 76)).alloc (.cells Tryd.zeroCells118 118)).setRow (w.heap.size + 1) HC.toArray = w2 at *; have c7 : w2.cell? ⟨g, 72, none⟩ = some (.int .u64 (xs.length : Nat)) := blk_cell ((HL2.out.block g HGL.out).trans HHB.out) HGC.out))
  generalize hB : w.heap.size = B at *
  have HBB := hide hB
  clear hB c7
  have hlb : xs.length ≤ 140737488355328 := by have := HLE.out; omega
  refine (ending_any w2 xs.length hlb).mono ?_
  rintro e w3 ⟨v3, rfl, ho3, hb3⟩
  have HS2 := hide (HSX.out w2 (B + 1) HE2.out)
  have HS3 := hide (HS2.out.below hb3)
  have HL3 : Hid (Below B w w3) := HL2.out.trans (hb3.mono (by have := HL2.out.size; have := HBB.out; omega))
  have HEL := hide (blk_lt HE2.out)
  have HV3 : Hid (BSl w3 v3 (endg xs.length)) := BSl.own ho3 (endg_byte _)
  have HN3 : Hid (v3.ownBlock ≠ some (B + 1)) := fun h => by
    have := (ho3.lt (B + 1) h).1
    have := HEL.out
    omega
  have HR3 := hide ((hb3.block B (blk_lt HR2.out)).trans HR2.out)
  have HC3 := hide (HCB.out.below (by rw [HBB.out]; exact HL3.out))
  obtain ⟨a3, c3, hv3, hv1, hv2, hv4⟩ := own_form ho3
  subst hv3
  clear hv1 hv2 hv4 ho3 hb3 HE2 HR2 HL2 HS2 hlb
  go_wp2_with fail
  refine (write_any w3 (B + 1) _ xs (endg xs.length) HC3.out (by have := HCB.out.pos; have := HBB.out; omega) HS3.out HXB.out HV3.out (fun _ => HN3.out) (by have := HLE.out; have := endg_len xs.length; omega)).mono ?_
  rintro e w4 ⟨rfl, hs4, hk4⟩
  rw [← pad_endg] at hs4
  have HB4 := hide (hs4.hb (pad_byte xs HXB.out))
  have HR4 := hide ((hk4.block B (blk_lt HR3.out) (by omega)).trans HR3.out)
  have HL4 : Hid (Below B w w4) := by
    have h3 := HL3.out.size
    have hb := HBB.out
    exact HL3.out.trans (hk4.below (by omega) (fun q e => by omega))
  clear hs4 hk4 HS3 HV3 HN3 HR3 HL3 HC3
  have HSH : Hid (sha xs = outb (abs (pad xs) hh ((pad xs).length / 64))) := rfl
  have HI8 : Hid ((Tryd.prog.info? 105).map (·.size) = some (wv (abs (pad xs) hh ((pad xs).length / 64))).length) := by
    have h := info8w _ HB4.out.s8
    show _ = _
    simpa using h
  have HLD : Hid (∀ j v, (wv (abs (pad xs) hh ((pad xs).length / 64)))[j]? = some v → w4.cell? ⟨B + 1, 0 + j, none⟩ = some v) := by
    intro j v hv
    rw [Nat.zero_add]
    exact blk_cell HB4.out.b (hc_gets hv)
  have H8 := hide HB4.out.s8
  have HSW := hide HB4.out.sw
  clear HB4
  generalize abs (pad xs) hh ((pad xs).length / 64) = S at *
  go_wp2_with (refine wpList_loadPart rfl rfl (B + 1) 0 (wv S) rfl Tryd.underlying105 HI8.out HLD.out ?_)
  refine (laid_any w4 S H8.out HSW.out).mono ?_
  rintro e w5 ⟨rfl, hb5⟩
  have HR5 := hide ((hb5.block B (blk_lt HR4.out)).trans HR4.out)
  have HL5 : Hid (Below B w w5) := HL4.out.trans (hb5.mono (by have := HL4.out.size; have := HBB.out; omega))
  have HOL := hide (outb_len S H8.out)
  have HI32 : Hid ((Tryd.prog.info? 76).map (·.size) = some (bv (outb S)).toArray.size) := by
    have h := info32
    show _ = _
    simpa [bv_len, HOL.out] using h
  have HSZ2 : Hid ((bv (List.replicate 32 0)).toArray.size = (bv (outb S)).toArray.size) := by show _ = _; simp [bv_len, HOL.out]
  have HON2 : Hid ((bv (outb S)).toArray.all (·.oneCell') = true) := by
    show _ = _
    rw [Array.all_eq_true_iff_forall_mem]
    intro u hu
    exact bv_one _ u (by simpa using hu)
  generalize outb S = D at *
  go_wp2_with (refine wpList_storeRow rfl rfl B _ (bv D).toArray 76 rfl rfl HR5.out HI32.out HSZ2.out HON2.out ?_)
  refine bodyPost_ret (v := .agg (bv D).toArray) ((results_one (p := 2) (ty := 76) rfl _ _ _).trans (run_loadVar_row (P := Tryd.prog) _ B 76 76 (bv D).toArray (0, 0) _ (row_same HR5.out) Tryd.underlying76 rfl HI32.out)) rfl ⟨by rw [HSH.out], ?_⟩
  rw [HBB.out]
  exact HL5.out.trans ((row_kp w5 B _).below (by have := HL5.out.size; have := HBB.out; omega) (fun q e => by omega))
end
section
open Go.RowKit Go
theorem own_lt {w : World} {v : Value} {xs : List Nat} (h : BSl w v xs) (h0 : xs ≠ []) {k : Nat} (hk : v.ownBlock = some k) : k < w.heap.size := by
  obtain ⟨⟨a, cap, rfl, hn, hc⟩, hmax, hb⟩ := h
  rcases hc with hc | ⟨b, off, rfl, hc⟩
  · exact absurd hc h0
  · simp [Value.ownBlock] at hk
    subst hk
    have h1 := hc 0 (List.length_pos_iff.2 h0)
    by_cases hlt : b < w.heap.size
    · exact hlt
    · exfalso
      have e : w.heap[b]? = none := Array.getElem?_eq_none (by omega)
      simp [World.cell?, e] at h1

set_option maxRecDepth 1000000 in
set_option maxHeartbeats 1000000 in
theorem sum_any (w : World) (v : Value) (xs : List Nat) (hcb : Cb w) (hsl : BSl w v xs) (hlen : xs.length ≤ 140737488351232) :
    Calls Tryd.prog 44 #[v] w fun e w' => e = .returned (.agg (bv (sha xs)).toArray) ∧ Below w.heap.size w w' := by
  have HCB := hide hcb
  have HSL := hide hsl
  have HLE := hide hlen
  clear hcb hsl hlen
  go_enter Tryd.func44, Tryd.ntmps44
  go_wp2_with fail
  rw [← z32_lit]
  have HR1 : Hid ((w.alloc (.cells (bv (List.replicate 32 0)).toArray 76)).heap[w.heap.size]? = some (.cells (bv (List.replicate 32 0)).toArray 76 (0, 0))) := heap_alloc_new w _
  have HL1 : Hid (Below w.heap.size w (w.alloc (.cells (bv (List.replicate 32 0)).toArray 76))) := (Below.refl _ _).alloc (Nat.le_refl _) _
  generalize w.alloc (.cells (bv (List.replicate 32 0)).toArray 76) = w1 at *
  refine (new_any w1).mono ?_
  rintro e w2 ⟨g, rfl, hg2, hs2, hb2⟩
  have HS2 := hide hs2
  have HG2 := hide hg2
  have HR2 := hide ((hb2.block _ (blk_lt HR1.out)).trans HR1.out)
  have HRL := hide (blk_lt HR1.out)
  have HL2 : Hid (Below w.heap.size w w2) := HL1.out.trans (hb2.mono HL1.out.size)
  have HC2 := hide (HCB.out.below HL2.out)
  have HV2 := hide (HSL.out.move (keep_below HL2.out))
  clear hg2 hs2 hb2 HR1 HL1
  go_wp2_with fail
  refine (write_any w2 g v [] xs HC2.out (by have := HRL.out; have := HG2.out; have := HCB.out.pos; omega) HS2.out (fun x hx => by cases hx) HV2.out (fun h0 h => by have := own_lt HSL.out h0 h; have := HRL.out; have := HG2.out; omega) (by have := HLE.out; simp; omega)).mono ?_
  rintro e w3 ⟨rfl, hs3, hk3⟩
  rw [List.nil_append] at hs3
  have HS3 := hide hs3
  have HR3 := hide ((hk3.block _ (blk_lt HR2.out) (by have := HRL.out; have := HG2.out; omega)).trans HR2.out)
  have HL3 : Hid (Below w.heap.size w w3) := by
    have h2 := HL2.out.size
    exact HL2.out.trans (hk3.below (by omega) (fun q e => by have := HRL.out; have := HG2.out; omega))
  have HC3 := hide (HCB.out.below HL3.out)
  clear hs3 hk3 HS2 HR2 HL2 HC2 HV2
  go_wp2_with fail
  refine (hsum_any w3 g xs HC3.out HS3.out HSL.out.byte HLE.out).mono ?_
  rintro e w4 ⟨rfl, hb4⟩
  have HR4 := hide ((hb4.block _ (blk_lt HR3.out)).trans HR3.out)
  have HL4 : Hid (Below w.heap.size w w4) := HL3.out.trans (hb4.mono HL3.out.size)
  have HOL := hide (sha_len xs)
  have HI32 := hide (info32d xs)
  have HON := hide (one32 xs)
  clear hb4 HR3 HL3 HC3 HS3
  have HSZ : Hid ((bv (List.replicate 32 0)).toArray.size = (bv (sha xs)).toArray.size) := by show _ = _; simp [bv_len, HOL.out]
  generalize hD : sha xs = D at *
  have HD := hide hD
  clear hD
  go_wp2_with (refine wpList_storeRow rfl rfl w.heap.size _ (bv D).toArray 76 rfl rfl HR4.out HI32.out HSZ.out HON.out ?_)
  refine bodyPost_ret (v := .agg (bv D).toArray) ((results_one (p := 2) (ty := 76) rfl _ _ _).trans (run_loadVar_row (P := Tryd.prog) _ w.heap.size 76 76 (bv D).toArray (0, 0) _ (row_same HR4.out) Tryd.underlying76 rfl HI32.out)) rfl ⟨by rw [HD.out], ?_⟩
  exact HL4.out.trans ((row_kp w4 w.heap.size _).below HL4.out.size (fun q e => by omega))
end
section
open Go.RowKit Go
set_option maxRecDepth 1000000 in
theorem equal_any (w : World) (v u : Value) (xs ys : List Nat) (h1 : BSl w v xs) (h2 : BSl w u ys) :
    Calls Tryd.prog 73 #[v, u] w fun e w' => e = .returned (.bool (decide (xs = ys))) ∧ Below w.heap.size w w' := by
  have e1 := h1.text
  have e2 := h2.text
  have H1 := hide h1.byte
  have H2 := hide h2.byte
  clear h1 h2
  go_enter Tryd.func73, Tryd.ntmps73
  go_wp2_with fail
  have e : ((nstr xs).toList == (nstr ys).toList) = decide (xs = ys) := by
    by_cases h : xs = ys
    · subst h; simp
    · have hn : ¬ (nstr xs).toList = (nstr ys).toList := fun e => h (nstr_inj H1.out H2.out e)
      rw [beq_eq_false_iff_ne.2 hn]
      simp [h]
  rw [e]
  go_ret
  exact ⟨rfl, Below.refl _ _⟩

set_option maxRecDepth 1000000 in
theorem clone_any (w : World) (v : Value) (xs : List Nat) (h1 : BSl w v xs) (hlen : xs.length ≤ 140737488351232) :
    Calls Tryd.prog 92 #[v] w fun e w' => ∃ v', e = .returned v' ∧ w'.ownsRow w.heap.size 5 1 v' xs.length (bv xs) ∧ Below w.heap.size w w' := by
  have H1 := hide h1
  have HL := hide hlen
  obtain ⟨⟨a, cap, rfl, hn, hc⟩, hmax, hb⟩ := h1
  have he := Lib.run_eql_slice_nil (P := Tryd.prog) w 47 5 a xs.length cap 0 0 Tryd.underlying47
  cases a with
  | none =>
    rcases hc with rfl | ⟨b, off, h, _⟩
    · simp only [List.length_nil] at he ⊢
      clear hn hb hmax
      go_enter Tryd.func92, Tryd.ntmps92
      go_wp2_with fail
      go_ret
      exact ⟨_, rfl, World.ownsRow_nil _ _ _ _, Below.refl _ _⟩
    · cases h
  | some ad =>
    clear hn hc hb hlen
    go_enter Tryd.func92, Tryd.ntmps92
    have HO : Hid ((w.alloc (.cells #[] 5)).ownsRow w.heap.size 5 1 (.slice (some ⟨w.heap.size, 0, none⟩) 0 0) 0 (bv [])) := own_make (cs := []) rfl (by unfold maxLen; decide)
    have HS := hide (H1.out.move (keep_alloc w (.cells #[] 5)))
    go_wp2_with (at_builtin; refine append_bsl rfl _ _ rfl w.heap.size _ 0 [] rfl HO.out _ xs rfl HS.out ?b1 ?b2 ?_)
    case b1 => have := HL.out; omega
    case b2 => simp
    intro v2 w2 ho2 hg2
    have hlo := fun g (h : _ = some g) => (HO.out.lt g h).1
    have HB2 : Hid (Below w.heap.size w w2) := ((Below.refl _ _).alloc (Nat.le_refl _) _).grown hg2 (by simp) (fun g hg => hlo g hg)
    have HO2 := hide ho2
    clear ho2 hg2 hlo
    go_wp2_with fail
    go_ret
    exact ⟨v2, rfl, by simpa using HO2.out, HB2.out⟩
end
section
open Go.RowKit
theorem lay_byte (m : Nat) (h : m < 9223372036854775808) : bits .or .u8 (bits .and .u64 (m : Int) 127 % 256) 128 = ((m % 128 + 128 : Nat) : Int) := by
  have h1 := u64_and_nat m 127 (by omega) (by omega)
  have h2 : m &&& 127 = m % 128 := Nat.and_two_pow_sub_one_eq_mod m 7
  rw [h2] at h1
  have h3 : bits .and .u64 (m : Int) 127 = ((m % 128 : Nat) : Int) := h1
  rw [h3]
  have e : ((m % 128 : Nat) : Int) % 256 = ((m % 128 : Nat) : Int) := by omega
  rw [e, u8_or128_right _ (by omega) (by omega)]
  omega
theorem pow_lid (f : Nat) (h : f ≤ 8) : 128 ^ (f + 1) ≤ 9223372036854775808 := by
  have h2 : 128 ^ (f + 1) ≤ 128 ^ 9 := Nat.pow_le_pow_right (by decide) (by omega)
  exact h2
theorem make9 (w : World) : (Instr.makeSlice 47 (.int .i64 0) (.int .i64 9)).run Tryd.prog w = .ok (.slice (some ⟨w.heap.size, 0, none⟩) 0 9) (w.alloc (.cells #[.int .u8 0, .int .u8 0, .int .u8 0, .int .u8 0, .int .u8 0, .int .u8 0, .int .u8 0, .int .u8 0, .int .u8 0] 5)) := by kernel_rfl

set_option maxRecDepth 1000000 in
set_option maxHeartbeats 400000 in
theorem vlay_any (n : Int) (w : World) (h0 : 0 ≤ n) (h1 : n < 9223372036854775808) :
    Calls Tryd.prog 51 #[.int .u64 n] w fun e w' => ∃ v, e = .returned (.tuple #[v, .int .i64 0]) ∧ w'.ownsRow w.heap.size 5 1 v (digs 9 n.toNat).length (bv (digs 9 n.toNat)) ∧ Below w.heap.size w w' := by
  have hmk := make9
  obtain ⟨i5, hi, hz0, hz1, hz2⟩ := info5_ex
  have HI : Hid (Tryd.prog.info? 5 = some i5) := hi
  have HZ0 : Hid (i5.zero = some (.int .u8 0)) := hz0
  have HZ1 : Hid (i5.size = 1) := hz1
  have HZ2 : Hid (i5.bytes = 1) := hz2
  clear hi hz0 hz1 hz2
  generalize hB : w.heap.size = B
  generalize hD : digs 9 n.toNat = D
  have HB := hide hB
  have HD := hide hD
  clear hB hD
  go_enter Tryd.func51, Tryd.ntmps51
  go_wp2
  refine scope_again 0 (fun a' w' => Below B w w' ∧ ∃ (m f k : Nat) (pre : List Nat) (v u5 u6 u7 u8 u9 u10 u11 u12 u13 u14 u15 u16 u17 u18 u19 u20 u21 u22 u23 : Value), a' = { tmps := #[.int .u64 m, undef, .slice none 0 0, .int .i64 0, v, u5, u6, u7, u8, u9, u10, u11, u12, u13, u14, u15, u16, u17, u18, u19, u20, u21, u22, u23], defers := [] } ∧ m < 128 ^ (f + 1) ∧ f + k = 8 ∧ w'.ownsRow B 5 1 v k (bv pre) ∧ pre ++ digs (f + 1) m = D) (fun a' _ => (intOf (a'.tmps.getD 0 undef)).toNat) rfl ?_ ?_
  · clear HD hmk h0 h1
    rintro a' w' ⟨hbel, m, f, k, pre, v, u5, u6, u7, u8, u9, u10, u11, u12, u13, u14, u15, u16, u17, u18, u19, u20, u21, u22, u23, rfl, hm, hfk, hown, hrel⟩
    have HREL := hide hrel
    have HFK := hide hfk
    have HM := hide hm
    clear hrel hfk hm
    by_cases hb : 128 ≤ m
    · have hb' : (128 : Int) ≤ (m : Int) := by omega
      have HBY := hide (lay_byte m (by have := pow_lid f (by have := HFK.out; omega); have := HM.out; omega))
      go_wp2_with (first | (at_builtin; refine wpList_append_own _ rfl _ _ 47 rfl B 5 i5 (.int .u8 0) 1 1 Tryd.underlying47 HI.out HZ0.out HZ1.out HZ2.out rfl (by decide) _ _ _ rfl (hown.alloc _) ⟨w'.heap.size, 0, none⟩ 1 1 [.int .u8 (bits .or .u8 (bits .and .u64 (m : Int) 127 % 256) 128)] rfl rfl ?c1 ?c2 ?c3 ?c4 ?c5 ?_))
      case c1 => exact cell_one_new _ _ _
      case c2 => intro u hu; simp at hu; subst hu; rfl
      case c3 => have := HFK.out; unfold maxLen; omega
      case c4 => have := HFK.out; omega
      case c5 => have := hbel.size; have := HB.out; simp; omega
      intro v' w1 hown' hgrow _
      go_wp2
      obtain ⟨g, hg, hlt⟩ := fuel_down hb HM.out
      go_step3
      have hbel' : Below B w w1 := (hbel.alloc (by have := hbel.size; have := HB.out; omega) _).grown hgrow (by have := hbel.size; have := HB.out; simp; omega) (fun q hq => (hown.lt q hq).1)
      rw [HBY.out] at hown'
      refine ⟨rfl, ⟨hbel', m / 128, g, k + 1, pre ++ [m % 128 + 128], v', _, _, _, _, _, _, _, _, _, _, _, _, _, _, _, _, _, _, _, rfl, hlt, by have := HFK.out; omega, by rw [bv_app]; exact hown', ?_⟩, ?_⟩
      · have h := HREL.out
        rw [digs_big hb, hg] at h
        rw [List.append_assoc]
        exact h
      · simp [intOf]; omega
    · have hb' : (m : Int) < 128 := by omega
      go_wp2_with (first | (at_builtin; refine wpList_append_own _ rfl _ _ 47 rfl B 5 i5 (.int .u8 0) 1 1 Tryd.underlying47 HI.out HZ0.out HZ1.out HZ2.out rfl (by decide) _ _ _ rfl (hown.alloc _) ⟨w'.heap.size, 0, none⟩ 1 1 [.int .u8 (m : Int)] rfl rfl ?c1 ?c2 ?c3 ?c4 ?c5 ?_))
      case c1 => exact cell_one_new _ _ _
      case c2 => intro u hu; simp at hu; subst hu; rfl
      case c3 => have := HFK.out; unfold maxLen; omega
      case c4 => have := HFK.out; omega
      case c5 => have := hbel.size; have := HB.out; simp; omega
      intro v' w1 hown' hgrow _
      go_wp2
      have hbel' : Below B w w1 := (hbel.alloc (by have := hbel.size; have := HB.out; omega) _).grown hgrow (by have := hbel.size; have := HB.out; simp; omega) (fun q hq => (hown.lt q hq).1)
      simp only [Exit.jump]
      go_ret2
      have h := HREL.out
      rw [digs_small (by omega)] at h
      refine ⟨v', rfl, ?_, hbel'⟩
      have hl : D.length = k + 1 := by
        have h1 := hown'.1
        rw [← h]
        simp [bv] at h1 ⊢
        omega
      rw [hl, ← h, bv_app]
      exact hown'
  · intro HR
    go_wp2
    go_step3
    rename_i hK
    refine hK _ _ (HR.out _ _ ⟨?_, n.toNat, 8, 0, [], _, _, _, _, _, _, _, _, _, _, _, _, _, _, _, _, _, _, _, _, by rw [Int.toNat_of_nonneg h0], ?_, rfl, ?_, by simpa using HD.out⟩)
    · exact (Below.refl _ _).alloc (by have := HB.out; omega) _
    · show n.toNat < 9223372036854775808
      omega
    · rw [← HB.out]
      exact World.ownsRow_made w _ 9 (Nat.le_refl _) (by decide) rfl

set_option maxRecDepth 1000000 in
theorem vlay_no (n : Int) (w : World) (h1 : 9223372036854775808 ≤ n) :
    Calls Tryd.prog 51 #[.int .u64 n] w fun e w' => e = .returned (.tuple #[.slice none 0 0, .int .i64 11]) ∧ w' = w := by
  go_enter Tryd.func51, Tryd.ntmps51
  go_wp2
  go_step3
  go_wp2
  simp only [Exit.noGoto_ret]
  go_ret2
  exact ⟨rfl, rfl⟩
end
section
open Go.RowKit Go
/-- What fits tells. -/
def dfit (h n : Nat) : Nat := if h ≠ 18 ∧ h ≠ 0 then 30 else if (h = 18 ∧ n ≠ 32) ∨ (h = 0 ∧ 64 < n) then 31 else 0

set_option maxRecDepth 1000000 in
theorem fits_any (w : World) (h n : Nat) (hh : h < 18446744073709551616) (hn : n < 18446744073709551616) :
    Calls Tryd.prog 76 #[.int .u64 (h : Nat), .int .u64 (n : Nat)] w fun e w' => e = .returned (.int .i64 (dfit h n : Nat)) ∧ w' = w := by
  by_cases h18 : h = 18
  · subst h18
    by_cases hn32 : n = 32
    · subst hn32
      go_enter Tryd.func76, Tryd.ntmps76
      go_wp2_with fail
      go_ret
      exact ⟨rfl, rfl⟩
    · have e : dfit 18 n = 31 := by simp [dfit, hn32]
      rw [e]
      have g : ((n : Int) != 32) = true := bne_iff_ne.2 (by omega)
      go_enter Tryd.func76, Tryd.ntmps76
      go_wp2_with fail
      go_ret
      exact ⟨rfl, rfl⟩
  · by_cases h0 : h = 0
    · subst h0
      by_cases hn64 : 64 < n
      · have e : dfit 0 n = 31 := by simp [dfit, hn64]
        rw [e]
        have g : (64 : Int) < (n : Int) := by omega
        go_enter Tryd.func76, Tryd.ntmps76
        go_wp2_with fail
        go_ret
        exact ⟨rfl, rfl⟩
      · have e : dfit 0 n = 0 := by simp [dfit, hn64]
        rw [e]
        have g : ¬ (64 : Int) < (n : Int) := by omega
        go_enter Tryd.func76, Tryd.ntmps76
        go_wp2_with fail
        go_ret
        exact ⟨rfl, rfl⟩
    · have e : dfit h n = 30 := by simp [dfit, h18, h0]
      rw [e]
      have g1 : ((h : Int) != 18) = true := bne_iff_ne.2 (by omega)
      have g2 : ((h : Int) != 0) = true := bne_iff_ne.2 (by omega)
      go_enter Tryd.func76, Tryd.ntmps76
      go_wp2_with fail
      go_ret
      exact ⟨rfl, rfl⟩

set_option maxRecDepth 1000000 in
theorem number_any (w : World) (v : Value) (xs : List Nat) (hsl : BSl w v xs) :
    Calls Tryd.prog 91 #[v] w fun e w' => e = .returned (dnumR (dnum xs)) ∧ w' = w := by
  have HV := hide hsl.vread
  clear hsl
  have HE : Hid (dnum xs = if (rd 0 0 xs).2.2 = 0 then rd 0 0 xs else (0, 0, if (rd 0 0 xs).2.2 = 10 then 32 else 33)) := rfl
  generalize rd 0 0 xs = r at *
  obtain ⟨n, u, E⟩ := r
  simp only [] at HV HE
  go_enter Tryd.func91, Tryd.ntmps91
  go_wp2_with fail
  refine HV.out.mono ?_
  rintro e w' ⟨rfl, rfl⟩
  by_cases h0 : E = 0
  · subst h0
    have e : dnum xs = (n, u, 0) := by rw [HE.out, if_pos rfl]
    go_wp2_with fail
    go_ret3
    exact ⟨by rw [e]; rfl, rfl⟩
  · have g0 : ((E : Int) == 0) = false := beq_eq_false_iff_ne.2 (by omega)
    by_cases h1 : E = 10
    · subst h1
      have e : dnum xs = (0, 0, 32) := by rw [HE.out, if_neg (by omega), if_pos rfl]
      go_wp2_with fail
      go_ret3
      exact ⟨by rw [e]; rfl, rfl⟩
    · have g1 : ((E : Int) == 10) = false := beq_eq_false_iff_ne.2 (by omega)
      have e : dnum xs = (0, 0, 33) := by rw [HE.out, if_neg h0, if_neg h1]
      go_wp2_with fail
      go_ret3
      exact ⟨by rw [e]; rfl, rfl⟩

set_option maxRecDepth 1000000 in
set_option maxHeartbeats 1000000 in
theorem holds3_any (w : World) (h : Nat) (v u : Value) (d xs : List Nat) (hcb : Cb w) (hh : h < 18446744073709551616) (h1 : BSl w v d) (h2 : BSl w u xs) (hlen : xs.length ≤ 140737488351232) :
    Calls Tryd.prog 47 #[.int .u64 (h : Nat), v, u] w fun e w' => e = .returned (.bool (dholds h d xs)) ∧ Below w.heap.size w w' := by
  have HCB := hide hcb
  have H1 := hide h1
  have H2 := hide h2
  have HL := hide hlen
  clear hlen hcb
  by_cases h18 : h = 18
  · subst h18
    have HE : Hid (dholds 18 d xs = decide (d = sha xs)) := by show _ = _; simp [dholds]
    clear h1 h2
    go_enter Tryd.func47, Tryd.ntmps47
    go_wp2_with fail
    refine (sum_any w u xs HCB.out H2.out HL.out).mono ?_
    rintro e w1 ⟨rfl, hb1⟩
    have HB1 := hide hb1
    have H11 := hide (H1.out.move (keep_below hb1))
    have HI := hide (info32d xs)
    have HO := hide (one32 xs)
    have HSL := hide (sha_len xs)
    have HSB := hide (sha_byte xs)
    generalize sha xs = D at *
    clear hb1
    go_wp2_with (refine wpList_storeRow rfl rfl w1.heap.size _ (bv D).toArray 76 rfl rfl (heap_alloc_new w1 _) HI.out (by simp [bv_len, HSL.out]) HO.out ?_)
    rw [World.setRow_alloc_new]
    have HBB := hide (bsl_block (heap_alloc_new w1 (.cells (bv D).toArray 76)) HSB.out (by rw [HSL.out]; decide))
    rw [HSL.out] at HBB
    refine (equal_any _ _ _ d D (H11.out.move (keep_alloc w1 _)) HBB.out).mono ?_
    rintro e w2 ⟨rfl, hb2⟩
    have HB2 : Hid (Below w.heap.size w w2) := (HB1.out.alloc HB1.out.size _).trans (hb2.mono (by have := HB1.out.size; simp; omega))
    clear hb2
    rw [← HE.out]
    go_wp2
    go_ret
    exact ⟨rfl, HB2.out⟩
  · have g18 : ((h : Int) == 18) = false := beq_eq_false_iff_ne.2 (by omega)
    obtain ⟨⟨a1, cap1, rfl, hn1, hc1⟩, hm1, hby1⟩ := h1
    clear hn1 hc1 hby1 h2
    by_cases h0 : h = 0
    · subst h0
      by_cases hd : d.length ≤ 64
      · have hd' : (d.length : Int) ≤ 64 := by omega
        have HE : Hid (dholds 0 d xs = decide (d = xs)) := by show _ = _; simp [dholds, hd]
        go_enter Tryd.func47, Tryd.ntmps47
        go_wp2_with fail
        refine (equal_any _ _ _ d xs H1.out H2.out).mono ?_
        rintro e w2 ⟨rfl, hb2⟩
        have HB2 := hide hb2
        clear hb2
        rw [← HE.out]
        go_wp2
        go_ret
        exact ⟨rfl, HB2.out⟩
      · have hd' : ¬ (d.length : Int) ≤ 64 := by omega
        have e : dholds 0 d xs = false := by simp [dholds, hd]
        rw [e]
        go_enter Tryd.func47, Tryd.ntmps47
        go_wp2
        go_ret
        exact ⟨rfl, Below.refl _ _⟩
    · have e : dholds h d xs = false := by simp [dholds, h18, h0]
      rw [e]
      have g0 : ((h : Int) == 0) = false := beq_eq_false_iff_ne.2 (by omega)
      go_enter Tryd.func47, Tryd.ntmps47
      go_wp2
      go_ret
      exact ⟨rfl, Below.refl _ _⟩
end
section
open Go.RowKit
theorem own_below {w w' : World} {B base : Nat} {e : TypeId} {size : Nat} {v : Value} {n : Nat} {xs : List Value} (h : w.ownsRow base e size v n xs) (hb : Below w.heap.size w w') (_hB : B = B) : w'.ownsRow base e size v n xs :=
  (Kp.of_below (S := fun _ => False) hb).owns h (fun _ _ hf => hf)

/-- What Lend gave, with its marks behind it. -/
structure Lnt (w : World) (base g cap : Nat) (xs : List Nat) : Prop where
  own : w.ownsRow base 5 1 (.slice (some ⟨g, 0, none⟩) (xs.length + 70) cap) (xs.length + 70) (bv (xs ++ marks))
  byte : ∀ x ∈ xs, x < 256
  len : xs.length ≤ 140737488351232

theorem Lnt.bsl {w : World} {base g cap : Nat} {xs : List Nat} (h : Lnt w base g cap xs) : BSl w (.slice (some ⟨g, 0, none⟩) xs.length cap) xs := BSl.lent h.own rfl h.byte

theorem Lnt.cap {w : World} {base g cap : Nat} {xs : List Nat} (h : Lnt w base g cap xs) : xs.length + 70 ≤ cap := by
  rcases h.own.2 with ⟨hv, _⟩ | ⟨g', cap', cur, hv, _, _, h1, _⟩
  · cases hv
  · injection hv with _ _ e; subst e; exact h1

theorem Lnt.mark {w : World} {base g cap : Nat} {xs : List Nat} (h : Lnt w base g cap xs) (i : Nat) (hi : i < 70) : w.cell? ⟨g, xs.length + i, none⟩ = some (.int .u8 (165 - (i : Int))) := by
  have hl : xs.length + i < (xs ++ marks).length := by simp [marks]; omega
  have := (own_cell h.own (j := xs.length + i) (bv_get hl)).1
  rw [this]
  have e : (xs ++ marks).getD (xs.length + i) 0 = 165 - i := by
    simp [List.getD, marks, hi]
  rw [e]
  congr 2
  omega

set_option maxRecDepth 1000000 in
set_option maxHeartbeats 400000 in
theorem intact_any {w : World} {base g cap : Nat} {xs : List Nat} (h : Lnt w base g cap xs) (vb : Value) (hb : BSl w vb xs) :
    Calls Tryd.prog 20 #[.slice (some ⟨g, 0, none⟩) xs.length cap, vb] w fun e w' => e = .returned (.bool true) ∧ Kp (fun _ => False) w w' := by
  have HH := hide h
  have hcv1 := h.bsl.text
  have hcv2 := hb.text
  have hcap := h.cap
  have hlen := h.len
  have hcap' : (xs.length : Int) + 70 ≤ (cap : Int) := by omega
  have HLEN := hide hlen
  generalize nstr xs = S at *
  clear h hb hlen
  go_enter Tryd.func20, Tryd.ntmps20
  have hl2 : (xs.length : Int) ≤ 140737488351232 := by have := HLEN.out; omega
  go_wp2
  clear hcv1 hcv2
  go_loopw [6] (fun i wr => ∃ k : Nat, k ≤ 70 ∧ i = .int .i64 k ∧ Kp (fun _ => False) w wr) (fun i _ => 70 - (intOf i).toNat)
  case atStart => exact ⟨0, by omega, rfl, Kp.refl _ _⟩
  case round =>
    obtain ⟨k, hk, rfl, hkp⟩ := hrel
    have HK := hide hkp
    clear hkp
    by_cases hlt : k < 70
    · have hlt' : (k : Int) < 70 := by omega
      have hm := HK.out.cell (HH.out.mark k hlt) (by simp)
      have HMK : Hid (∀ W, Calls Tryd.prog 43 #[.int .i64 (k : Int)] W fun e w' => e = .returned (.int .u8 (165 - (k : Int))) ∧ w' = W) := fun W => mark_any (k : Int) W (by omega) hlt'
      have hb1 : (xs.length : Int) + (k : Int) < (xs.length : Int) + 70 := by omega
      have hwr : IntKind.i64.wrap ((xs.length : Int) + (k : Int)) = (xs.length : Int) + (k : Int) := by rw [IntKind.wrap_i64]; omega
      go_wp2
      go_quiet ((go_at_call 43; exact Calls.quiet_of_same (HMK.out _)))
      go_wp2
      go_roundw
      case rel => exact ⟨k + 1, by omega, by go_num, HK.out.drewN _⟩
      case measure => simp [intOf]; omega
    · have hlt' : ¬ (k : Int) < 70 := by omega
      go_wp2
      go_ret
      exact ⟨rfl, HK.out⟩

theorem into_set (xs ys : List Nat) (k : Nat) (hx : k < xs.length) (hy : k < ys.length) : (bv (ys.take k ++ xs.drop k ++ marks)).set k (.int .u8 ((ys.getD k 0 : Nat) : Int)) = bv (ys.take (k + 1) ++ xs.drop (k + 1) ++ marks) := by
  have e1 : ys.take k ++ xs.drop k ++ marks = ys.take k ++ (xs[k] :: (xs.drop (k + 1) ++ marks)) := by rw [List.drop_eq_getElem_cons hx, List.append_assoc, List.cons_append]
  have e2 : ys.take (k + 1) ++ xs.drop (k + 1) ++ marks = ys.take k ++ (ys[k] :: (xs.drop (k + 1) ++ marks)) := by rw [List.take_succ_eq_append_getElem hy]; simp only [List.append_assoc, List.cons_append, List.nil_append]
  have hl2 : (bv (ys.take k)).length = k := by rw [bv_len, List.length_take]; omega
  have hb : ∀ (z : Nat) (l : List Nat), bv (z :: l) = Value.int .u8 ((z : Nat) : Int) :: bv l := fun _ _ => rfl
  rw [e1, e2, bv_app, bv_app, List.set_append_right (h := by omega), hl2, Nat.sub_self, hb, hb, List.set_cons_zero]
  simp [List.getD, hy]

theorem keepG {wr w1 wi : World} {g : Nat} (hb : Below wr.heap.size wr w1) (hk : Kp (fun q => q = g) w1 wi) (hg : wr.heap.size ≤ g) : ∀ p u, wr.cell? p = some u → wi.cell? p = some u := fun p u h =>
  hk.cell (keep_below hb p u h) (by have := World.block_lt_of_cell? wr p h; omega)

theorem Lnt.kp {w w' : World} {base g cap : Nat} {xs : List Nat} {S : Nat → Prop} (h : Lnt w base g cap xs) (hk : Kp S w w') (hs : ¬ S g) : Lnt w' base g cap xs :=
  ⟨hk.owns h.own (fun q hq => by simp [Value.ownBlock] at hq; subst hq; exact hs), h.byte, h.len⟩
end
section
open Go.RowKit Go
theorem dlay_fit (h : Nat) (d : List Nat) : dlay h d = if dfit h d.length = 0 then (h :: d.length :: d, 0) else ([], dfit h d.length) := by
  unfold dlay dfit
  by_cases h1 : h ≠ 18 ∧ h ≠ 0
  · rw [if_pos h1, if_pos h1]; rfl
  · rw [if_neg h1, if_neg h1]
    by_cases h2 : (h = 18 ∧ d.length ≠ 32) ∨ (h = 0 ∧ 64 < d.length)
    · rw [if_pos h2, if_pos h2]; rfl
    · rw [if_neg h2, if_neg h2]; rfl
theorem dfit_ok {h n : Nat} (e : dfit h n = 0) : (h = 18 ∨ h = 0) ∧ n ≤ 64 := by
  unfold dfit at e
  by_cases h1 : h ≠ 18 ∧ h ≠ 0
  · rw [if_pos h1] at e; cases e
  · rw [if_neg h1] at e
    by_cases h2 : (h = 18 ∧ n ≠ 32) ∨ (h = 0 ∧ 64 < n)
    · rw [if_pos h2] at e; cases e
    · omega
theorem dfit_lt (h n : Nat) : dfit h n < 32 := by
  unfold dfit
  split
  · decide
  · split <;> decide

set_option maxRecDepth 1000000 in
set_option maxHeartbeats 1000000 in
theorem dlay_any (w : World) (h : Nat) (v : Value) (d : List Nat) (hh : h < 18446744073709551616) (hsl : BSl w v d) :
    Calls Tryd.prog 50 #[.int .u64 (h : Nat), v] w fun e w' => ∃ v', e = .returned (.tuple #[v', .int .i64 ((dlay h d).2 : Nat)]) ∧ w'.ownsRow w.heap.size 5 1 v' (dlay h d).1.length (bv (dlay h d).1) ∧ Below w.heap.size w w' := by
  have HSL := hide hsl
  obtain ⟨⟨a, cap, rfl, hn, hc⟩, hmax, hb⟩ := hsl
  clear hn hc hb
  have HE := hide (dlay_fit h d)
  have HF := hide (dfit_lt h d.length)
  have HK := hide (dfit_ok (h := h) (n := d.length))
  generalize hB : w.heap.size = B at *
  have HB := hide hB
  clear hB
  go_enter Tryd.func50, Tryd.ntmps50
  go_wp2_with fail
  refine (fits_any w h d.length hh (by omega)).mono ?_
  rintro e w' ⟨rfl, rfl⟩
  generalize dfit h d.length = f at *
  by_cases h0 : f = 0
  · subst h0
    have hk := HK.out rfl
    rw [if_pos rfl] at HE
    go_wp2_with fail
    refine (vlay_any (h : Int) w' (by omega) (by omega)).mono ?_
    rintro e w1 ⟨v1, rfl, ho1, hb1⟩
    rw [Int.toNat_natCast, digs_small (by omega)] at ho1
    have HO1 := hide ho1
    have HB1 := hide hb1
    obtain ⟨a1, c1, hv1, _, _, _⟩ := own_form ho1
    subst hv1
    clear ho1 hb1
    go_wp2_with fail
    refine (vlay_any (d.length : Int) w1 (by omega) (by omega)).mono ?_
    rintro e w2 ⟨v2, rfl, ho2, hb2⟩
    rw [Int.toNat_natCast, digs_small (by omega)] at ho2
    have HS2 : Hid (BSl w2 v2 [d.length]) := BSl.own ho2 (by simp; omega)
    have HO2 : Hid (w2.ownsRow B 5 1 (.slice a1 [h].length c1) 1 (bv [h])) := own_mono (own_below HO1.out hb2 (rfl : 0 = 0)) (by have := HB.out; omega)
    have HB2 : Hid (Below B w' w2) := by
      rw [HB.out] at HB1
      exact HB1.out.trans (hb2.mono (by have := HB1.out.size; have := HB.out; omega))
    have hs2 : B ≤ w2.heap.size := by have := HB2.out.size; have := HB.out; omega
    obtain ⟨a2, c2, hv2, _, _, _⟩ := own_form ho2
    subst hv2
    clear ho2 hb2 HO1 HB1
    go_wp2_with (at_builtin; refine append_bsl rfl _ _ rfl B _ 1 [h] rfl HO2.out _ [d.length] rfl HS2.out ?b1 ?b2 ?_)
    case b1 => simp
    case b2 => exact hs2
    intro v3 w3 ho3 hg3
    have hlo := fun g (h : _ = some g) => (HO2.out.lt g h).1
    have HB3 : Hid (Below B w' w3) := HB2.out.grown hg3 hs2 (fun g hg => hlo g hg)
    have HO3 := hide ho3
    have HS3 : Hid (BSl w3 (.slice a d.length cap) d) := HSL.out.move (keep_below (by rw [HB.out]; exact HB3.out))
    have hs3 : B ≤ w3.heap.size := by have := HB3.out.size; have := HB.out; omega
    obtain ⟨a3, c3, hv3, _, _, _⟩ := own_form ho3
    subst hv3
    clear ho3 hg3 hlo HO2 HB2 HS2 hs2
    go_wp2_with (at_builtin; refine append_bsl rfl _ _ rfl B _ 2 [h, d.length] rfl HO3.out _ d rfl HS3.out ?b1 ?b2 ?_)
    case b1 => omega
    case b2 => exact hs3
    intro v4 w4 ho4 hg4
    have hlo := fun g (h : _ = some g) => (HO3.out.lt g h).1
    have HB4 : Hid (Below B w' w4) := HB3.out.grown hg4 hs3 (fun g hg => hlo g hg)
    have HO4 := hide ho4
    obtain ⟨a4, c4, hv4, _, _, _⟩ := own_form ho4
    subst hv4
    clear ho4 hg4 hlo HO3 HB3 HS3 hs3
    go_wp2_with fail
    go_ret2
    refine ⟨_, by rw [HE.out]; rfl, ?_, HB4.out⟩
    rw [HE.out]
    have e : (h :: d.length :: d, 0).1.length = 2 + d.length := by simp; omega
    rw [e]
    exact HO4.out
  · have g : ((f : Int) != 0) = true := bne_iff_ne.2 (by omega)
    rw [if_neg h0] at HE
    go_wp2_with fail
    go_ret2
    exact ⟨.slice none 0 0, by rw [HE.out]; rfl, by rw [HE.out]; exact World.ownsRow_nil _ _ _ _, Below.refl _ _⟩
end
section
open Go.RowKit Go
theorem dread_fit {xs : List Nat} {hn u n m : Nat} (h : dnum xs = (hn, u, 0)) (h2 : dnum (xs.drop u) = (n, m, 0)) :
    (dfit hn n ≠ 0 → dread xs = (0, [], 0, dfit hn n)) ∧ (dfit hn n = 0 → (xs.length - (u + m) < n → dread xs = (0, [], 0, 32)) ∧ (¬ xs.length - (u + m) < n → dread xs = (hn, (xs.drop (u + m)).take n, u + m + n, 0))) := by
  have K := (dread_rest h).2 n m h2
  unfold dfit
  by_cases h1 : hn ≠ 18 ∧ hn ≠ 0
  · rw [if_pos h1]
    exact ⟨fun _ => K.1 h1, fun h => by cases h⟩
  · rw [if_neg h1]
    have K2 := K.2 h1
    by_cases h3 : (hn = 18 ∧ n ≠ 32) ∨ (hn = 0 ∧ 64 < n)
    · rw [if_pos h3]
      exact ⟨fun _ => K2.1 h3, fun h => by cases h⟩
    · rw [if_neg h3]
      exact ⟨fun h => absurd rfl h, fun _ => K2.2 h3⟩

set_option maxRecDepth 1000000 in
set_option maxHeartbeats 4000000 in
theorem dread_any (w : World) (v : Value) (xs : List Nat) (hsl : BSl w v xs) :
    Calls Tryd.prog 78 #[v] w fun e w' => ∃ v', e = .returned (.tuple #[.int .u64 ((dread xs).1 : Nat), v', .int .i64 ((dread xs).2.2.1 : Nat), .int .i64 ((dread xs).2.2.2 : Nat)]) ∧ w'.ownsRow w.heap.size 5 1 v' (dread xs).2.1.length (bv (dread xs).2.1) ∧ Below w.heap.size w w' := by
  have HSL := hide hsl
  have HRB := hide (dnum_bound xs)
  have HRX := hide (dnum_bad xs)
  have HD1 := hide (@dread_one xs)
  have HD2 : Hid (∀ hn u : Nat, dnum xs = (hn, u, 0) → _) := fun hn u h => dread_rest (xs := xs) (hn := hn) (u := u) h
  have HD3 : Hid (∀ hn u n m : Nat, dnum xs = (hn, u, 0) → dnum (xs.drop u) = (n, m, 0) → _) := fun hn u n m h h2 => dread_fit (xs := xs) (hn := hn) (u := u) (n := n) (m := m) h h2
  obtain ⟨⟨a, cap, rfl, hn, hc⟩, hmax, hb⟩ := hsl
  have hcap := hn.1
  clear hn hc hb
  go_enter Tryd.func78, Tryd.ntmps78
  go_wp2_with fail
  refine (number_any _ _ xs HSL.out).mono ?_
  rintro e w1 ⟨rfl, rfl⟩
  by_cases hr : (dnum xs).2.2 = 0
  · have hrb := HRB.out hr
    obtain ⟨hn, u, re, hR⟩ : ∃ hn u re, dnum xs = (hn, u, re) := ⟨_, _, _, rfl⟩
    rw [hR] at hr hrb
    simp only at hr hrb
    subst hr
    obtain ⟨hhn, hu, hu9⟩ := hrb
    have HH := hide (HD2.out hn u hR).1
    have HRR := hide hR
    rw [hR]
    clear HD1 HD2 HRX HRB
    obtain ⟨⟨a', cap', hv, hn1, hc⟩, hmax1, hb1⟩ := HSL.out
    injection hv with hv1 hv2 hv3
    subst hv1
    subst hv3
    rcases hc with hc | ⟨b, off, rfl, hc⟩
    · subst hc
      rw [dnum_nil] at hR
      injection hR with _ hR
      injection hR with _ hR
      cases hR
    clear hn1 hc hb1 hv2 hR
    simp only [dnumR]
    by_cases hcu : cap = u
    · have hxu : xs.drop u = [] := List.drop_of_length_le (by omega)
      have HE : Hid (dread xs = (0, [], 0, 32)) := by
        have h := HH.out
        rw [hxu, dnum_nil] at h
        exact h (by simp)
      have HSD : Hid (BSl w1 (.slice (some ⟨b, off, none⟩) 0 0) []) := bsl_nil _ _ _
      have hul : xs.length = u := by omega
      rw [hul] at HSL
      clear hxu HH hhn
      subst hcu
      go_wp2_with fail
      refine (number_any _ _ [] HSD.out).mono ?_
      rintro e w2 ⟨rfl, rfl⟩
      clear HSD HSL
      rw [dnum_nil]
      simp only [dnumR]
      go_wp2
      refine bodyPost_ret (results_four rfl _ _ _) rfl ⟨_, by rw [HE.out]; rfl, by rw [HE.out]; exact World.ownsRow_nil _ _ _ _, Below.refl _ _⟩
    · have hcu' : ¬ u = cap := fun e => hcu e.symm
      have huc : (u : Int) ≤ (xs.length : Int) := by omega
      have HSD := hide (HSL.out.drop u hu)
      go_wp2_with fail
      refine (number_any _ _ (xs.drop u) HSD.out).mono ?_
      rintro e w2 ⟨rfl, rfl⟩
      have HQB := hide (dnum_bound (xs.drop u))
      have HQX := hide (dnum_bad (xs.drop u))
      obtain ⟨n, m, qe, hQ⟩ : ∃ n m qe, dnum (xs.drop u) = (n, m, qe) := ⟨_, _, _, rfl⟩
      rw [hQ] at HQB HQX HH ⊢
      simp only [dnumR] at HQB HQX HH ⊢
      by_cases hq : qe = 0
      · subst hq
        have hqb := HQB.out rfl
        rw [List.length_drop] at hqb
        obtain ⟨hqn, hqm, hqm9⟩ := hqb
        have HK := hide (HD3.out hn u n m HRR.out hQ)
        have HFK := hide (dfit_ok (h := hn) (n := n))
        have HFL := hide (dfit_lt hn n)
        clear HQB HQX HH hQ HRR HD3
        go_wp2_with fail
        refine (fits_any _ hn n (by omega) (by omega)).mono ?_
        rintro e w3 ⟨rfl, rfl⟩
        generalize dfit hn n = f at *
        by_cases hf : f = 0
        · subst hf
          have hfk := HFK.out rfl
          have HK2 := hide (HK.out.2 rfl)
          have hn64 : n ≤ 64 := hfk.2
          clear HK HFK HFL hfk
          by_cases hs : xs.length - (u + m) < n
          · have HE : Hid (dread xs = (0, [], 0, 32)) := HK2.out.1 hs
            have hs' : (xs.length : Int) < (u : Int) + (m : Int) + (n : Int) := by omega
            go_wp2_with fail
            refine bodyPost_ret (results_four rfl _ _ _) rfl ⟨_, by rw [HE.out]; rfl, by rw [HE.out]; exact World.ownsRow_nil _ _ _ _, Below.refl _ _⟩
          · have HE : Hid (dread xs = (hn, (xs.drop (u + m)).take n, u + m + n, 0)) := HK2.out.2 hs
            have hs' : ¬ (xs.length : Int) < (u : Int) + (m : Int) + (n : Int) := by omega
            have hum : u + m ≤ xs.length := by omega
            by_cases hn0 : n = 0
            · subst hn0
              rw [List.take_zero] at HE
              go_wp2_with fail
              refine (clone_any _ _ [] (bsl_nil _ _ _) (by simp)).mono ?_
              rintro e w4 ⟨v4, rfl, ho4, hb4⟩
              have HO4 := hide ho4
              have HB4 := hide hb4
              clear ho4 hb4
              go_wp2_with fail
              refine bodyPost_ret (results_four rfl _ _ _) rfl ⟨v4, by rw [HE.out]; rfl, by rw [HE.out]; exact HO4.out, HB4.out⟩
            · have HTL : Hid (((xs.drop (u + m)).take n).length = n) := by
                show _ = _
                rw [List.length_take, List.length_drop]
                omega
              have HVS : Hid (BSl w3 (.slice (some ⟨b, off + (u + m), none⟩) n n) ((xs.drop (u + m)).take n)) := (HSL.out.drop (u + m) hum).take3 n (by rw [List.length_drop]; omega)
              generalize (xs.drop (u + m)).take n = D at *
              have hne : ¬ u + m + n = u + m := by omega
              go_wp2_with fail
              refine (clone_any _ _ D HVS.out (by rw [HTL.out]; omega)).mono ?_
              rintro e w4 ⟨v4, rfl, ho4, hb4⟩
              have HO4 := hide ho4
              have HB4 := hide hb4
              clear ho4 hb4
              go_wp2_with fail
              refine bodyPost_ret (results_four rfl _ _ _) rfl ⟨v4, by rw [HE.out]; rfl, by rw [HE.out]; exact HO4.out, HB4.out⟩
        · have g : ((f : Int) != 0) = true := bne_iff_ne.2 (by omega)
          have HE : Hid (dread xs = (0, [], 0, f)) := HK.out.1 hf
          have hf32 := HFL.out
          go_wp2_with fail
          refine bodyPost_ret (results_four rfl _ _ _) rfl ⟨_, by rw [HE.out]; rfl, by rw [HE.out]; exact World.ownsRow_nil _ _ _ _, Below.refl _ _⟩
      · have g : ((qe : Int) != 0) = true := bne_iff_ne.2 (by omega)
        have HE : Hid (dread xs = (0, [], 0, qe)) := HH.out hq
        have hq3 := HQX.out hq
        go_wp2_with fail
        refine bodyPost_ret (results_four rfl _ _ _) rfl ⟨_, by rw [HE.out]; rfl, by rw [HE.out]; exact World.ownsRow_nil _ _ _ _, Below.refl _ _⟩
  · have HE := hide (HD1.out hr)
    have hbad := HRX.out hr
    obtain ⟨hn, u, re, hR⟩ : ∃ hn u re, dnum xs = (hn, u, re) := ⟨_, _, _, rfl⟩
    rw [hR] at HE hr hbad ⊢
    simp only [dnumR] at HE hr hbad ⊢
    have g : ((re : Int) != 0) = true := bne_iff_ne.2 (by omega)
    go_wp2_with fail
    refine bodyPost_ret (results_four rfl _ _ _) rfl ⟨_, by rw [HE.out]; rfl, by rw [HE.out]; exact World.ownsRow_nil _ _ _ _, Below.refl _ _⟩
end
section
open Go.RowKit Go
/-! ### What is laid is read; what is read is laid -/
theorem dnum_small {n : Nat} (h : n < 128) (r : List Nat) : dnum (n :: r) = (n, 1, 0) := by
  have e : rd 0 0 (n :: r) = (n, 1, 0) := by
    rw [rd]
    have h1 : ¬ 128 ≤ n := by omega
    simp [h1]
    omega
  unfold dnum
  rw [e]
  rfl
theorem dread_laid {h : Nat} {d ms : List Nat} (hk : (h = 18 ∧ d.length = 32) ∨ (h = 0 ∧ d.length ≤ 64)) : dread (h :: d.length :: d ++ ms) = (h, d, 2 + d.length, 0) := by
  have e1 : dnum (h :: d.length :: d ++ ms) = (h, 1, 0) := dnum_small (by omega) _
  have e2 : dnum ((h :: d.length :: d ++ ms).drop 1) = (d.length, 1, 0) := dnum_small (by omega) _
  have f : dfit h d.length = 0 := by
    unfold dfit
    rw [if_neg (by omega), if_neg (by omega)]
  have K := ((dread_fit e1 e2).2 f).2 (by simp)
  rw [K]
  simp
theorem dread_cut {h : Nat} {d : List Nat} (hk : (h = 18 ∧ d.length = 32) ∨ (h = 0 ∧ d.length ≤ 64)) (k : Nat) (hlt : k < 2 + d.length) : dread ((h :: d.length :: d).take k) = (0, [], 0, 32) := by
  match k, hlt with
  | 0, _ =>
    have e : (dnum ([] : List Nat)).2.2 ≠ 0 := by rw [dnum_nil]; decide
    have := dread_one e
    rw [dnum_nil] at this
    simpa using this
  | 1, _ =>
    have e1 : dnum [h] = (h, 1, 0) := dnum_small (by omega) _
    have e2 : (dnum ([h].drop 1)).2.2 ≠ 0 := by simp [dnum_nil]
    have := (dread_rest e1).1 e2
    simpa [dnum_nil] using this
  | k + 2, hlt =>
    have e0 : (h :: d.length :: d).take (k + 2) = h :: d.length :: d.take k := rfl
    rw [e0]
    have e1 : dnum (h :: d.length :: d.take k) = (h, 1, 0) := dnum_small (by omega) _
    have e2 : dnum ((h :: d.length :: d.take k).drop 1) = (d.length, 1, 0) := dnum_small (by omega) _
    have f : dfit h d.length = 0 := by
      unfold dfit
      rw [if_neg (by omega), if_neg (by omega)]
    exact ((dread_fit e1 e2).2 f).1 (by simp; omega)
theorem rd_small : ∀ (xs : List Nat) (k m : Nat), 1 ≤ k → (rd k m xs).2.2 = 0 → 128 ^ k ≤ (rd k m xs).1
  | [], k, m, _, h => by
    rw [rd] at h
    split at h <;> simp at h
  | x :: r, k, m, hk, h => by
    rw [rd] at h ⊢
    by_cases h9 : k = 9
    · rw [if_pos h9] at h; simp at h
    · rw [if_neg h9] at h ⊢
      by_cases h1 : 128 ≤ x
      · rw [if_pos h1] at h ⊢
        have := rd_small r (k + 1) _ (by omega) h
        have e : 128 ^ (k + 1) = 128 * 128 ^ k := by rw [Nat.pow_succ, Nat.mul_comm]
        have hp : 0 < 128 ^ k := Nat.pow_pos (by decide)
        omega
      · rw [if_neg h1] at h ⊢
        by_cases h0 : x = 0 ∧ 0 < k
        · rw [if_pos h0] at h; simp at h
        · rw [if_neg h0]
          simp only
          have hx : 1 ≤ x % 128 := by omega
          have : 1 * 128 ^ k ≤ x % 128 * 128 ^ k := Nat.mul_le_mul_right _ hx
          omega
theorem dnum_form {xs : List Nat} {n u : Nat} (h : dnum xs = (n, u, 0)) (hn : n < 128) : u = 1 ∧ ∃ r, xs = n :: r := by
  have h0 : (rd 0 0 xs).2.2 = 0 := by
    by_cases e : (rd 0 0 xs).2.2 = 0
    · exact e
    · unfold dnum at h
      rw [if_neg e] at h
      injection h with _ h
      injection h with _ h
      split at h <;> cases h
  have hr : rd 0 0 xs = (n, u, 0) := by
    unfold dnum at h
    rw [if_pos h0] at h
    exact h
  cases xs with
  | nil => rw [rd] at hr; simp at hr
  | cons x r =>
    rw [rd] at hr
    simp only [if_neg (show ¬ (0 : Nat) = 9 by decide)] at hr
    by_cases h1 : 128 ≤ x
    · rw [if_pos h1] at hr
      have h2 := rd_small r 1 (0 + x % 128 * 128 ^ 0) (by omega) (by rw [hr])
      rw [hr] at h2
      simp at h2
      omega
    · rw [if_neg h1, if_neg (by omega)] at hr
      injection hr with e1 e2
      injection e2 with e2 _
      simp at e1
      refine ⟨e2.symm, r, ?_⟩
      rw [← e1, Nat.mod_eq_of_lt (by omega)]
theorem dread_back {xs : List Nat} (h : (dread xs).2.2.2 = 0) : (dread xs).2.2.1 ≤ xs.length ∧ dlay (dread xs).1 (dread xs).2.1 = (xs.take (dread xs).2.2.1, 0) ∧ (dread xs).1 < 128 := by
  by_cases h1 : (dnum xs).2.2 = 0
  · obtain ⟨hn, u, re, hR⟩ : ∃ hn u re, dnum xs = (hn, u, re) := ⟨_, _, _, rfl⟩
    rw [hR] at h1
    simp only at h1
    subst h1
    by_cases h2 : (dnum (xs.drop u)).2.2 = 0
    · obtain ⟨n, m, qe, hQ⟩ : ∃ n m qe, dnum (xs.drop u) = (n, m, qe) := ⟨_, _, _, rfl⟩
      rw [hQ] at h2
      simp only at h2
      subst h2
      have K := dread_fit hR hQ
      by_cases hf : dfit hn n = 0
      · have hk := dfit_ok hf
        have K2 := K.2 hf
        by_cases hs : xs.length - (u + m) < n
        · rw [K2.1 hs] at h; cases h
        · have E := K2.2 hs
          obtain ⟨hu, r, hx⟩ := dnum_form hR (by omega)
          subst hu
          subst hx
          have hQ' : dnum r = (n, m, 0) := hQ
          obtain ⟨hm, r2, hr⟩ := dnum_form hQ' (by omega)
          subst hm
          subst hr
          rw [E]
          have hlen : n ≤ r2.length := by simp at hs; omega
          have e : ((hn :: n :: r2).drop (1 + 1)).take n = r2.take n := rfl
          have et : (hn :: n :: r2).take (1 + 1 + n) = hn :: n :: r2.take n := by
            have : 1 + 1 + n = n + 1 + 1 := by omega
            rw [this]
            rfl
          refine ⟨by simp; omega, ?_, by simp only; omega⟩
          simp only
          rw [e, et, dlay_fit]
          have el : (r2.take n).length = n := by simp; omega
          rw [el, if_pos hf]
      · rw [K.1 hf] at h; exact absurd h hf
    · rw [(dread_rest hR).1 h2] at h; exact absurd h h2
  · rw [dread_one h1] at h; exact absurd h h1
theorem dlay_ok {h : Nat} {d : List Nat} (hk : (h = 18 ∧ d.length = 32) ∨ (h = 0 ∧ d.length ≤ 64)) : dlay h d = (h :: d.length :: d, 0) := by
  unfold dlay
  rw [if_neg (by omega), if_neg (by omega)]
theorem dlay_long {d : List Nat} (hd : 64 < d.length) : dlay 0 d = ([], 31) := by
  unfold dlay
  rw [if_neg (by omega), if_pos (by omega)]
end
end Go.Proofs.YtidglddjinfncaaDoor

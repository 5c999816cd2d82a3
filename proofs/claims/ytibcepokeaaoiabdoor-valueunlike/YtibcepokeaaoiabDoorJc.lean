import Derived.Test.YtibcepokeaaoiabDoorJb
import Derived.Deep.QuietTactic
import Derived.StillTail
import Derived.Laws.CopyOwn
import Derived.Lib.SliceRun
namespace Go.Proofs.YtibcepokeaaoiabDoor
section
open Go.RowKit
/-- What is written behind all bytes. -/
def endg (n : Nat) : List Nat := [128] ++ List.replicate (zer n) 0 ++ beb 8 (8 * n)
theorem pad_endg (xs : List Nat) : pad xs = xs ++ endg xs.length := by simp [pad, endg]
theorem make128 (w : World) : (Instr.makeSlice 23 (.int .i64 0) (.int .i64 128)).run Tryd.prog w = .ok (.slice (some ⟨w.heap.size, 0, none⟩) 0 128) (w.alloc (.cells (bv (List.replicate 128 0)).toArray 5)) := by kernel_rfl
theorem own_make {w : World} {c : Nat} {cs : List Value} (hl : cs.length = c) (hc : c ≤ maxLen) : (w.alloc (.cells cs.toArray 5)).ownsRow w.heap.size 5 1 (.slice (some ⟨w.heap.size, 0, none⟩) 0 c) 0 (bv []) :=
  ⟨rfl, .inr ⟨w.heap.size, c, _, rfl, Nat.le_refl _, heap_alloc_new w _, Nat.zero_le _, hc, by simpa using hl, by simp [bv]⟩⟩
end
section
open Go.RowKit
theorem sha_len (xs : List Nat) : (sha xs).length = 32 := outb_len _ (abs_len _ hh rfl _)
theorem sha_byte (xs : List Nat) : ∀ x ∈ sha xs, x < 256 := outb_byte _
/-- A block of bytes, as a slice of all of it. -/
theorem bsl_block {w : World} {g : Nat} {xs : List Nat} {t : TypeId} (h : w.heap[g]? = some (.cells (bv xs).toArray t (0, 0))) (hb : ∀ x ∈ xs, x < 256) (hl : xs.length ≤ 9223372036854775807) : BSl w (.slice (some ⟨g, 0, none⟩) xs.length xs.length) xs := by
  refine ⟨⟨_, xs.length, rfl, ⟨Nat.le_refl _, fun h => by cases h⟩, .inr ⟨g, 0, rfl, fun j hj => ?_⟩⟩, hl, hb⟩
  rw [Nat.zero_add]
  exact blk_cell h (by rw [List.getElem?_toArray]; exact bv_get hj)
/-- What Holds of the document tells. -/
def dholds (h : Nat) (d xs : List Nat) : Bool := if h = 18 then decide (d = sha xs) else decide (h = 0) && (decide (d.length ≤ 64) && decide (d = xs))

theorem one32 (xs : List Nat) : (bv (sha xs)).toArray.all (·.oneCell') = true := by
  rw [Array.all_eq_true_iff_forall_mem]
  intro u hu
  exact bv_one _ u (by simpa using hu)
end
section
open Go.RowKit

end
section
open Go.RowKit
/-- The worlds that hold what w holds, and maybe more. -/
structure Ext (w : World) where
  w' : World
  h : Below w.heap.size w w'
instance (w : World) : Nonempty (Ext w) := ⟨⟨w, Below.refl _ _⟩⟩
theorem Ext.cell {w : World} {p : Addr} {v : Value} (h : w.cell? p = some v) (t : Ext w) : t.w'.cell? p = some v := keep_below t.h _ _ h
theorem Ext.bsl {w : World} {v : Value} {xs : List Nat} (h : BSl w v xs) (t : Ext w) : BSl t.w' v xs := h.move (keep_below t.h)
/-- A region that draws its order, whose operations read and whose callees read or make memory: one walk, in the text's order. -/
theorem region_ext {id : Nat} {Q : Exit → Act → World → Prop} {a : Act} {w : World} {l : List Oper} (hm : Tryd.prog.follows .mixedOrders = true) (hB : Region.lexB .any l.toArray = true)
    (h : wpQuiet Tryd.prog l.toArray (fun w' => ∃ t : Ext w, w' = t.w') (fun a' => ∀ w', (∃ t : Ext w, w' = t.w') → Q .normal a' w') l a) : (Code.region id l.toArray true).wp Tryd.prog Q a w :=
  wp_region_quiet (C := fun w' => ∃ t : Ext w, w' = t.w') hm hB ⟨⟨w.drew, (Below.refl _ _).drew⟩, rfl⟩ (by simpa using h)
/-- A callee that leaves the world as it is. -/
theorem Calls.ext_same {f : FuncId} {args : Array Value} {w : World} {t : Ext w} {v : Value} (h : Calls Tryd.prog f args t.w' fun e w' => e = .returned v ∧ w' = t.w') : Calls Tryd.prog f args t.w' fun e w'' => e = .returned v ∧ ∃ t' : Ext w, w'' = t'.w' :=
  h.mono fun _ _ ⟨he, hm⟩ => ⟨he, t, hm⟩
/-- A callee that makes memory. -/
theorem Calls.ext_below {f : FuncId} {args : Array Value} {w : World} {t : Ext w} {v : Value} (h : Calls Tryd.prog f args t.w' fun e w' => e = .returned v ∧ Below t.w'.heap.size t.w' w') : Calls Tryd.prog f args t.w' fun e w'' => e = .returned v ∧ ∃ t' : Ext w, w'' = t'.w' :=
  h.mono fun _ w' ⟨he, hb⟩ => ⟨he, ⟨w', t.h.trans (hb.mono t.h.size)⟩, rfl⟩
end
section
open Go.RowKit Go
section
variable {P : Program} {ops : Array Oper} {md : Region.Mode} {C : World → Prop}

/-- The first operations of a region, in whatever order, all of them quiet in a class of worlds; behind them L. -/
def hdQ (P : Program) (md : Region.Mode) (ops : Array Oper) (C : World → Prop) (n : Nat) (L : Array Bool → Act → Prop) : Nat → Array Bool → Act → Prop
  | 0, s, a => L s a
  | f + 1, s, a => Region.ready md ops s ≠ [] ∧ ∀ i ∈ Region.ready md ops s, i < n ∧ qOp P ops C i (hdQ P md ops C n L f (s.setIfInBounds i true)) a

theorem hdQ_any {n g : Nat} {L : Array Bool → Act → Prop} {Q : Exit → Act → World → Prop} (hL : ∀ s a w, C w → L s a → wpAny P md ops Q g s a w) : ∀ (f : Nat) (s : Array Bool) (a : Act) (w : World), C w → hdQ P md ops C n L f s a → wpAny P md ops Q (f + g) s a w := by
  intro f
  induction f with
  | zero => intro s a w hw h; rw [Nat.zero_add]; exact hL s a w hw h
  | succ f ih =>
    intro s a w hw h
    have e : f + 1 + g = (f + g) + 1 := by omega
    rw [e]
    exact ⟨fun h0 => absurd h0 h.1, fun i hi => wpOp_of_qOp hw (fun a' w' hw' h' => ih _ a' w' hw' h') (h.2 i hi).2⟩

theorem hdQ_first {n i : Nat} {oi : Oper} {v : Value} {L : Array Bool → Act → Prop} (hi : ops[i]? = some oi) (hsel : ∀ (j : Nat) (o : Oper) cs b, ops[j]? = some o → o.op ≠ .select cs b)
    (hs : Region.sinkB md ops n = true) (hc : Region.chainB md ops n = true) (hn : n < ops.size) (hin : i < n) (hd : ∀ s a, L s a → ∀ j ∈ Region.ready md ops s, n ≤ j)
    (f : Nat) : ∀ (s : Array Bool) (a : Act), HeadInv md ops n s →
      (∀ j oj, ops[j]? = some oj → j ≠ i → s.getD j true = false → (∀ e ∈ oj.after, Region.binds md e = true → e.on ≠ i) → oi.apart ops oj = true) →
      i ∈ Region.ready md ops s → YieldsIn P ops C oi v a → hdQ P md ops C n L f (s.setIfInBounds i true) (a.put oi.dst v) → hdQ P md ops C n L (f + 1) s a := by
  have low : ∀ s, HeadInv md ops n s → i ∈ Region.ready md ops s → ∀ j ∈ Region.ready md ops s, j < n := fun s inv hr j hj => by
    by_cases h : j < n
    · exact h
    · exact absurd hj (tail_waits hs hc hn inv _ i rfl hin (mem_ready.1 hr).1 j (by omega))
  have some_ready : ∀ s : Array Bool, i ∈ Region.ready md ops s → Region.ready md ops s ≠ [] := fun s hr h => by rw [h] at hr; cases hr
  induction f with
  | zero =>
    intro s a inv _ hr hy H
    refine ⟨some_ready s hr, fun j hj => ⟨low s inv hr j hj, ?_⟩⟩
    by_cases e : j = i
    · subst e; exact hy.qOp hi H
    · have := hd _ _ H j (ready_mono hj e)
      have := low s inv hr j hj
      omega
  | succ f ih =>
    intro s a inv hf hr hy H
    refine ⟨some_ready s hr, fun j hj => ⟨low s inv hr j hj, ?_⟩⟩
    by_cases e : j = i
    · subst e; exact hy.qOp hi H
    · obtain ⟨hju, oj, hoj, hall⟩ := mem_ready.1 hj
      have hun := getD_both (mem_ready.1 hr).1
      have hfj := hf j oj hoj e hju (fun d hd' hb he => by
        have h := hall d hd' hb
        rw [he, hun] at h
        cases h)
      have h2 := qOp_put hoj hfj (fun cs b => hsel i oi cs b hi) (fun cs b => hsel j oj cs b hoj) hy (H.2 j (ready_mono hj e)).2
      refine qOp_mono (fun a' h3 => ih (s.setIfInBounds j true) a' (inv.set hj (low s inv hr j hj)) (fun k ok hk hki hku hno => hf k ok hk hki ?_ hno) (ready_mono hr (Ne.symm e)) h3.1 ?_) h2
      · by_cases ejk : j = k
        · subst ejk; exact hju
        · rw [getD_set_ne true ejk] at hku; exact hku
      · rw [Array.setIfInBounds_comm _ _ e]
        exact h3.2

theorem hdQ_lex {n g : Nat} {Lq : Act → Prop} (hsel : Region.noSelect ops = true) (hs : Region.sinkB md ops n = true) (hc : Region.chainB md ops n = true) (hn : n < ops.size) (l : List Oper) :
    ∀ (k : Nat) (s : Array Bool) (a : Act), (∀ j, j < l.length → l[j]? = ops[k + j]?) → k + l.length = n → HeadInv md ops n s → Region.lexHead md ops g l.length k s = true → wpQuiet P ops C Lq l a →
      hdQ P md ops C n (fun s' a' => Region.seqB md ops g n s' = true ∧ Lq a') l.length s a := by
  induction l with
  | nil =>
    intro k s a _ hk _ hB h
    obtain rfl : k = n := by simpa using hk
    exact ⟨by simpa [Region.lexHead] using hB, h⟩
  | cons o l ih =>
    intro k s a hl hk inv hB h
    have h0 : ops[k]? = some o := by simpa using (hl 0 (by simp)).symm
    simp only [List.length_cons] at hk
    simp only [List.length_cons, Region.lexHead, Bool.and_eq_true] at hB
    have hr : k ∈ Region.ready md ops s := by simpa using hB.1.1
    have hq : qOp P ops C k (wpQuiet P ops C Lq l) a := by unfold qOp; simp only [h0]; exact h
    obtain ⟨v, hy, hK⟩ := yieldsIn_of_qOp h0 hq
    refine hdQ_first h0 (Region.noSelect_spec hsel) hs hc hn (by omega) (fun s' a' hL => seqB_ready hL.1) l.length s a inv (Region.free_spec h0 hB.1.2) hr hy (ih (k + 1) _ _ (fun j hj => ?_) (by omega) (inv.set hr (by omega)) hB.2 hK)
    have := hl (j + 1) (by simp; omega)
    simpa [Nat.add_assoc, Nat.add_comm 1 j] using this

/-- A region that draws its order: the first n operations quiet in a class of worlds, the rest in their own order behind them. -/
theorem wp_region_quiet_tail {id : Nat} {Q : Exit → Act → World → Prop} {a : Act} {w : World} {l : List Oper} (n : Nat) (hm : P.follows .mixedOrders = true) (hB : Region.lexTailB .any l.toArray n = true) (hC : C w.drew)
    (h : wpQuiet P l.toArray C (fun a' => ∀ w', C w' → wpList P l.toArray Q (l.drop n) a' w') (l.take n) a) : (Code.region id l.toArray true).wp P Q a w := by
  simp only [Region.lexTailB, Bool.and_eq_true, decide_eq_true_eq] at hB
  obtain ⟨⟨⟨⟨hsel, hn⟩, hs⟩, hc⟩, hlex⟩ := hB
  have hn' : n < l.length := by simpa using hn
  have ht : (l.take n).length = n := by simp; omega
  have hd : (l.drop n).length = l.toArray.size - n := by simp
  have inv : HeadInv .any l.toArray n (Array.replicate l.toArray.size false) :=
    ⟨by simp, fun j oj _ hl => absurd hl (by rw [getD_replicate_false]; decide), fun t _ ht => getD_in (by simpa using ht) (getD_replicate_false _ _)⟩
  have H := hdQ_lex (C := C) (md := .any) (g := l.toArray.size - n) hsel hs hc hn (l.take n) 0 _ a (fun j hj => by
    have : j < n := by omega
    simp [this]) (by simpa using ht) inv (by rw [ht]; exact hlex) h
  refine wp_region_any hm ?_
  have R := hdQ_any (Q := Q) (g := l.toArray.size - n) (fun s a' w' hw' hL => by
    have := wpAny_of_seq (md := .any) (Q' := Q) (l.drop n) n s a' w' (fun j => by simp [List.getElem?_drop]) (by rw [hd]; exact hL.1) (hL.2 w' hw')
    rwa [hd] at this) _ _ _ w.drew hC H
  have e : n + (l.toArray.size - n) = l.toArray.size := by simp; omega
  rw [ht, e] at R
  exact R
end

/-- The same, where the first n operations read, and their callees read or make memory. -/
theorem region_ext_tail {id : Nat} {Q : Exit → Act → World → Prop} {a : Act} {w : World} {l : List Oper} (n : Nat) (hm : Tryd.prog.follows .mixedOrders = true) (hB : Region.lexTailB .any l.toArray n = true)
    (h : wpQuiet Tryd.prog l.toArray (fun w' => ∃ t : Ext w, w' = t.w') (fun a' => ∀ w', (∃ t : Ext w, w' = t.w') → wpList Tryd.prog l.toArray Q (l.drop n) a' w') (l.take n) a) : (Code.region id l.toArray true).wp Tryd.prog Q a w :=
  wp_region_quiet_tail (C := fun w' => ∃ t : Ext w, w' = t.w') n hm hB ⟨⟨w.drew, (Below.refl _ _).drew⟩, rfl⟩ h
end
section
open Go.RowKit Go
/-! ### Parts of a block: by value, copied, cleared -/
theorem addr_add (g o j : Nat) : (⟨g, o, none⟩ : Addr).add j = ⟨g, o + j, none⟩ := by unfold Addr.add; split <;> simp_all
theorem part_load {w : World} {T e : TypeId} {n : Nat} (g off : Nat) (cs : List Value) (hu : Tryd.prog.underlying T = some (.array n e)) (hi : (Tryd.prog.info? T).map (·.size) = some cs.length) (hc : ∀ j v, cs[j]? = some v → w.cell? ⟨g, off + j, none⟩ = some v) :
    (Instr.loadAt T (.pointer (some ⟨g, off, none⟩))).run Tryd.prog w = .ok (.agg cs.toArray) w := by
  have hl := run_loadCells_list (P := Tryd.prog) (w := w) ⟨g, off, none⟩ cs (fun j v hv => by rw [addr_add]; exact hc j v hv)
  simp only [Instr.loadAt, Instr.sureAddr, Sem.run_bind, Sem.run_pure, Result.andThen]
  cases hq : Tryd.prog.info? T with
  | none => simp [hq] at hi
  | some i =>
    have hs : i.size = cs.length := by simpa [hq] using hi
    have ha : (isAgg T).run Tryd.prog w = .ok true w := by
      unfold isAgg
      rw [Sem.run_bind, run_underlying hu w]
      simp
    simp [loadVar, ha, sizeOf, typeInfo, hq, hs, hl]
theorem part_store {w : World} {T t : TypeId} (g off : Nat) (cur cs : List Value) (hg : w.heap[g]? = some (.cells cur.toArray t (0, 0))) (hi : (Tryd.prog.info? T).map (·.size) = some cs.length) (hf : off + cs.length ≤ cur.length) (h1 : ∀ v ∈ cs, v.oneCell' = true) :
    (Instr.storeAt T (.pointer (some ⟨g, off, none⟩)) (.agg cs.toArray)).run Tryd.prog w = .ok () (w.setRow g (splice cur off cs).toArray) := by
  have hst := run_storeCells_at (P := Tryd.prog) g off t cs 0 cur.toArray w hg (by simpa using hf) h1
  simp only [Nat.add_zero, List.append_assoc] at hst
  simp only [Instr.storeAt, Instr.sureAddr, Sem.run_bind, Sem.run_pure, Result.andThen]
  cases hq : Tryd.prog.info? T with
  | none => simp [hq] at hi
  | some i =>
    have hs : cs.length = i.size := by simp [hq] at hi; omega
    simp [storeVar, sizeOf, typeInfo, hq, Value.cells, hs, hst, splice]
/-- A part of a block by value, as a step of a region that draws. -/
theorem qstep_load {C : World → Prop} {ops : Array Oper} {o : Oper} {a : Act} {K : Act → Prop} {T e : TypeId} {n : Nat} {p : Operand} (hgd : o.guard = none) (ho : o.op = .load T p) (g off : Nat) (cs : List Value)
    (hp : a.eval p = .pointer (some ⟨g, off, none⟩)) (hu : Tryd.prog.underlying T = some (.array n e)) (hi : (Tryd.prog.info? T).map (·.size) = some cs.length) (hc : ∀ w, C w → ∀ j v, cs[j]? = some v → w.cell? ⟨g, off + j, none⟩ = some v)
    (h : K (a.put o.dst (.agg cs.toArray))) : if Region.wanted o (yielded ops a.tmps) = true then o.quiet Tryd.prog a C K else K (a.put o.dst undef) := by
  have hw : Region.wanted o (yielded ops a.tmps) = true := by simp [Region.wanted, hgd]
  rw [if_pos hw]
  refine ⟨.agg cs.toArray, fun w hC => ?_, h⟩
  unfold Oper.quietAt execOp
  simp only [ho, Sem.run_bind, hp, part_load g off cs hu hi (hc w hC), Result.andThen_ok]
  exact ⟨rfl, rfl⟩
theorem wpList_storePart {ops : Array Oper} {rest : List Oper} {o : Oper} {a : Act} {Q : Exit → Act → World → Prop} {w : World} {T : TypeId} {p x : Operand} (hgd : o.guard = none) (ho : o.op = .store T p x) (g off : Nat) (cur cs : List Value) (t : TypeId)
    (hp : a.eval p = .pointer (some ⟨g, off, none⟩)) (hx : a.eval x = .agg cs.toArray) (hg : w.heap[g]? = some (.cells cur.toArray t (0, 0))) (hi : (Tryd.prog.info? T).map (·.size) = some cs.length) (hf : off + cs.length ≤ cur.length) (h1 : ∀ v ∈ cs, v.oneCell' = true)
    (h : ∀ w', Hid (w'.heap[g]? = some (.cells (splice cur off cs).toArray t (0, 0))) → Hid (Kp (fun q => q = g) w w') → wpList Tryd.prog ops Q rest (a.put o.dst undef) w') : wpList Tryd.prog ops Q (o :: rest) a w := by
  refine wpList_plain hgd fun K hK => ?_
  unfold Oper.wp execOp
  simp only [ho, Sem.run_bind, hp, hx, part_store g off cur cs hg hi hf h1, Result.andThen_ok]
  exact hK _ _ (h _ (row_same hg) (row_kp _ _ _))
theorem wpList_copyPart {ops : Array Oper} {rest : List Oper} {o : Oper} {a : Act} {Q : Exit → Act → World → Prop} {w : World} (hgd : o.guard = none) (d s : Operand)
    (ho : o.op = .call { callee := .builtin .copy, args := #[d, s], argTypes := #[23, 23] }) (g off dLen dCap : Nat) (hd : a.eval d = .slice (some ⟨g, off, none⟩) dLen dCap) (xs : List Nat) (v : Value) (hs : a.eval s = v) (hb : BSl w v xs)
    (cur : List Value) (t : TypeId) (hg : w.heap[g]? = some (.cells cur.toArray t (0, 0))) (ys : List Nat) (k : Nat) (hk : ys.length = k) (hy : ys = xs.take dLen) (hf : off + ys.length ≤ cur.length)
    (h : ∀ w', Hid (w'.heap[g]? = some (.cells (splice cur off (bv ys)).toArray t (0, 0))) → Hid (Kp (fun q => q = g) w w') → wpList Tryd.prog ops Q rest (a.put o.dst (.int .i64 (k : Nat))) w') : wpList Tryd.prog ops Q (o :: rest) a w := by
  subst hk
  obtain ⟨⟨a', cap, rfl, hn, hc⟩, hmax, hby⟩ := hb
  have hsz : (Tryd.prog.info? 5).map (·.size) = some 1 := by
    have h5 := Tryd.info5
    cases hq : Tryd.prog.info? 5 with
    | none => simp [hq] at h5
    | some i => simp [hq] at h5 ⊢; exact h5.2.1
  have hl : ys.length = Nat.min xs.length dLen := by subst hy; simp [Nat.min_comm]
  by_cases h0 : ys.length = 0
  · refine wpList_copy_nothing hgd d s _ _ ho 5 Tryd.underlying23 hsz _ _ _ _ _ _ hd hs (by omega) ?_
    have e0 : ys = [] := List.eq_nil_of_length_eq_zero h0
    have h2 := h w (by show _ = _; subst e0; simpa [splice, bv] using hg) (Kp.refl _ _)
    rw [h0] at h2
    exact h2
  · rcases hc with hc | ⟨b, o', rfl, hc⟩
    · subst hc; subst hy; simp at h0
    have hlb : (bv ys).length = ys.length := bv_len ys
    refine wpList_copy_own hgd d s _ _ ho 5 Tryd.underlying23 hsz g off dLen dCap ⟨b, o', none⟩ _ _ hd hs cur.toArray t hg (bv ys) (by rw [hlb]; exact hl) (fun j v hv => ?_) (by rw [hlb]; simpa using hf) (bv_one ys) ?_
    · have hj : j < ys.length := by
        rw [← hlb]
        exact (List.getElem?_eq_some_iff.1 hv).1
      rw [bv_get hj] at hv
      have e : ys.getD j 0 = xs.getD j 0 := by
        subst hy
        simp only [List.getD_eq_getElem?_getD, List.getElem?_take]
        rw [if_pos (by simp at hj; omega)]
      rw [addr_add, hc j (by have := Nat.min_le_left xs.length dLen; have : ys.length ≤ xs.length := by rw [hl]; exact this
                             omega), ← e]
      exact hv
    · have h2 := h (w.setRow g (splice cur off (bv ys)).toArray) (row_same hg) (row_kp _ _ _)
      simpa [splice, hlb, goInt] using h2
theorem wpList_clearPart {ops : Array Oper} {rest : List Oper} {o : Oper} {a : Act} {Q : Exit → Act → World → Prop} {w : World} (hgd : o.guard = none) (s : Operand)
    (ho : o.op = .call { callee := .builtin .clear, args := #[s], argTypes := #[23] }) (g off n c : Nat) (hs : a.eval s = .slice (some ⟨g, off, none⟩) n c) (hn : 0 < n)
    (cur : List Value) (t : TypeId) (hg : w.heap[g]? = some (.cells cur.toArray t (0, 0))) (hf : off + n ≤ cur.length)
    (h : ∀ w', Hid (w'.heap[g]? = some (.cells (splice cur off (bv (List.replicate n 0))).toArray t (0, 0))) → Hid (Kp (fun q => q = g) w w') → wpList Tryd.prog ops Q rest (a.put o.dst (.tuple #[])) w') : wpList Tryd.prog ops Q (o :: rest) a w := by
  refine wpList_plain hgd fun K hK => ?_
  have hz : (∀ w, (zeroValue 5).run Tryd.prog w = .ok (.int .u8 0) w) := by
    have h5 := Tryd.info5
    intro w
    cases hq : Tryd.prog.info? 5 with
    | none => simp [hq] at h5
    | some i => simp [hq] at h5; simp [zeroValue, typeInfo, hq, h5.1]
  have hst := run_storeCells_at (P := Tryd.prog) g off t (bv (List.replicate n 0)) 0 cur.toArray w hg (by simpa [bv_len] using hf) (bv_one _)
  simp only [Nat.add_zero, List.append_assoc] at hst
  have hzc : (Builtin.zeroCells (Value.int .u8 0).cells n).toList = bv (List.replicate n 0) := by
    simp [Builtin.zeroCells, Value.cells, bv]
    apply List.ext_getElem
    · simp
    · intro i h1 h2
      simp [Nat.mod_one]
  have hrun : (Builtin.clear_ #[23] o.type #[.slice (some ⟨g, off, none⟩) n c]).run Tryd.prog w = .ok (.tuple #[]) (w.setRow g (splice cur off (bv (List.replicate n 0))).toArray) := by
    obtain ⟨m, rfl⟩ : ∃ m, n = m + 1 := ⟨n - 1, by omega⟩
    simp [Builtin.clear_, run_underlying Tryd.underlying23, hz, hzc, hst, splice]
  unfold Oper.wp
  simp [execOp, ho, resolve, invoke, builtin, hs, hrun, Result.andThen]
  exact hK _ _ (h _ (row_same hg) (row_kp _ _ _))
end
section
open Go.RowKit Go
/-! ### The state over pieces -/
theorem wrd_take (l : List Nat) (p : Nat) (q : Nat) (h : q + 4 ≤ 64) : wrd ((l.drop p).take 64) q = wrd l (p + q) := by
  unfold wrd
  have g : ∀ j, j < 64 → ((l.drop p).take 64).getD j 0 = l.getD (p + j) 0 := by
    intro j hj
    simp [List.getD, hj]
  rw [g q (by omega), g (q + 1) (by omega), g (q + 2) (by omega), g (q + 3) (by omega)]
  rfl
theorem wl_take (l : List Nat) (p : Nat) : ∀ n, wl ((l.drop p).take 64) 0 n = wl l p n
  | 0 => rfl
  | n + 1 => by
    rw [wl, wl, wl_take l p n]
    by_cases h : n < 16
    · rw [if_pos h, if_pos h, Nat.zero_add, wrd_take l p (4 * n) (by omega)]
    · rw [if_neg h, if_neg h]
theorem rl_take (l : List Nat) (p : Nat) (s : List Nat) : ∀ n, rl ((l.drop p).take 64) 0 s n = rl l p s n
  | 0 => rfl
  | n + 1 => by rw [rl, rl, rl_take l p s n, wl_take]
theorem cmp_take (l : List Nat) (p : Nat) (s : List Nat) : cmp ((l.drop p).take 64) 0 s = cmp l p s := by
  unfold cmp
  rw [rl_take]
theorem abs_app (xs ys s : List Nat) : ∀ n, 64 * n ≤ xs.length → abs (xs ++ ys) s n = abs xs s n
  | 0, _ => rfl
  | n + 1, h => by
    rw [abs, abs, abs_app xs ys s n (by omega), ← cmp_take, ← cmp_take xs]
    congr 1
    rw [List.drop_append_of_le_length (by omega), List.take_append_of_le_length (by simp; omega)]
/-! ### The cells of a hash, by parts -/
theorem hc_rest {s r : List Nat} {c off : Nat} {ys : List Nat} (hs : s.length = 8) (hr : off + ys.length ≤ r.length) : splice (hc s r c) (8 + off) (bv ys) = hc s (splice r off ys) c := by
  have e8 : (wv s).length = 8 := by rw [wv_len, hs]
  have eb : (bv r).length = r.length := bv_len r
  have ey : (bv ys).length = ys.length := bv_len ys
  unfold splice hc
  rw [List.take_append, List.drop_append, e8, ey]
  have a1 : (wv s).take (8 + off) = wv s := List.take_of_length_le (by omega)
  have a2 : (wv s).drop (8 + off + ys.length) = [] := List.drop_eq_nil_of_le (by omega)
  have a3 : 8 + off - 8 = off := by omega
  have a4 : 8 + off + ys.length - 8 = off + ys.length := by omega
  rw [a1, a2, a3, a4, List.take_append_of_le_length (by omega), List.drop_append_of_le_length (by omega)]
  simp [bv, List.map_take, List.map_drop]
theorem hc_state {s s' r : List Nat} {c : Nat} (hs : s.length = 8) (hs' : s'.length = 8) : splice (hc s r c) 0 (wv s') = hc s' r c := by
  have e8 : (wv s).length = 8 := by rw [wv_len, hs]
  have e9 : (wv s').length = 8 := by rw [wv_len, hs']
  unfold splice hc
  rw [e9, List.take_zero, List.nil_append, List.drop_append, e8]
  have a2 : (wv s).drop (0 + 8) = [] := List.drop_eq_nil_of_le (by omega)
  rw [a2]
  simp
theorem hc_count {s r : List Nat} {c c' : Nat} (hs : s.length = 8) (hr : r.length = 64) : (hc s r c).toArray.setIfInBounds 72 (.int .u64 ((c' : Nat) : Int)) = (hc s r c').toArray := by
  have e8 : (wv s).length = 8 := by rw [wv_len, hs]
  have e6 : (bv r).length = 64 := by rw [bv_len, hr]
  unfold hc
  rw [List.setIfInBounds_toArray, List.set_append_right _ _ (by omega), List.set_append_right _ _ (by omega), e8, e6]
  rfl
theorem hc_getc {s r : List Nat} {c : Nat} (hs : s.length = 8) (hr : r.length = 64) : (hc s r c).toArray[72]? = some (.int .u64 ((c : Nat) : Int)) := by
  have e8 : (wv s).length = 8 := by rw [wv_len, hs]
  have e6 : (bv r).length = 64 := by rw [bv_len, hr]
  unfold hc
  rw [List.getElem?_toArray, List.getElem?_append_right (by omega), List.getElem?_append_right (by omega), e8, e6]
  rfl
theorem hc_gets {s r : List Nat} {c j : Nat} {v : Value} (h : (wv s)[j]? = some v) : (hc s r c).toArray[j]? = some v := by
  have hj := (List.getElem?_eq_some_iff.1 h).1
  unfold hc
  rw [List.getElem?_toArray, List.getElem?_append_left hj]
  exact h
theorem hc_getr {s r : List Nat} {c j : Nat} (hs : s.length = 8) (hj : j < r.length) : (hc s r c).toArray[8 + j]? = some (.int .u8 ((r.getD j 0 : Nat) : Int)) := by
  have e8 : (wv s).length = 8 := by rw [wv_len, hs]
  unfold hc
  rw [List.getElem?_toArray, List.getElem?_append_right (by omega), e8, List.getElem?_append_left (by rw [bv_len]; omega)]
  have e : 8 + j - 8 = j := by omega
  rw [e]
  exact bv_get hj
/-- The part of a hash's block that holds bytes, as a slice. -/
theorem bsl_rest {w : World} {g : Nat} {s r : List Nat} {c : Nat} {t : TypeId} (h : w.heap[g]? = some (.cells (hc s r c).toArray t (0, 0))) (hs : s.length = 8) (hr : r.length = 64) (hb : ∀ x ∈ r, x < 256) : BSl w (.slice (some ⟨g, 8, none⟩) 64 64) r := by
  refine ⟨⟨_, 64, by rw [hr], ⟨by omega, fun h => by cases h⟩, .inr ⟨g, 8, rfl, fun j hj => ?_⟩⟩, by omega, hb⟩
  exact blk_cell h (hc_getr hs hj)
end
section
open Go.RowKit Go
theorem tl_byte {xs : List Nat} (h : ∀ x ∈ xs, x < 256) : ∀ x ∈ tl xs, x < 256 := fun x hx => h x (List.mem_of_mem_drop hx)
theorem fillz_byte {xs : List Nat} (h : ∀ x ∈ xs, x < 256) : ∀ x ∈ fillz xs, x < 256 := fun x hx => by
  rcases List.mem_append.1 hx with hx | hx
  · exact h x hx
  · rw [List.eq_of_mem_replicate hx]; decide
theorem bsl_nil (w : World) (p : Addr) (c : Nat) : BSl w (.slice (some p) 0 c) [] := ⟨⟨_, c, rfl, ⟨Nat.zero_le _, fun h => by cases h⟩, .inl rfl⟩, by simp, by simp⟩
theorem Kp.bsl0 {S : Nat → Prop} {w w' : World} (h : Kp S w w') {v : Value} {xs : List Nat} (hb : BSl w v xs) (hs : xs ≠ [] → ∀ k, v.ownBlock = some k → ¬ S k) : BSl w' v xs := by
  by_cases h0 : xs = []
  · subst h0
    obtain ⟨⟨a, cap, rfl, hn, _⟩, hmax, hy⟩ := hb
    exact ⟨⟨a, cap, rfl, hn, .inl rfl⟩, hmax, hy⟩
  · exact h.bsl hb (hs h0)
theorem drop_ne {l : List Nat} {a b : Nat} (hab : a ≤ b) (h : l.drop b ≠ []) : l.drop a ≠ [] := fun e => h (by
  have := List.drop_eq_nil_iff.1 e
  exact List.drop_eq_nil_of_le (by omega))
theorem fillz_splice (l ys : List Nat) (H : Nat) (h : l.length = H) (hf : H + ys.length ≤ 64) : fillz (l ++ ys) = splice (fillz l) H ys := by
  subst h
  unfold fillz splice
  rw [List.take_left' rfl, List.drop_append, List.drop_eq_nil_of_le (by omega), List.nil_append, List.drop_replicate, List.append_assoc]
  have e : 64 - (l ++ ys).length = 64 - l.length - (l.length + ys.length - l.length) := by simp; omega
  rw [e]
theorem fillz_full (l ys : List Nat) (H : Nat) (h : l.length = H) (hf : H + ys.length = 64) : splice (fillz l) H ys = l ++ ys := by
  rw [← fillz_splice l ys H h (by omega)]
  unfold fillz
  have e : 64 - (l ++ ys).length = 0 := by simp; omega
  rw [e]
  simp

theorem fillz_end (R T : List Nat) (L : Nat) (hT : T.length = L) (hR : R.length = 64) (hL : L ≤ 64) : splice (splice R 0 T) L (List.replicate (64 - L) 0) = fillz T := by
  subst hT
  unfold splice fillz
  simp only [List.take_zero, List.nil_append, List.length_replicate, List.take_left' rfl]
  rw [List.drop_eq_nil_of_le (by simp; omega)]
  simp
end
section
open Go.RowKit Go
theorem wpList_loadAll {ops : Array Oper} {rest : List Oper} {o : Oper} {a : Act} {Q : Exit → Act → World → Prop} {w : World} {T : TypeId} {p : Operand} (hgd : o.guard = none) (ho : o.op = .load T p) (g : Nat) (cs : Array Value) (t : TypeId) {fs : Array Field}
    (hp : a.eval p = .pointer (some ⟨g, 0, none⟩)) (hg : w.heap[g]? = some (.cells cs t (0, 0))) (hu : Tryd.prog.underlying T = some (.struct fs)) (hi : (Tryd.prog.info? T).map (·.size) = some cs.size)
    (h : wpList Tryd.prog ops Q rest (a.put o.dst (.agg cs)) w) : wpList Tryd.prog ops Q (o :: rest) a w := by
  refine wpList_plain hgd fun K hK => ?_
  unfold Oper.wp execOp
  have hr : (Instr.loadAt T (.pointer (some ⟨g, 0, none⟩))).run Tryd.prog w = .ok (.agg cs) w := by
    simp only [Instr.loadAt, Instr.sureAddr, Sem.run_bind, Sem.run_pure, Result.andThen]
    exact run_loadVar_row (P := Tryd.prog) w g t T cs (0, 0) _ hg hu rfl hi
  simp only [ho, Sem.run_bind, hp, hr, Result.andThen_ok]
  exact hK _ _ h
theorem wpList_loadPart {ops : Array Oper} {rest : List Oper} {o : Oper} {a : Act} {Q : Exit → Act → World → Prop} {w : World} {T e : TypeId} {n : Nat} {p : Operand} (hgd : o.guard = none) (ho : o.op = .load T p) (g off : Nat) (cs : List Value)
    (hp : a.eval p = .pointer (some ⟨g, off, none⟩)) (hu : Tryd.prog.underlying T = some (.array n e)) (hi : (Tryd.prog.info? T).map (·.size) = some cs.length) (hc : ∀ j v, cs[j]? = some v → w.cell? ⟨g, off + j, none⟩ = some v)
    (h : wpList Tryd.prog ops Q rest (a.put o.dst (.agg cs.toArray)) w) : wpList Tryd.prog ops Q (o :: rest) a w := by
  refine wpList_plain hgd fun K hK => ?_
  unfold Oper.wp execOp
  simp only [ho, Sem.run_bind, hp, part_load g off cs hu hi hc, Result.andThen_ok]
  exact hK _ _ h
theorem alloc2_new (w : World) (o1 o2 : Obj) : ((w.alloc o1).alloc o2).heap[w.heap.size + 1]? = some o2 := by
  have h := heap_alloc_new (w.alloc o1) o2
  have e : (w.alloc o1).heap.size = w.heap.size + 1 := by simp
  rwa [e] at h
theorem endg_byte (n : Nat) : ∀ x ∈ endg n, x < 256 := by
  intro x hx
  unfold endg at hx
  rcases List.mem_append.1 hx with hx | hx
  · rcases List.mem_append.1 hx with hx | hx
    · simp at hx; omega
    · rw [List.eq_of_mem_replicate hx]; decide
  · exact beb_byte _ _ _ hx
theorem endg_len (n : Nat) : (endg n).length ≤ 73 := by
  unfold endg
  have := zer_lt n
  simp [beb_len]
  omega
theorem hc_one (s r : List Nat) (c : Nat) : (hc s r c).toArray.all (·.oneCell') = true := by
  rw [Array.all_eq_true_iff_forall_mem]
  intro u hu
  have hu' : u ∈ hc s r c := by simpa using hu
  unfold hc at hu'
  rcases List.mem_append.1 hu' with h | h
  · exact wv_one _ u h
  · rcases List.mem_append.1 h with h | h
    · exact bv_one _ u h
    · simp at h; subst h; rfl
end
section
open Go.RowKit Go
theorem own_lt {w : World} {v : Value} {xs : List Nat} (h : BSl w v xs) (h0 : xs ≠ []) {k : Nat} (hk : v.ownBlock = some k) : k < w.heap.size := by
  obtain ⟨⟨a, cap, rfl, hn, hc⟩, hmax, hb⟩ := h
  rcases hc with hc | ⟨b, off, rfl, hc⟩
  · exact absurd hc h0
  · simp [Value.ownBlock] at hk
    subst hk
    have h1 := hc 0 (List.length_pos_iff.2 h0)
    by_cases hlt : b < w.heap.size
    · exact hlt
    · exfalso
      have e : w.heap[b]? = none := Array.getElem?_eq_none (by omega)
      simp [World.cell?, e] at h1
end
section
open Go.RowKit Go

end
section
open Go.RowKit
theorem lay_byte (m : Nat) (h : m < 9223372036854775808) : bits .or .u8 (bits .and .u64 (m : Int) 127 % 256) 128 = ((m % 128 + 128 : Nat) : Int) := by
  have h1 := u64_and_nat m 127 (by omega) (by omega)
  have h2 : m &&& 127 = m % 128 := Nat.and_two_pow_sub_one_eq_mod m 7
  rw [h2] at h1
  have h3 : bits .and .u64 (m : Int) 127 = ((m % 128 : Nat) : Int) := h1
  rw [h3]
  have e : ((m % 128 : Nat) : Int) % 256 = ((m % 128 : Nat) : Int) := by omega
  rw [e, u8_or128_right _ (by omega) (by omega)]
  omega
theorem pow_lid (f : Nat) (h : f ≤ 8) : 128 ^ (f + 1) ≤ 9223372036854775808 := by
  have h2 : 128 ^ (f + 1) ≤ 128 ^ 9 := Nat.pow_le_pow_right (by decide) (by omega)
  exact h2
theorem make9 (w : World) : (Instr.makeSlice 23 (.int .i64 0) (.int .i64 9)).run Tryd.prog w = .ok (.slice (some ⟨w.heap.size, 0, none⟩) 0 9) (w.alloc (.cells #[.int .u8 0, .int .u8 0, .int .u8 0, .int .u8 0, .int .u8 0, .int .u8 0, .int .u8 0, .int .u8 0, .int .u8 0] 5)) := by kernel_rfl
end
section
open Go.RowKit Go
/-- What fits tells. -/
def dfit (h n : Nat) : Nat := if h ≠ 18 ∧ h ≠ 0 then 30 else if (h = 18 ∧ n ≠ 32) ∨ (h = 0 ∧ 64 < n) then 31 else 0
end
section
open Go.RowKit
theorem own_below {w w' : World} {B base : Nat} {e : TypeId} {size : Nat} {v : Value} {n : Nat} {xs : List Value} (h : w.ownsRow base e size v n xs) (hb : Below w.heap.size w w') (_hB : B = B) : w'.ownsRow base e size v n xs :=
  (Kp.of_below (S := fun _ => False) hb).owns h (fun _ _ hf => hf)

/-- What Lend gave, with its marks behind it. -/
structure Lnt (w : World) (base g cap : Nat) (xs : List Nat) : Prop where
  own : w.ownsRow base 5 1 (.slice (some ⟨g, 0, none⟩) (xs.length + 70) cap) (xs.length + 70) (bv (xs ++ marks))
  byte : ∀ x ∈ xs, x < 256
  len : xs.length ≤ 140737488351232

theorem Lnt.bsl {w : World} {base g cap : Nat} {xs : List Nat} (h : Lnt w base g cap xs) : BSl w (.slice (some ⟨g, 0, none⟩) xs.length cap) xs := BSl.lent h.own rfl h.byte

theorem Lnt.cap {w : World} {base g cap : Nat} {xs : List Nat} (h : Lnt w base g cap xs) : xs.length + 70 ≤ cap := by
  rcases h.own.2 with ⟨hv, _⟩ | ⟨g', cap', cur, hv, _, _, h1, _⟩
  · cases hv
  · injection hv with _ _ e; subst e; exact h1

theorem Lnt.mark {w : World} {base g cap : Nat} {xs : List Nat} (h : Lnt w base g cap xs) (i : Nat) (hi : i < 70) : w.cell? ⟨g, xs.length + i, none⟩ = some (.int .u8 (165 - (i : Int))) := by
  have hl : xs.length + i < (xs ++ marks).length := by simp [marks]; omega
  have := (own_cell h.own (j := xs.length + i) (bv_get hl)).1
  rw [this]
  have e : (xs ++ marks).getD (xs.length + i) 0 = 165 - i := by
    simp [List.getD, marks, hi]
  rw [e]
  congr 2
  omega

theorem into_set (xs ys : List Nat) (k : Nat) (hx : k < xs.length) (hy : k < ys.length) : (bv (ys.take k ++ xs.drop k ++ marks)).set k (.int .u8 ((ys.getD k 0 : Nat) : Int)) = bv (ys.take (k + 1) ++ xs.drop (k + 1) ++ marks) := by
  have e1 : ys.take k ++ xs.drop k ++ marks = ys.take k ++ (xs[k] :: (xs.drop (k + 1) ++ marks)) := by rw [List.drop_eq_getElem_cons hx, List.append_assoc, List.cons_append]
  have e2 : ys.take (k + 1) ++ xs.drop (k + 1) ++ marks = ys.take k ++ (ys[k] :: (xs.drop (k + 1) ++ marks)) := by rw [List.take_succ_eq_append_getElem hy]; simp only [List.append_assoc, List.cons_append, List.nil_append]
  have hl2 : (bv (ys.take k)).length = k := by rw [bv_len, List.length_take]; omega
  have hb : ∀ (z : Nat) (l : List Nat), bv (z :: l) = Value.int .u8 ((z : Nat) : Int) :: bv l := fun _ _ => rfl
  rw [e1, e2, bv_app, bv_app, List.set_append_right (h := by omega), hl2, Nat.sub_self, hb, hb, List.set_cons_zero]
  simp [List.getD, hy]

theorem keepG {wr w1 wi : World} {g : Nat} (hb : Below wr.heap.size wr w1) (hk : Kp (fun q => q = g) w1 wi) (hg : wr.heap.size ≤ g) : ∀ p u, wr.cell? p = some u → wi.cell? p = some u := fun p u h =>
  hk.cell (keep_below hb p u h) (by have := World.block_lt_of_cell? wr p h; omega)

theorem Lnt.kp {w w' : World} {base g cap : Nat} {xs : List Nat} {S : Nat → Prop} (h : Lnt w base g cap xs) (hk : Kp S w w') (hs : ¬ S g) : Lnt w' base g cap xs :=
  ⟨hk.owns h.own (fun q hq => by simp [Value.ownBlock] at hq; subst hq; exact hs), h.byte, h.len⟩
end
section
open Go.RowKit Go
theorem dlay_fit (h : Nat) (d : List Nat) : dlay h d = if dfit h d.length = 0 then (h :: d.length :: d, 0) else ([], dfit h d.length) := by
  unfold dlay dfit
  by_cases h1 : h ≠ 18 ∧ h ≠ 0
  · rw [if_pos h1, if_pos h1]; rfl
  · rw [if_neg h1, if_neg h1]
    by_cases h2 : (h = 18 ∧ d.length ≠ 32) ∨ (h = 0 ∧ 64 < d.length)
    · rw [if_pos h2, if_pos h2]; rfl
    · rw [if_neg h2, if_neg h2]; rfl
theorem dfit_ok {h n : Nat} (e : dfit h n = 0) : (h = 18 ∨ h = 0) ∧ n ≤ 64 := by
  unfold dfit at e
  by_cases h1 : h ≠ 18 ∧ h ≠ 0
  · rw [if_pos h1] at e; cases e
  · rw [if_neg h1] at e
    by_cases h2 : (h = 18 ∧ n ≠ 32) ∨ (h = 0 ∧ 64 < n)
    · rw [if_pos h2] at e; cases e
    · omega
theorem dfit_lt (h n : Nat) : dfit h n < 32 := by
  unfold dfit
  split
  · decide
  · split <;> decide
end
end Go.Proofs.YtibcepokeaaoiabDoor

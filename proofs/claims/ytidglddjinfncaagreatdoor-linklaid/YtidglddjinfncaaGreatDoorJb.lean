import Derived.Test.YtidglddjinfncaaGreatDoorJa
import Derived.StillTail
import Derived.Laws.CopyOwn
import Derived.Lib.SliceRun
import Derived.DeepKeys
import Derived.Deep.RegionHeld
import Derived.Lib.SlBytesConst
import Derived.StillTailTactics
namespace Go.Proofs.YtidglddjinfncaaGreatDoor
section
open Go.RowKit Go
section
variable {P : Program} {ops : Array Oper} {md : Region.Mode} {C : World → Prop}

/-- The first operations of a region, in whatever order, all of them quiet in a class of worlds; behind them L. -/
def hdQ (P : Program) (md : Region.Mode) (ops : Array Oper) (C : World → Prop) (n : Nat) (L : Array Bool → Act → Prop) : Nat → Array Bool → Act → Prop
  | 0, s, a => L s a
  | f + 1, s, a => Region.ready md ops s ≠ [] ∧ ∀ i ∈ Region.ready md ops s, i < n ∧ qOp P ops C i (hdQ P md ops C n L f (s.setIfInBounds i true)) a

theorem hdQ_any {n g : Nat} {L : Array Bool → Act → Prop} {Q : Exit → Act → World → Prop} (hL : ∀ s a w, C w → L s a → wpAny P md ops Q g s a w) : ∀ (f : Nat) (s : Array Bool) (a : Act) (w : World), C w → hdQ P md ops C n L f s a → wpAny P md ops Q (f + g) s a w := by
  intro f
  induction f with
  | zero => intro s a w hw h; rw [Nat.zero_add]; exact hL s a w hw h
  | succ f ih =>
    intro s a w hw h
    have e : f + 1 + g = (f + g) + 1 := by omega
    rw [e]
    exact ⟨fun h0 => absurd h0 h.1, fun i hi => wpOp_of_qOp hw (fun a' w' hw' h' => ih _ a' w' hw' h') (h.2 i hi).2⟩

theorem hdQ_first {n i : Nat} {oi : Oper} {v : Value} {L : Array Bool → Act → Prop} (hi : ops[i]? = some oi) (hsel : ∀ (j : Nat) (o : Oper) cs b, ops[j]? = some o → o.op ≠ .select cs b)
    (hs : Region.sinkB md ops n = true) (hc : Region.chainB md ops n = true) (hn : n < ops.size) (hin : i < n) (hd : ∀ s a, L s a → ∀ j ∈ Region.ready md ops s, n ≤ j)
    (f : Nat) : ∀ (s : Array Bool) (a : Act), HeadInv md ops n s →
      (∀ j oj, ops[j]? = some oj → j ≠ i → s.getD j true = false → (∀ e ∈ oj.after, Region.binds md e = true → e.on ≠ i) → oi.apart ops oj = true) →
      i ∈ Region.ready md ops s → YieldsIn P ops C oi v a → hdQ P md ops C n L f (s.setIfInBounds i true) (a.put oi.dst v) → hdQ P md ops C n L (f + 1) s a := by
  have low : ∀ s, HeadInv md ops n s → i ∈ Region.ready md ops s → ∀ j ∈ Region.ready md ops s, j < n := fun s inv hr j hj => by
    by_cases h : j < n
    · exact h
    · exact absurd hj (tail_waits hs hc hn inv _ i rfl hin (mem_ready.1 hr).1 j (by omega))
  have some_ready : ∀ s : Array Bool, i ∈ Region.ready md ops s → Region.ready md ops s ≠ [] := fun s hr h => by rw [h] at hr; cases hr
  induction f with
  | zero =>
    intro s a inv _ hr hy H
    refine ⟨some_ready s hr, fun j hj => ⟨low s inv hr j hj, ?_⟩⟩
    by_cases e : j = i
    · subst e; exact hy.qOp hi H
    · have := hd _ _ H j (ready_mono hj e)
      have := low s inv hr j hj
      omega
  | succ f ih =>
    intro s a inv hf hr hy H
    refine ⟨some_ready s hr, fun j hj => ⟨low s inv hr j hj, ?_⟩⟩
    by_cases e : j = i
    · subst e; exact hy.qOp hi H
    · obtain ⟨hju, oj, hoj, hall⟩ := mem_ready.1 hj
      have hun := getD_both (mem_ready.1 hr).1
      have hfj := hf j oj hoj e hju (fun d hd' hb he => by
        have h := hall d hd' hb
        rw [he, hun] at h
        cases h)
      have h2 := qOp_put hoj hfj (fun cs b => hsel i oi cs b hi) (fun cs b => hsel j oj cs b hoj) hy (H.2 j (ready_mono hj e)).2
      refine qOp_mono (fun a' h3 => ih (s.setIfInBounds j true) a' (inv.set hj (low s inv hr j hj)) (fun k ok hk hki hku hno => hf k ok hk hki ?_ hno) (ready_mono hr (Ne.symm e)) h3.1 ?_) h2
      · by_cases ejk : j = k
        · subst ejk; exact hju
        · rw [getD_set_ne true ejk] at hku; exact hku
      · rw [Array.setIfInBounds_comm _ _ e]
        exact h3.2

theorem hdQ_lex {n g : Nat} {Lq : Act → Prop} (hsel : Region.noSelect ops = true) (hs : Region.sinkB md ops n = true) (hc : Region.chainB md ops n = true) (hn : n < ops.size) (l : List Oper) :
    ∀ (k : Nat) (s : Array Bool) (a : Act), (∀ j, j < l.length → l[j]? = ops[k + j]?) → k + l.length = n → HeadInv md ops n s → Region.lexHead md ops g l.length k s = true → wpQuiet P ops C Lq l a →
      hdQ P md ops C n (fun s' a' => Region.seqB md ops g n s' = true ∧ Lq a') l.length s a := by
  induction l with
  | nil =>
    intro k s a _ hk _ hB h
    obtain rfl : k = n := by simpa using hk
    exact ⟨by simpa [Region.lexHead] using hB, h⟩
  | cons o l ih =>
    intro k s a hl hk inv hB h
    have h0 : ops[k]? = some o := by simpa using (hl 0 (by simp)).symm
    simp only [List.length_cons] at hk
    simp only [List.length_cons, Region.lexHead, Bool.and_eq_true] at hB
    have hr : k ∈ Region.ready md ops s := by simpa using hB.1.1
    have hq : qOp P ops C k (wpQuiet P ops C Lq l) a := by unfold qOp; simp only [h0]; exact h
    obtain ⟨v, hy, hK⟩ := yieldsIn_of_qOp h0 hq
    refine hdQ_first h0 (Region.noSelect_spec hsel) hs hc hn (by omega) (fun s' a' hL => seqB_ready hL.1) l.length s a inv (Region.free_spec h0 hB.1.2) hr hy (ih (k + 1) _ _ (fun j hj => ?_) (by omega) (inv.set hr (by omega)) hB.2 hK)
    have := hl (j + 1) (by simp; omega)
    simpa [Nat.add_assoc, Nat.add_comm 1 j] using this

/-- A region that draws its order: the first n operations quiet in a class of worlds, the rest in their own order behind them. -/
theorem wp_region_quiet_tail {id : Nat} {Q : Exit → Act → World → Prop} {a : Act} {w : World} {l : List Oper} (n : Nat) (hm : P.follows .mixedOrders = true) (hB : Region.lexTailB .any l.toArray n = true) (hC : C w.drew)
    (h : wpQuiet P l.toArray C (fun a' => ∀ w', C w' → wpList P l.toArray Q (l.drop n) a' w') (l.take n) a) : (Code.region id l.toArray true).wp P Q a w := by
  simp only [Region.lexTailB, Bool.and_eq_true, decide_eq_true_eq] at hB
  obtain ⟨⟨⟨⟨hsel, hn⟩, hs⟩, hc⟩, hlex⟩ := hB
  have hn' : n < l.length := by simpa using hn
  have ht : (l.take n).length = n := by simp; omega
  have hd : (l.drop n).length = l.toArray.size - n := by simp
  have inv : HeadInv .any l.toArray n (Array.replicate l.toArray.size false) :=
    ⟨by simp, fun j oj _ hl => absurd hl (by rw [getD_replicate_false]; decide), fun t _ ht => getD_in (by simpa using ht) (getD_replicate_false _ _)⟩
  have H := hdQ_lex (C := C) (md := .any) (g := l.toArray.size - n) hsel hs hc hn (l.take n) 0 _ a (fun j hj => by
    have : j < n := by omega
    simp [this]) (by simpa using ht) inv (by rw [ht]; exact hlex) h
  refine wp_region_any hm ?_
  have R := hdQ_any (Q := Q) (g := l.toArray.size - n) (fun s a' w' hw' hL => by
    have := wpAny_of_seq (md := .any) (Q' := Q) (l.drop n) n s a' w' (fun j => by simp [List.getElem?_drop]) (by rw [hd]; exact hL.1) (hL.2 w' hw')
    rwa [hd] at this) _ _ _ w.drew hC H
  have e : n + (l.toArray.size - n) = l.toArray.size := by simp; omega
  rw [ht, e] at R
  exact R
end

/-- The same, where the first n operations read, and their callees read or make memory. -/
theorem region_ext_tail {id : Nat} {Q : Exit → Act → World → Prop} {a : Act} {w : World} {l : List Oper} (n : Nat) (hm : Tryz.prog.follows .mixedOrders = true) (hB : Region.lexTailB .any l.toArray n = true)
    (h : wpQuiet Tryz.prog l.toArray (fun w' => ∃ t : Ext w, w' = t.w') (fun a' => ∀ w', (∃ t : Ext w, w' = t.w') → wpList Tryz.prog l.toArray Q (l.drop n) a' w') (l.take n) a) : (Code.region id l.toArray true).wp Tryz.prog Q a w :=
  wp_region_quiet_tail (C := fun w' => ∃ t : Ext w, w' = t.w') n hm hB ⟨⟨w.drew, (Below.refl _ _).drew⟩, rfl⟩ h
end
section
open Go.RowKit Go
/-! ### Parts of a block: by value, copied, cleared -/
theorem addr_add (g o j : Nat) : (⟨g, o, none⟩ : Addr).add j = ⟨g, o + j, none⟩ := by unfold Addr.add; split <;> simp_all
theorem part_load {w : World} {T e : TypeId} {n : Nat} (g off : Nat) (cs : List Value) (hu : Tryz.prog.underlying T = some (.array n e)) (hi : (Tryz.prog.info? T).map (·.size) = some cs.length) (hc : ∀ j v, cs[j]? = some v → w.cell? ⟨g, off + j, none⟩ = some v) :
    (Instr.loadAt T (.pointer (some ⟨g, off, none⟩))).run Tryz.prog w = .ok (.agg cs.toArray) w := by
  have hl := run_loadCells_list (P := Tryz.prog) (w := w) ⟨g, off, none⟩ cs (fun j v hv => by rw [addr_add]; exact hc j v hv)
  simp only [Instr.loadAt, Instr.sureAddr, Sem.run_bind, Sem.run_pure, Result.andThen]
  cases hq : Tryz.prog.info? T with
  | none => simp [hq] at hi
  | some i =>
    have hs : i.size = cs.length := by simpa [hq] using hi
    have ha : (isAgg T).run Tryz.prog w = .ok true w := by
      unfold isAgg
      rw [Sem.run_bind, run_underlying hu w]
      simp
    simp [loadVar, ha, sizeOf, typeInfo, hq, hs, hl]
theorem part_store {w : World} {T t : TypeId} (g off : Nat) (cur cs : List Value) (hg : w.heap[g]? = some (.cells cur.toArray t (0, 0))) (hi : (Tryz.prog.info? T).map (·.size) = some cs.length) (hf : off + cs.length ≤ cur.length) (h1 : ∀ v ∈ cs, v.oneCell' = true) :
    (Instr.storeAt T (.pointer (some ⟨g, off, none⟩)) (.agg cs.toArray)).run Tryz.prog w = .ok () (w.setRow g (splice cur off cs).toArray) := by
  have hst := run_storeCells_at (P := Tryz.prog) g off t cs 0 cur.toArray w hg (by simpa using hf) h1
  simp only [Nat.add_zero, List.append_assoc] at hst
  simp only [Instr.storeAt, Instr.sureAddr, Sem.run_bind, Sem.run_pure, Result.andThen]
  cases hq : Tryz.prog.info? T with
  | none => simp [hq] at hi
  | some i =>
    have hs : cs.length = i.size := by simp [hq] at hi; omega
    simp [storeVar, sizeOf, typeInfo, hq, Value.cells, hs, hst, splice]
/-- A part of a block by value, as a step of a region that draws. -/
theorem qstep_load {C : World → Prop} {ops : Array Oper} {o : Oper} {a : Act} {K : Act → Prop} {T e : TypeId} {n : Nat} {p : Operand} (hgd : o.guard = none) (ho : o.op = .load T p) (g off : Nat) (cs : List Value)
    (hp : a.eval p = .pointer (some ⟨g, off, none⟩)) (hu : Tryz.prog.underlying T = some (.array n e)) (hi : (Tryz.prog.info? T).map (·.size) = some cs.length) (hc : ∀ w, C w → ∀ j v, cs[j]? = some v → w.cell? ⟨g, off + j, none⟩ = some v)
    (h : K (a.put o.dst (.agg cs.toArray))) : if Region.wanted o (yielded ops a.tmps) = true then o.quiet Tryz.prog a C K else K (a.put o.dst undef) := by
  have hw : Region.wanted o (yielded ops a.tmps) = true := by simp [Region.wanted, hgd]
  rw [if_pos hw]
  refine ⟨.agg cs.toArray, fun w hC => ?_, h⟩
  unfold Oper.quietAt execOp
  simp only [ho, Sem.run_bind, hp, part_load g off cs hu hi (hc w hC), Result.andThen_ok]
  exact ⟨rfl, rfl⟩
theorem wpList_storePart {ops : Array Oper} {rest : List Oper} {o : Oper} {a : Act} {Q : Exit → Act → World → Prop} {w : World} {T : TypeId} {p x : Operand} (hgd : o.guard = none) (ho : o.op = .store T p x) (g off : Nat) (cur cs : List Value) (t : TypeId)
    (hp : a.eval p = .pointer (some ⟨g, off, none⟩)) (hx : a.eval x = .agg cs.toArray) (hg : w.heap[g]? = some (.cells cur.toArray t (0, 0))) (hi : (Tryz.prog.info? T).map (·.size) = some cs.length) (hf : off + cs.length ≤ cur.length) (h1 : ∀ v ∈ cs, v.oneCell' = true)
    (h : ∀ w', Hid (w'.heap[g]? = some (.cells (splice cur off cs).toArray t (0, 0))) → Hid (Kp (fun q => q = g) w w') → wpList Tryz.prog ops Q rest (a.put o.dst undef) w') : wpList Tryz.prog ops Q (o :: rest) a w := by
  refine wpList_plain hgd fun K hK => ?_
  unfold Oper.wp execOp
  simp only [ho, Sem.run_bind, hp, hx, part_store g off cur cs hg hi hf h1, Result.andThen_ok]
  exact hK _ _ (h _ (row_same hg) (row_kp _ _ _))
theorem wpList_copyPart {ops : Array Oper} {rest : List Oper} {o : Oper} {a : Act} {Q : Exit → Act → World → Prop} {w : World} (hgd : o.guard = none) (d s : Operand)
    (ho : o.op = .call { callee := .builtin .copy, args := #[d, s], argTypes := #[56, 56] }) (g off dLen dCap : Nat) (hd : a.eval d = .slice (some ⟨g, off, none⟩) dLen dCap) (xs : List Nat) (v : Value) (hs : a.eval s = v) (hb : BSl w v xs)
    (cur : List Value) (t : TypeId) (hg : w.heap[g]? = some (.cells cur.toArray t (0, 0))) (ys : List Nat) (k : Nat) (hk : ys.length = k) (hy : ys = xs.take dLen) (hf : off + ys.length ≤ cur.length)
    (h : ∀ w', Hid (w'.heap[g]? = some (.cells (splice cur off (bv ys)).toArray t (0, 0))) → Hid (Kp (fun q => q = g) w w') → wpList Tryz.prog ops Q rest (a.put o.dst (.int .i64 (k : Nat))) w') : wpList Tryz.prog ops Q (o :: rest) a w := by
  subst hk
  obtain ⟨⟨a', cap, rfl, hn, hc⟩, hmax, hby⟩ := hb
  have hsz : (Tryz.prog.info? 5).map (·.size) = some 1 := by
    have h5 := Tryz.info5
    cases hq : Tryz.prog.info? 5 with
    | none => simp [hq] at h5
    | some i => simp [hq] at h5 ⊢; exact h5.2.1
  have hl : ys.length = Nat.min xs.length dLen := by subst hy; simp [Nat.min_comm]
  by_cases h0 : ys.length = 0
  · refine wpList_copy_nothing hgd d s _ _ ho 5 Tryz.underlying56 hsz _ _ _ _ _ _ hd hs (by omega) ?_
    have e0 : ys = [] := List.eq_nil_of_length_eq_zero h0
    have h2 := h w (by show _ = _; subst e0; simpa [splice, bv] using hg) (Kp.refl _ _)
    rw [h0] at h2
    exact h2
  · rcases hc with hc | ⟨b, o', rfl, hc⟩
    · subst hc; subst hy; simp at h0
    have hlb : (bv ys).length = ys.length := bv_len ys
    refine wpList_copy_own hgd d s _ _ ho 5 Tryz.underlying56 hsz g off dLen dCap ⟨b, o', none⟩ _ _ hd hs cur.toArray t hg (bv ys) (by rw [hlb]; exact hl) (fun j v hv => ?_) (by rw [hlb]; simpa using hf) (bv_one ys) ?_
    · have hj : j < ys.length := by
        rw [← hlb]
        exact (List.getElem?_eq_some_iff.1 hv).1
      rw [bv_get hj] at hv
      have e : ys.getD j 0 = xs.getD j 0 := by
        subst hy
        simp only [List.getD_eq_getElem?_getD, List.getElem?_take]
        rw [if_pos (by simp at hj; omega)]
      rw [addr_add, hc j (by have := Nat.min_le_left xs.length dLen; have : ys.length ≤ xs.length := by rw [hl]; exact this
                             omega), ← e]
      exact hv
    · have h2 := h (w.setRow g (splice cur off (bv ys)).toArray) (row_same hg) (row_kp _ _ _)
      simpa [splice, hlb, goInt] using h2
theorem wpList_clearPart {ops : Array Oper} {rest : List Oper} {o : Oper} {a : Act} {Q : Exit → Act → World → Prop} {w : World} (hgd : o.guard = none) (s : Operand)
    (ho : o.op = .call { callee := .builtin .clear, args := #[s], argTypes := #[56] }) (g off n c : Nat) (hs : a.eval s = .slice (some ⟨g, off, none⟩) n c) (hn : 0 < n)
    (cur : List Value) (t : TypeId) (hg : w.heap[g]? = some (.cells cur.toArray t (0, 0))) (hf : off + n ≤ cur.length)
    (h : ∀ w', Hid (w'.heap[g]? = some (.cells (splice cur off (bv (List.replicate n 0))).toArray t (0, 0))) → Hid (Kp (fun q => q = g) w w') → wpList Tryz.prog ops Q rest (a.put o.dst (.tuple #[])) w') : wpList Tryz.prog ops Q (o :: rest) a w := by
  refine wpList_plain hgd fun K hK => ?_
  have hz : (∀ w, (zeroValue 5).run Tryz.prog w = .ok (.int .u8 0) w) := by
    have h5 := Tryz.info5
    intro w
    cases hq : Tryz.prog.info? 5 with
    | none => simp [hq] at h5
    | some i => simp [hq] at h5; simp [zeroValue, typeInfo, hq, h5.1]
  have hst := run_storeCells_at (P := Tryz.prog) g off t (bv (List.replicate n 0)) 0 cur.toArray w hg (by simpa [bv_len] using hf) (bv_one _)
  simp only [Nat.add_zero, List.append_assoc] at hst
  have hzc : (Builtin.zeroCells (Value.int .u8 0).cells n).toList = bv (List.replicate n 0) := by
    simp [Builtin.zeroCells, Value.cells, bv]
    apply List.ext_getElem
    · simp
    · intro i h1 h2
      simp [Nat.mod_one]
  have hrun : (Builtin.clear_ #[56] o.type #[.slice (some ⟨g, off, none⟩) n c]).run Tryz.prog w = .ok (.tuple #[]) (w.setRow g (splice cur off (bv (List.replicate n 0))).toArray) := by
    obtain ⟨m, rfl⟩ : ∃ m, n = m + 1 := ⟨n - 1, by omega⟩
    simp [Builtin.clear_, run_underlying Tryz.underlying56, hz, hzc, hst, splice]
  unfold Oper.wp
  simp [execOp, ho, resolve, invoke, builtin, hs, hrun, Result.andThen]
  exact hK _ _ (h _ (row_same hg) (row_kp _ _ _))
end
section
open Go.RowKit Go
/-! ### The state over pieces -/
theorem wrd_take (l : List Nat) (p : Nat) (q : Nat) (h : q + 4 ≤ 64) : wrd ((l.drop p).take 64) q = wrd l (p + q) := by
  unfold wrd
  have g : ∀ j, j < 64 → ((l.drop p).take 64).getD j 0 = l.getD (p + j) 0 := by
    intro j hj
    simp [List.getD, hj]
  rw [g q (by omega), g (q + 1) (by omega), g (q + 2) (by omega), g (q + 3) (by omega)]
  rfl
theorem wl_take (l : List Nat) (p : Nat) : ∀ n, wl ((l.drop p).take 64) 0 n = wl l p n
  | 0 => rfl
  | n + 1 => by
    rw [wl, wl, wl_take l p n]
    by_cases h : n < 16
    · rw [if_pos h, if_pos h, Nat.zero_add, wrd_take l p (4 * n) (by omega)]
    · rw [if_neg h, if_neg h]
theorem rl_take (l : List Nat) (p : Nat) (s : List Nat) : ∀ n, rl ((l.drop p).take 64) 0 s n = rl l p s n
  | 0 => rfl
  | n + 1 => by rw [rl, rl, rl_take l p s n, wl_take]
theorem cmp_take (l : List Nat) (p : Nat) (s : List Nat) : cmp ((l.drop p).take 64) 0 s = cmp l p s := by
  unfold cmp
  rw [rl_take]
theorem abs_app (xs ys s : List Nat) : ∀ n, 64 * n ≤ xs.length → abs (xs ++ ys) s n = abs xs s n
  | 0, _ => rfl
  | n + 1, h => by
    rw [abs, abs, abs_app xs ys s n (by omega), ← cmp_take, ← cmp_take xs]
    congr 1
    rw [List.drop_append_of_le_length (by omega), List.take_append_of_le_length (by simp; omega)]
/-! ### The cells of a hash, by parts -/
theorem hc_rest {s r : List Nat} {c off : Nat} {ys : List Nat} (hs : s.length = 8) (hr : off + ys.length ≤ r.length) : splice (hc s r c) (8 + off) (bv ys) = hc s (splice r off ys) c := by
  have e8 : (wv s).length = 8 := by rw [wv_len, hs]
  have eb : (bv r).length = r.length := bv_len r
  have ey : (bv ys).length = ys.length := bv_len ys
  unfold splice hc
  rw [List.take_append, List.drop_append, e8, ey]
  have a1 : (wv s).take (8 + off) = wv s := List.take_of_length_le (by omega)
  have a2 : (wv s).drop (8 + off + ys.length) = [] := List.drop_eq_nil_of_le (by omega)
  have a3 : 8 + off - 8 = off := by omega
  have a4 : 8 + off + ys.length - 8 = off + ys.length := by omega
  rw [a1, a2, a3, a4, List.take_append_of_le_length (by omega), List.drop_append_of_le_length (by omega)]
  simp [bv, List.map_take, List.map_drop]
theorem hc_state {s s' r : List Nat} {c : Nat} (hs : s.length = 8) (hs' : s'.length = 8) : splice (hc s r c) 0 (wv s') = hc s' r c := by
  have e8 : (wv s).length = 8 := by rw [wv_len, hs]
  have e9 : (wv s').length = 8 := by rw [wv_len, hs']
  unfold splice hc
  rw [e9, List.take_zero, List.nil_append, List.drop_append, e8]
  have a2 : (wv s).drop (0 + 8) = [] := List.drop_eq_nil_of_le (by omega)
  rw [a2]
  simp
theorem hc_count {s r : List Nat} {c c' : Nat} (hs : s.length = 8) (hr : r.length = 64) : (hc s r c).toArray.setIfInBounds 72 (.int .u64 ((c' : Nat) : Int)) = (hc s r c').toArray := by
  have e8 : (wv s).length = 8 := by rw [wv_len, hs]
  have e6 : (bv r).length = 64 := by rw [bv_len, hr]
  unfold hc
  rw [List.setIfInBounds_toArray, List.set_append_right _ _ (by omega), List.set_append_right _ _ (by omega), e8, e6]
  rfl
theorem hc_getc {s r : List Nat} {c : Nat} (hs : s.length = 8) (hr : r.length = 64) : (hc s r c).toArray[72]? = some (.int .u64 ((c : Nat) : Int)) := by
  have e8 : (wv s).length = 8 := by rw [wv_len, hs]
  have e6 : (bv r).length = 64 := by rw [bv_len, hr]
  unfold hc
  rw [List.getElem?_toArray, List.getElem?_append_right (by omega), List.getElem?_append_right (by omega), e8, e6]
  rfl
theorem hc_gets {s r : List Nat} {c j : Nat} {v : Value} (h : (wv s)[j]? = some v) : (hc s r c).toArray[j]? = some v := by
  have hj := (List.getElem?_eq_some_iff.1 h).1
  unfold hc
  rw [List.getElem?_toArray, List.getElem?_append_left hj]
  exact h
theorem hc_getr {s r : List Nat} {c j : Nat} (hs : s.length = 8) (hj : j < r.length) : (hc s r c).toArray[8 + j]? = some (.int .u8 ((r.getD j 0 : Nat) : Int)) := by
  have e8 : (wv s).length = 8 := by rw [wv_len, hs]
  unfold hc
  rw [List.getElem?_toArray, List.getElem?_append_right (by omega), e8, List.getElem?_append_left (by rw [bv_len]; omega)]
  have e : 8 + j - 8 = j := by omega
  rw [e]
  exact bv_get hj
/-- The part of a hash's block that holds bytes, as a slice. -/
theorem bsl_rest {w : World} {g : Nat} {s r : List Nat} {c : Nat} {t : TypeId} (h : w.heap[g]? = some (.cells (hc s r c).toArray t (0, 0))) (hs : s.length = 8) (hr : r.length = 64) (hb : ∀ x ∈ r, x < 256) : BSl w (.slice (some ⟨g, 8, none⟩) 64 64) r := by
  refine ⟨⟨_, 64, by rw [hr], ⟨by omega, fun h => by cases h⟩, .inr ⟨g, 8, rfl, fun j hj => ?_⟩⟩, by omega, hb⟩
  exact blk_cell h (hc_getr hs hj)
end
section
open Go.RowKit Go
/-- What a hash's block holds, with whatever rest. -/
structure HB (w : World) (g : Nat) (s r : List Nat) (c : Nat) : Prop where
  b : w.heap[g]? = some (.cells (hc s r c).toArray 185 (0, 0))
  s8 : s.length = 8
  sw : ∀ x ∈ s, x < 4294967296
  r64 : r.length = 64
  rb : ∀ x ∈ r, x < 256
theorem tl_byte {xs : List Nat} (h : ∀ x ∈ xs, x < 256) : ∀ x ∈ tl xs, x < 256 := fun x hx => h x (List.mem_of_mem_drop hx)
theorem fillz_byte {xs : List Nat} (h : ∀ x ∈ xs, x < 256) : ∀ x ∈ fillz xs, x < 256 := fun x hx => by
  rcases List.mem_append.1 hx with hx | hx
  · exact h x hx
  · rw [List.eq_of_mem_replicate hx]; decide
theorem HS.hb {w : World} {g : Nat} {xs : List Nat} (h : HS w g xs) (hx : ∀ x ∈ xs, x < 256) : HB w g (abs xs hh (xs.length / 64)) (fillz (tl xs)) xs.length :=
  ⟨h.b, abs_len _ _ rfl _, abs_lt _ _ hh_lt _, fillz_len (by rw [tl_len]; omega), fillz_byte (tl_byte hx)⟩

theorem bsl_nil (w : World) (p : Addr) (c : Nat) : BSl w (.slice (some p) 0 c) [] := ⟨⟨_, c, rfl, ⟨Nat.zero_le _, fun h => by cases h⟩, .inl rfl⟩, by simp, by simp⟩
theorem Kp.bsl0 {S : Nat → Prop} {w w' : World} (h : Kp S w w') {v : Value} {xs : List Nat} (hb : BSl w v xs) (hs : xs ≠ [] → ∀ k, v.ownBlock = some k → ¬ S k) : BSl w' v xs := by
  by_cases h0 : xs = []
  · subst h0
    obtain ⟨⟨a, cap, rfl, hn, _⟩, hmax, hy⟩ := hb
    exact ⟨⟨a, cap, rfl, hn, .inl rfl⟩, hmax, hy⟩
  · exact h.bsl hb (hs h0)
theorem drop_ne {l : List Nat} {a b : Nat} (hab : a ≤ b) (h : l.drop b ≠ []) : l.drop a ≠ [] := fun e => h (by
  have := List.drop_eq_nil_iff.1 e
  exact List.drop_eq_nil_of_le (by omega))
theorem fillz_splice (l ys : List Nat) (H : Nat) (h : l.length = H) (hf : H + ys.length ≤ 64) : fillz (l ++ ys) = splice (fillz l) H ys := by
  subst h
  unfold fillz splice
  rw [List.take_left' rfl, List.drop_append, List.drop_eq_nil_of_le (by omega), List.nil_append, List.drop_replicate, List.append_assoc]
  have e : 64 - (l ++ ys).length = 64 - l.length - (l.length + ys.length - l.length) := by simp; omega
  rw [e]
theorem fillz_full (l ys : List Nat) (H : Nat) (h : l.length = H) (hf : H + ys.length = 64) : splice (fillz l) H ys = l ++ ys := by
  rw [← fillz_splice l ys H h (by omega)]
  unfold fillz
  have e : 64 - (l ++ ys).length = 0 := by simp; omega
  rw [e]
  simp

theorem fillz_end (R T : List Nat) (L : Nat) (hT : T.length = L) (hR : R.length = 64) (hL : L ≤ 64) : splice (splice R 0 T) L (List.replicate (64 - L) 0) = fillz T := by
  subst hT
  unfold splice fillz
  simp only [List.take_zero, List.nil_append, List.length_replicate, List.take_left' rfl]
  rw [List.drop_eq_nil_of_le (by simp; omega)]
  simp

set_option maxRecDepth 1000000 in
set_option maxHeartbeats 1000000 in
theorem write_any (w : World) (g : Nat) (v : Value) (xs ys : List Nat) (hcb : Cb w) (hg0 : 0 < g) (hh0 : HS w g xs) (hx : ∀ x ∈ xs, x < 256) (hsl : BSl w v ys) (hne : ys ≠ [] → v.ownBlock ≠ some g) (hlen : xs.length + ys.length ≤ 140737488355328) :
    Calls Tryz.prog 79 #[.pointer (some ⟨g, 0, none⟩), v] w fun e w' => e = .returned (.tuple #[]) ∧ HS w' g (xs ++ ys) ∧ Kp (fun q => q = g) w w' := by
  have HCB := hide hcb
  have HH := hide (hh0.hb hx)
  have HXB := hide hx
  have HSL := hide hsl
  have HNE := hide hne
  have HG0 := hide hg0
  obtain ⟨⟨a, cap, rfl, hn, hc⟩, hmax, hb⟩ := hsl
  clear hn hc hb hcb hh0 hne hmax hx hg0
  have c0 : w.cell? ⟨g, 72, none⟩ = some (.int .u64 (xs.length : Nat)) := blk_cell HH.out.b (hc_getc HH.out.s8 HH.out.r64)
  have f0 := blk_frozen 72 HH.out.b
  go_enter Tryz.func79, Tryz.ntmps79
  go_upto_if 24 with fail
  have HZ : Hid ((xs ++ ys).length = xs.length + ys.length) := List.length_append
  have ez : (xs.length : Int) + (ys.length : Int) = ((xs.length + ys.length : Nat) : Int) := by omega
  rw [ez]
  have HB1 : Hid (HB (w.setCell ⟨g, 72, none⟩ (.int .u64 ((xs.length + ys.length : Nat) : Int))) g (abs xs hh (xs.length / 64)) (fillz (tl xs)) (xs.length + ys.length)) := by
    have h := HH.out
    refine ⟨?_, h.s8, h.sw, h.r64, h.rb⟩
    rw [← hc_count h.s8 h.r64 (c := xs.length)]
    exact blk_set 72 _ h.b
  have HK1 : Hid (Kp (fun q => q = g) w (w.setCell ⟨g, 72, none⟩ (.int .u64 ((xs.length + ys.length : Nat) : Int)))) := (Kp.refl _ _).setCell _ _ (fun _ => rfl)
  have HNB : Hid (ys ≠ [] → ∀ k, (Value.slice a ys.length cap).ownBlock = some k → ¬ k = g) := fun h0 k hk e => HNE.out h0 (by rw [hk, e])
  have HS1 := hide (HK1.out.bsl0 HSL.out HNB.out)
  clear ez c0 f0
  generalize w.setCell ⟨g, 72, none⟩ (.int .u64 ((xs.length + ys.length : Nat) : Int)) = w1 at *
  generalize hZ : xs.length + ys.length = Z at *
  have hHe : (xs.length : Int) % 64 = ((xs.length % 64 : Nat) : Int) := by omega
  rw [hHe]
  clear hHe
  have HTL := hide (tl_len xs)
  have HTT : Hid (tl xs = xs.drop (64 * (xs.length / 64))) := rfl
  have hH64 : xs.length % 64 < 64 := Nat.mod_lt _ (by decide)
  have HXE : Hid (xs.length = 64 * (xs.length / 64) + xs.length % 64) := by show _ = _; omega
  have HZX : Hid (xs.length + ys.length = Z) := hZ
  clear hZ
  generalize xs.length % 64 = H at *
  generalize xs.length / 64 = q at *
  have hZl : Z ≤ 140737488355328 := hlen
  go_cut [1] (fun u wx => ∃ (m : Nat) (R : List Nat), 64 * m ≤ Z ∧ Hid (BSl wx u ((xs ++ ys).drop (64 * m))) ∧ Hid ((xs ++ ys).drop (64 * m) ≠ [] → u.ownBlock ≠ some g) ∧ Hid (HB wx g (abs (xs ++ ys) hh m) R Z) ∧ Hid (Kp (fun q => q = g) w wx))
  case first => as_aux_lemma =>
    by_cases hH : H = 0
    · have hH' : ¬ (0 : Int) < (H : Int) := by omega
      have HHH := hide hH
      clear hH
      go_wp2_with fail
      go_meet
      case rel =>
        have e := HXE.out
        have hz := HZX.out
        have ed : (xs ++ ys).drop (64 * q) = ys := by rw [List.drop_append_of_le_length (by omega), List.drop_eq_nil_of_le (by have := HHH.out; omega), List.nil_append]
        refine ⟨q, fillz (tl xs), by have := HHH.out; omega, ?_, ?_, ?_, HK1⟩
        · show BSl _ _ _
          rw [ed]
          exact HS1.out
        · intro h
          rw [ed] at h
          exact HNE.out h
        · show HB _ _ _ _ _
          rw [abs_app xs ys hh q (by omega)]
          exact HB1.out
    · have hH' : (0 : Int) < (H : Int) := by omega
      have hH6 : (H : Int) ≤ 64 := by omega
      have hHn : ¬ 64 = H := by omega
      have HH0 := hide hH
      clear hH
      by_cases hsh : H + ys.length < 64
      · have hsh' : (H : Int) + (ys.length : Int) < 64 := by omega
        have HTK : Hid (8 + H + ys.length ≤ (hc (abs xs hh q) (fillz (tl xs)) Z).length) := by
          show _ ≤ _
          rw [hc_len HB1.out.s8 HB1.out.r64]
          omega
        have HYT : Hid (ys = ys.take (64 - H)) := by show _ = _; rw [List.take_of_length_le (by omega)]
        have HSH := hide hsh
        clear hsh
        go_wp2_with (refine wpList_copyPart rfl _ _ rfl g (8 + H) (64 - H) (64 - H) rfl ys _ rfl HS1.out _ _ HB1.out.b ys ys.length rfl HYT.out HTK.out ?_; intro w2 hb2 hk2)
        refine bodyPost_ret (results_none rfl _ _ _) rfl ?_
        refine ⟨rfl, ⟨?_⟩, HK1.out.trans hk2.out (fun _ _ h => h)⟩
        have h2 := hb2.out
        have hx := HXE.out
        have hz := HZX.out
        have hsh2 := HSH.out
        rw [hc_rest HB1.out.s8 (by rw [fillz_len (by rw [HTL.out]; omega)]; omega)] at h2
        have e1 : (xs ++ ys).length / 64 = q := by rw [HZ.out]; omega
        have e2 : abs (xs ++ ys) hh q = abs xs hh q := abs_app xs ys hh q (by omega)
        have e3 : fillz (tl (xs ++ ys)) = splice (fillz (tl xs)) H ys := by
          have e4 : tl (xs ++ ys) = tl xs ++ ys := by
            rw [HTT.out]
            unfold tl
            rw [e1, List.drop_append_of_le_length (by omega)]
          rw [e4]
          exact fillz_splice (tl xs) ys H HTL.out (by omega)
        rw [e1, e2, e3, HZ.out]
        exact h2
      · obtain ⟨N, hN⟩ : ∃ N, H + N = 64 := ⟨64 - H, by omega⟩
        have hNH : 64 - H = N := by omega
        have hsh' : ¬ (H : Int) + (N : Int) < 64 := by omega
        have hN6 : N < 64 := by have := HH0.out; omega
        have HYL : Hid ((ys.take N).length = N) := by show _ = _; simp; omega
        have HTK : Hid (8 + H + (ys.take N).length ≤ (hc (abs xs hh q) (fillz (tl xs)) Z).length) := by
          show _ ≤ _
          rw [hc_len HB1.out.s8 HB1.out.r64, HYL.out]
          omega
        have HYN : Hid (N ≤ ys.length) := by show _ ≤ _; omega
        have HHN := hide hN
        have HSE : Hid (splice (fillz (tl xs)) H (ys.take N) = ((xs ++ ys).drop (64 * q)).take 64) := by
          have hx := HXE.out
          show _ = _
          have e5 : (tl xs).take 64 = tl xs := List.take_of_length_le (by rw [HTL.out]; omega)
          rw [List.drop_append_of_le_length (by omega), ← HTT.out, List.take_append, HTL.out, hNH, e5]
          exact fillz_full (tl xs) (ys.take N) H HTL.out (by rw [HYL.out]; omega)
        clear hsh hN
        go_wp2_with (refine wpList_copyPart rfl _ _ rfl g (8 + H) N N rfl ys _ rfl HS1.out _ _ HB1.out.b (ys.take N) N HYL.out rfl HTK.out ?_; intro w2 hb2 hk2)
        have HB2 : Hid (HB w2 g (abs xs hh q) (((xs ++ ys).drop (64 * q)).take 64) Z) := by
          have h2 := hb2.out
          rw [hc_rest HB1.out.s8 (by rw [fillz_len (by rw [HTL.out]; omega), HYL.out]; have := HHN.out; omega), HSE.out] at h2
          refine ⟨h2, HB1.out.s8, HB1.out.sw, ?_, ?_⟩
          · have := HYN.out
            have := HHN.out
            have := HXE.out
            simp
            omega
          · intro x hx
            rcases List.mem_append.1 (List.mem_of_mem_drop (List.mem_of_mem_take hx)) with hx | hx
            · exact HXB.out x hx
            · exact HSL.out.byte x hx
        have HK2 : Hid (Kp (fun q => q = g) w w2) := HK1.out.trans hk2.out (fun _ _ h => h)
        have HS2 := hide (hk2.out.bsl0 HS1.out HNB.out)
        have HCB2 := hide (HCB.out.kp HK2.out (fun e => by have := HG0.out; omega))
        have HAE : Hid (abs xs hh q = abs (xs ++ ys) hh q) := (abs_app xs ys hh q (by have := HXE.out; omega)).symm
        have HCM : Hid (cmp (((xs ++ ys).drop (64 * q)).take 64) 0 (abs xs hh q) = abs (xs ++ ys) hh (q + 1)) := by
          show _ = _
          rw [HAE.out, cmp_take]
          rfl
        clear hb2 hk2 HB1 HK1 HS1 HTK HSE HAE
        generalize ((xs ++ ys).drop (64 * q)).take 64 = P at *
        generalize abs xs hh q = S at *
        have HLD : Hid (∀ w, (∃ t : Ext w2, w = t.w') → ∀ j v, (wv S)[j]? = some v → w.cell? ⟨g, 0 + j, none⟩ = some v) := by
          rintro w' ⟨t, rfl⟩ j v hv
          rw [Nat.zero_add]
          exact Ext.cell (blk_cell HB2.out.b (hc_gets hv)) t
        have HI8 : Hid ((Tryz.prog.info? 181).map (·.size) = some (wv S).length) := by
          have h := info8w S HB2.out.s8
          show _ = _
          simpa using h
        have HCH : Hid (∀ t : Ext w2, Calls Tryz.prog 105 #[.agg (wv S).toArray, .slice (some ⟨g, 8, none⟩) 64 64] t.w' fun e w'' => e = .returned (.agg (wv (cmp P 0 S)).toArray) ∧ ∃ t' : Ext w2, w'' = t'.w') := fun t =>
          Calls.ext_below (changed_any t.w' _ P S (HCB2.out.below t.h) (Ext.bsl (bsl_rest HB2.out.b HB2.out.s8 HB2.out.r64 HB2.out.rb) t) HB2.out.r64 HB2.out.s8 HB2.out.sw)
        refine region_ext_tail 10 (by kernel_rfl) (by kernel_rfl) ?_
        simp only [List.take_succ_cons, List.take_zero, List.drop_succ_cons, List.drop_zero]
        repeat (
          refine wpQuiet_step (fun K hK => ?_)
          first
            | (refine qstep_load rfl rfl g 0 (wv S) rfl Tryz.underlying181 HI8.out HLD.out (hK _ ?_); clear hK K)
            | (go_simp
               first
                 | (refine hK _ ?_; clear hK K)
                 | (apply Exists.intro
                    refine ⟨fun _ => ?_, hK _ ?_⟩
                    (go_at_call 105; exact HCH.out _)
                    clear hK K)))
        refine wpQuiet_nil ?_
        rintro _ ⟨tq, rfl⟩
        have HBT := hide ((tq.h.block g (blk_lt HB2.out.b)).trans HB2.out.b)
        have HC8 := hide (cmp_len P 0 S HB2.out.s8)
        have HI9 : Hid ((Tryz.prog.info? 181).map (·.size) = some (wv (cmp P 0 S)).length) := by
          have h := info8w (cmp P 0 S) HC8.out
          show _ = _
          simpa using h
        have HF9 : Hid (0 + (wv (cmp P 0 S)).length ≤ (hc S P Z).length) := by
          show _ ≤ _
          rw [hc_len HB2.out.s8 HB2.out.r64, wv_len, HC8.out]
          decide
        have HKT : Hid (Kp (fun q => q = g) w tq.w') := HK2.out.trans (Kp.of_below tq.h) (fun _ _ h => h)
        have HST : Hid (BSl tq.w' (.slice a ys.length cap) ys) := Ext.bsl HS2.out tq
        generalize tq.w' = wt at *
        have hbt := HST.out
        obtain ⟨⟨a', cap', hv, hn, hc⟩, hmax, hb⟩ := hbt
        injection hv with hv1 hv2 hv3
        subst hv1
        subst hv3
        rcases hc with hc | ⟨bb, off, rfl, hc⟩
        · exfalso
          have h1 := HYN.out
          have h2 := HHN.out
          rw [hc] at h1
          simp at h1
          omega
        have hcl : (ys.length : Int) ≤ (cap : Int) := by have := hn.1; omega
        have hNl : (N : Int) ≤ (ys.length : Int) := by have := HYN.out; omega
        clear hn hc hmax hb hv2
        have HW3 : Hid (∀ w3, w3.heap[g]? = some (.cells (splice (hc S P Z) 0 (wv (cmp P 0 S))).toArray 185 (0, 0)) → HB w3 g (abs (xs ++ ys) hh (q + 1)) P Z) := by
          intro w3 h3
          rw [hc_state HB2.out.s8 HC8.out, HCM.out] at h3
          refine ⟨h3, ?_, abs_lt _ _ hh_lt _, HB2.out.r64, HB2.out.rb⟩
          exact abs_len _ _ rfl _
        have HDR : Hid ((xs ++ ys).drop (64 * (q + 1)) = ys.drop N) := by
          show _ = _
          have h1 := HXE.out
          have h2 := HHN.out
          rw [List.drop_append, List.drop_eq_nil_of_le (by omega), List.nil_append]
          congr 1
          omega
        have HM1 : Hid (64 * (q + 1) ≤ Z) := by
          have h1 := HXE.out
          have h2 := HHN.out
          have h3 := HZX.out
          have h4 := HYN.out
          show _ ≤ _
          omega
        by_cases hcp : cap = N
        · have hyN : (N : Int) = (ys.length : Int) := by omega
          go_wp2_with (refine wpList_storePart rfl rfl g 0 _ (wv (cmp P 0 S)) _ rfl rfl HBT.out HI9.out HF9.out (wv_one _) ?_; intro w3 hb3 hk3)
          go_meet
          case rel =>
            refine ⟨q + 1, P, HM1.out, ?_, fun h0 h => HNE.out (by rw [HDR.out] at h0; exact drop_ne (l := ys) (Nat.zero_le _) h0) h, HW3.out w3 hb3.out, HKT.out.trans hk3.out (fun _ _ h => h)⟩
            show BSl _ _ _
            rw [HDR.out, List.drop_eq_nil_of_le (by omega)]
            exact bsl_nil _ _ _
        · go_wp2_with (refine wpList_storePart rfl rfl g 0 _ (wv (cmp P 0 S)) _ rfl rfl HBT.out HI9.out HF9.out (wv_one _) ?_; intro w3 hb3 hk3)
          go_meet
          case rel =>
            refine ⟨q + 1, P, HM1.out, ?_, fun h0 h => HNE.out (by rw [HDR.out] at h0; exact drop_ne (l := ys) (Nat.zero_le _) h0) h, HW3.out w3 hb3.out, HKT.out.trans hk3.out (fun _ _ h => h)⟩
            show BSl _ _ _
            rw [HDR.out]
            exact (hk3.out.bsl0 HST.out HNB.out).drop N (by have := HYN.out; omega)
  case rest => as_aux_lemma =>
    clear HB1 HK1 HS1 HSL HNE HNB
    go_wp2_with fail
    go_loopw [1] (fun u wx => ∃ (m : Nat) (R : List Nat), 64 * m ≤ Z ∧ lenOf u = Z - 64 * m ∧ Hid (BSl wx u ((xs ++ ys).drop (64 * m))) ∧ Hid ((xs ++ ys).drop (64 * m) ≠ [] → u.ownBlock ≠ some g) ∧ Hid (HB wx g (abs (xs ++ ys) hh m) R Z) ∧ Hid (Kp (fun q => q = g) w wx)) (fun u _ => lenOf u)
    case atStart =>
      obtain ⟨m, R, hm, hb, hne, hB, hk⟩ := hcut
      refine ⟨m, R, hm, ?_, hb, hne, hB, hk⟩
      obtain ⟨⟨a', cap', hv, hn, hc⟩, hmax, hby⟩ := hb.out
      rw [hv]
      simp only [lenOf, List.length_drop, HZ.out]
    case round =>
      obtain ⟨m, R, hm, hlu, HSL, HNE, HB1, HK1⟩ := hrel
      clear hcut
      have hbt := HSL.out
      obtain ⟨⟨a1, cap1, hv, hn, hc⟩, hmax, hb⟩ := hbt
      subst hv
      have hLL : ((xs ++ ys).drop (64 * m)).length = Z - 64 * m := by rw [List.length_drop, HZ.out]
      rw [hLL] at HSL HNE hn hmax hlu ⊢
      obtain ⟨L, hL⟩ : ∃ L, Z - 64 * m = L := ⟨_, rfl⟩
      rw [hL] at HSL HNE hn hmax hlu hLL ⊢
      have HLL := hide hLL
      have HLZ := hide hL
      clear hLL hL hlu
      by_cases h64 : 64 ≤ L
      · have h64' : (64 : Int) ≤ (L : Int) := by omega
        rcases hc with hc | ⟨b1, o1, rfl, hc⟩
        · exfalso
          have h1 := HLL.out
          rw [hc] at h1
          simp at h1
          omega
        have hcl : (L : Int) ≤ (cap1 : Int) := by have := hn.1; omega
        have hc64 : (64 : Int) ≤ (cap1 : Int) := by omega
        clear hn hc hmax hb
        have HNB : Hid ((xs ++ ys).drop (64 * m) ≠ [] → ∀ k, (Value.slice (some ⟨b1, o1, none⟩) L cap1).ownBlock = some k → ¬ k = g) := fun h0 k hk e => HNE.out h0 (by rw [hk, e])
        have HCB2 := hide (HCB.out.kp HK1.out (fun e => by have := HG0.out; omega))
        have HCM : Hid (cmp (((xs ++ ys).drop (64 * m)).take 64) 0 (abs (xs ++ ys) hh m) = abs (xs ++ ys) hh (m + 1)) := by
          show _ = _
          rw [cmp_take]
          rfl
        have HPL : Hid ((((xs ++ ys).drop (64 * m)).take 64).length = 64) := by
          show _ = _
          rw [List.length_take, HLL.out]
          omega
        have HPS : Hid (BSl wr (.slice (some ⟨b1, o1, none⟩) 64 64) (((xs ++ ys).drop (64 * m)).take 64)) := HSL.out.take3 64 (by rw [HLL.out]; omega)
        have HD64 : Hid (((xs ++ ys).drop (64 * m)).drop 64 = (xs ++ ys).drop (64 * (m + 1))) := by
          show _ = _
          rw [List.drop_drop]
          congr 1
        generalize ((xs ++ ys).drop (64 * m)).take 64 = P at *
        generalize abs (xs ++ ys) hh m = S at *
        have HLD : Hid (∀ w, (∃ t : Ext wr, w = t.w') → ∀ j v, (wv S)[j]? = some v → w.cell? ⟨g, 0 + j, none⟩ = some v) := by
          rintro w' ⟨t, rfl⟩ j v hv
          rw [Nat.zero_add]
          exact Ext.cell (blk_cell HB1.out.b (hc_gets hv)) t
        have HI8 : Hid ((Tryz.prog.info? 181).map (·.size) = some (wv S).length) := by
          have h := info8w S HB1.out.s8
          show _ = _
          simpa using h
        have HCH : Hid (∀ t : Ext wr, Calls Tryz.prog 105 #[.agg (wv S).toArray, .slice (some ⟨b1, o1, none⟩) 64 64] t.w' fun e w'' => e = .returned (.agg (wv (cmp P 0 S)).toArray) ∧ ∃ t' : Ext wr, w'' = t'.w') := fun t =>
          Calls.ext_below (changed_any t.w' _ P S (HCB2.out.below t.h) (Ext.bsl HPS.out t) HPL.out HB1.out.s8 HB1.out.sw)
        go_wp2_with fail
        refine region_ext_tail 8 (by kernel_rfl) (by kernel_rfl) ?_
        simp only [List.take_succ_cons, List.take_zero, List.drop_succ_cons, List.drop_zero]
        repeat (
          refine wpQuiet_step (fun K hK => ?_)
          first
            | (refine qstep_load rfl rfl g 0 (wv S) rfl Tryz.underlying181 HI8.out HLD.out (hK _ ?_); clear hK K)
            | (go_simp
               first
                 | (refine hK _ ?_; clear hK K)
                 | (apply Exists.intro
                    refine ⟨fun _ => ?_, hK _ ?_⟩
                    (go_at_call 105; exact HCH.out _)
                    clear hK K)))
        refine wpQuiet_nil ?_
        rintro _ ⟨tq, rfl⟩
        have HBT := hide ((tq.h.block g (blk_lt HB1.out.b)).trans HB1.out.b)
        have HC8 := hide (cmp_len P 0 S HB1.out.s8)
        have HI9 : Hid ((Tryz.prog.info? 181).map (·.size) = some (wv (cmp P 0 S)).length) := by
          have h := info8w (cmp P 0 S) HC8.out
          show _ = _
          simpa using h
        have HF9 : Hid (0 + (wv (cmp P 0 S)).length ≤ (hc S R Z).length) := by
          show _ ≤ _
          rw [hc_len HB1.out.s8 HB1.out.r64, wv_len, HC8.out]
          decide
        have HKT : Hid (Kp (fun q => q = g) w tq.w') := HK1.out.trans (Kp.of_below tq.h) (fun _ _ h => h)
        have HST := hide (Ext.bsl HSL.out tq)
        generalize tq.w' = wt at *
        have HW3 : Hid (∀ w3, w3.heap[g]? = some (.cells (splice (hc S R Z) 0 (wv (cmp P 0 S))).toArray 185 (0, 0)) → HB w3 g (abs (xs ++ ys) hh (m + 1)) R Z) := by
          intro w3 h3
          rw [hc_state HB1.out.s8 HC8.out, HCM.out] at h3
          refine ⟨h3, ?_, abs_lt _ _ hh_lt _, HB1.out.r64, HB1.out.rb⟩
          exact abs_len _ _ rfl _
        have HM1 : Hid (64 * (m + 1) ≤ Z) := by
          have h1 := HLZ.out
          show _ ≤ _
          omega
        by_cases hcp : cap1 = 64
        · have hl64 : L = 64 := by omega
          subst hl64
          subst hcp
          go_wp2_with (refine wpList_storePart rfl rfl g 0 _ (wv (cmp P 0 S)) _ rfl rfl HBT.out HI9.out HF9.out (wv_one _) ?_; intro w3 hb3 hk3)
          go_roundw
          case rel =>
            refine ⟨m + 1, R, HM1.out, by have := HLZ.out; simp only [lenOf]; omega, ?_, fun h0 h => HNE.out (drop_ne (by omega) h0) h, HW3.out w3 hb3.out, HKT.out.trans hk3.out (fun _ _ h => h)⟩
            show BSl _ _ _
            rw [← HD64.out, List.drop_eq_nil_of_le (by rw [HLL.out]; exact Nat.le_refl _)]
            exact bsl_nil _ _ _
          case measure => simp [lenOf]
        · have hcp' : ¬ 64 = cap1 := fun e => hcp e.symm
          go_wp2_with (refine wpList_storePart rfl rfl g 0 _ (wv (cmp P 0 S)) _ rfl rfl HBT.out HI9.out HF9.out (wv_one _) ?_; intro w3 hb3 hk3)
          go_roundw
          case rel =>
            refine ⟨m + 1, R, HM1.out, by have := HLZ.out; simp only [lenOf]; omega, ?_, fun h0 h => HNE.out (drop_ne (by omega) h0) h, HW3.out w3 hb3.out, HKT.out.trans hk3.out (fun _ _ h => h)⟩
            show BSl _ _ _
            rw [← HD64.out]
            exact (hk3.out.bsl0 HST.out HNB.out).drop 64 (by rw [HLL.out]; omega)
          case measure => simp [lenOf]; omega
      · have h64' : ¬ (64 : Int) ≤ (L : Int) := by omega
        have hL6 : (L : Int) ≤ 64 := by omega
        have hLn : ¬ 64 = L := by omega
        have HL64 := hide h64
        clear hn hc hmax hb h64
        have hML : (xs ++ ys).length / 64 = m := by have := HLZ.out; have := HZ.out; have := HL64.out; omega
        have HTE : Hid ((xs ++ ys).drop (64 * m) = tl (xs ++ ys)) := by show _ = _; unfold tl; rw [hML]
        have HME := hide hML
        clear hML
        rw [HTE.out] at HSL HLL
        have HF1 : Hid (8 + (tl (xs ++ ys)).length ≤ (hc (abs (xs ++ ys) hh m) R Z).length) := by
          show _ ≤ _
          rw [hc_len HB1.out.s8 HB1.out.r64, HLL.out]
          have := HL64.out
          omega
        have HYT : Hid (tl (xs ++ ys) = (tl (xs ++ ys)).take 64) := by show _ = _; rw [List.take_of_length_le (by rw [HLL.out]; have := HL64.out; omega)]
        go_wp2_with (first
          | (refine wpList_copyPart rfl _ _ rfl g 8 64 64 rfl (tl (xs ++ ys)) _ rfl HSL.out _ _ HB1.out.b (tl (xs ++ ys)) L HLL.out HYT.out HF1.out ?_; intro w2 hb2 hk2; have HB2 := hide hb2; have HK2 := hide hk2)
          | (refine wpList_clearPart rfl _ rfl g (8 + L) (64 - L) (64 - L) rfl ?c1 _ _ HB2.out.out ?c2 ?_; rotate_left; rotate_left; intro w3 hb3 hk3))
        case c1 => have := HL64.out; omega
        case c2 =>
          have h8 := hc_rest (c := Z) (off := 0) (ys := tl (xs ++ ys)) (r := R) HB1.out.s8 (by rw [HLL.out, HB1.out.r64]; have := HL64.out; omega)
          rw [Nat.add_zero] at h8
          rw [h8, hc_len HB1.out.s8 (by rw [length_splice _ _ _ (by rw [HLL.out, HB1.out.r64]; have := HL64.out; omega)]; exact HB1.out.r64)]
          have := HL64.out
          omega
        go_end0
        refine ⟨rfl, ⟨?_⟩, (HK1.out.trans HK2.out.out (fun _ _ h => h)).trans hk3.out (fun _ _ h => h)⟩
        have h3 := hb3.out
        have h8 := hc_rest (c := Z) (off := 0) (ys := tl (xs ++ ys)) (r := R) HB1.out.s8 (by rw [HLL.out, HB1.out.r64]; have := HL64.out; omega)
        rw [Nat.add_zero] at h8
        have hl := HL64.out
        rw [h8, hc_rest HB1.out.s8 (by rw [length_splice _ _ _ (by rw [HLL.out, HB1.out.r64]; omega), HB1.out.r64, List.length_replicate]; omega), fillz_end R _ L HLL.out HB1.out.r64 (by omega)] at h3
        rw [HME.out, HZ.out]
        exact h3
end
section
open Go.RowKit Go
theorem wpList_loadAll {ops : Array Oper} {rest : List Oper} {o : Oper} {a : Act} {Q : Exit → Act → World → Prop} {w : World} {T : TypeId} {p : Operand} (hgd : o.guard = none) (ho : o.op = .load T p) (g : Nat) (cs : Array Value) (t : TypeId) {fs : Array Field}
    (hp : a.eval p = .pointer (some ⟨g, 0, none⟩)) (hg : w.heap[g]? = some (.cells cs t (0, 0))) (hu : Tryz.prog.underlying T = some (.struct fs)) (hi : (Tryz.prog.info? T).map (·.size) = some cs.size)
    (h : wpList Tryz.prog ops Q rest (a.put o.dst (.agg cs)) w) : wpList Tryz.prog ops Q (o :: rest) a w := by
  refine wpList_plain hgd fun K hK => ?_
  unfold Oper.wp execOp
  have hr : (Instr.loadAt T (.pointer (some ⟨g, 0, none⟩))).run Tryz.prog w = .ok (.agg cs) w := by
    simp only [Instr.loadAt, Instr.sureAddr, Sem.run_bind, Sem.run_pure, Result.andThen]
    exact run_loadVar_row (P := Tryz.prog) w g t T cs (0, 0) _ hg hu rfl hi
  simp only [ho, Sem.run_bind, hp, hr, Result.andThen_ok]
  exact hK _ _ h
theorem wpList_loadPart {ops : Array Oper} {rest : List Oper} {o : Oper} {a : Act} {Q : Exit → Act → World → Prop} {w : World} {T e : TypeId} {n : Nat} {p : Operand} (hgd : o.guard = none) (ho : o.op = .load T p) (g off : Nat) (cs : List Value)
    (hp : a.eval p = .pointer (some ⟨g, off, none⟩)) (hu : Tryz.prog.underlying T = some (.array n e)) (hi : (Tryz.prog.info? T).map (·.size) = some cs.length) (hc : ∀ j v, cs[j]? = some v → w.cell? ⟨g, off + j, none⟩ = some v)
    (h : wpList Tryz.prog ops Q rest (a.put o.dst (.agg cs.toArray)) w) : wpList Tryz.prog ops Q (o :: rest) a w := by
  refine wpList_plain hgd fun K hK => ?_
  unfold Oper.wp execOp
  simp only [ho, Sem.run_bind, hp, part_load g off cs hu hi hc, Result.andThen_ok]
  exact hK _ _ h
theorem alloc2_new (w : World) (o1 o2 : Obj) : ((w.alloc o1).alloc o2).heap[w.heap.size + 1]? = some o2 := by
  have h := heap_alloc_new (w.alloc o1) o2
  have e : (w.alloc o1).heap.size = w.heap.size + 1 := by simp
  rwa [e] at h
theorem endg_byte (n : Nat) : ∀ x ∈ endg n, x < 256 := by
  intro x hx
  unfold endg at hx
  rcases List.mem_append.1 hx with hx | hx
  · rcases List.mem_append.1 hx with hx | hx
    · simp at hx; omega
    · rw [List.eq_of_mem_replicate hx]; decide
  · exact beb_byte _ _ _ hx
theorem endg_len (n : Nat) : (endg n).length ≤ 73 := by
  unfold endg
  have := zer_lt n
  simp [beb_len]
  omega
theorem info73 : (Tryz.prog.info? 185).map (·.size) = some 73 := by kernel_rfl
theorem hc_one (s r : List Nat) (c : Nat) : (hc s r c).toArray.all (·.oneCell') = true := by
  rw [Array.all_eq_true_iff_forall_mem]
  intro u hu
  have hu' : u ∈ hc s r c := by simpa using hu
  unfold hc at hu'
  rcases List.mem_append.1 hu' with h | h
  · exact wv_one _ u h
  · rcases List.mem_append.1 h with h | h
    · exact bv_one _ u h
    · simp at h; subst h; rfl
theorem zero73 : Tryz.zeroCells185.size = 73 := by kernel_rfl

set_option maxRecDepth 1000000 in
set_option maxHeartbeats 1000000 in
theorem hsum_any (w : World) (g : Nat) (xs : List Nat) (hcb : Cb w) (hh0 : HS w g xs) (hx : ∀ x ∈ xs, x < 256) (hlen : xs.length ≤ 140737488351232) :
    Calls Tryz.prog 80 #[.pointer (some ⟨g, 0, none⟩)] w fun e w' => e = .returned (.agg (bv (sha xs)).toArray) ∧ Below w.heap.size w w' := by
  have HCB := hide hcb
  have HH := hide hh0
  have HB0 := hide (hh0.hb hx)
  have HXB := hide hx
  have HLE := hide hlen
  clear hcb hh0 hx hlen
  have HP8 := hide HB0.out.s8
  have HP6 := hide HB0.out.r64
  have HB1 : Hid ((w.alloc (.cells (bv (List.replicate 32 0)).toArray 104)).heap[g]? = some (.cells (hc (abs xs hh (xs.length / 64)) (fillz (tl xs)) xs.length).toArray 185 (0, 0))) := blk_alloc _ HB0.out.b
  have HI7 : Hid ((Tryz.prog.info? 185).map (·.size) = some (hc (abs xs hh (xs.length / 64)) (fillz (tl xs)) xs.length).toArray.size) := by
    show _ = _
    rw [List.size_toArray, hc_len HB0.out.s8 HB0.out.r64]
    exact info73
  have HSZ : Hid (Tryz.zeroCells185.size = (hc (abs xs hh (xs.length / 64)) (fillz (tl xs)) xs.length).toArray.size) := by
    have e : (hc (abs xs hh (xs.length / 64)) (fillz (tl xs)) xs.length).toArray.size = 73 := by rw [List.size_toArray, hc_len HB0.out.s8 HB0.out.r64]
    show _ = _
    rw [e]
    exact zero73
  have HON := hide (hc_one (abs xs hh (xs.length / 64)) (fillz (tl xs)) xs.length)
  have HGC : Hid ((hc (abs xs hh (xs.length / 64)) (fillz (tl xs)) xs.length).toArray[72]? = some (.int .u64 (xs.length : Nat))) := hc_getc HB0.out.s8 HB0.out.r64
  have HSX : Hid (∀ wx k, wx.heap[k]? = some (.cells (hc (abs xs hh (xs.length / 64)) (fillz (tl xs)) xs.length).toArray 185 (0, 0)) → HS wx k xs) := fun wx k h => ⟨h⟩
  have HHB := hide HB0.out.b
  clear HB0
  have HGL := hide (blk_lt HH.out.b)
  generalize hc (abs xs hh (xs.length / 64)) (fillz (tl xs)) xs.length = HC at *
  have HR2 : Hid ((((w.alloc (.cells (bv (List.replicate 32 0)).toArray 104)).alloc (.cells Tryz.zeroCells185 185)).setRow (w.heap.size + 1) HC.toArray).heap[w.heap.size]? = some (.cells (bv (List.replicate 32 0)).toArray 104 (0, 0))) := by
    show _ = _
    rw [row_other (by omega)]
    exact blk_alloc _ (heap_alloc_new w _)
  have HE2 : Hid ((((w.alloc (.cells (bv (List.replicate 32 0)).toArray 104)).alloc (.cells Tryz.zeroCells185 185)).setRow (w.heap.size + 1) HC.toArray).heap[w.heap.size + 1]? = some (.cells HC.toArray 185 (0, 0))) := row_same (alloc2_new _ _ _)
  have HL2 : Hid (Below w.heap.size w (((w.alloc (.cells (bv (List.replicate 32 0)).toArray 104)).alloc (.cells Tryz.zeroCells185 185)).setRow (w.heap.size + 1) HC.toArray)) := (((Below.refl _ _).alloc (Nat.le_refl _) _).alloc (by simp) _).trans ((row_kp _ _ _).below (by simp; omega) (fun q e => by omega))
  rw [z32_lit] at HB1
  go_enter Tryz.func80, Tryz.ntmps80
  go_wp2_with (first
    | (refine wpList_loadAll rfl rfl g HC.toArray 185 rfl HB1.out Tryz.underlying185 HI7.out ?_)
    | (refine wpList_storeRow rfl rfl (w.heap.size + 1) _ HC.toArray 185 rfl rfl (alloc2_new _ _ _) HI7.out HSZ.out HON.out ?_; rw [← z32_lit]; generalize ((w.alloc (.cells (bv (List.replicate 32 0)).toArray 104)).alloc (.cells Tryz.zeroCells185 185)).setRow (w.heap.size + 1) HC.toArray = w2 at *; have c7 : w2.cell? ⟨g, 72, none⟩ = some (.int .u64 (xs.length : Nat)) := blk_cell ((HL2.out.block g HGL.out).trans HHB.out) HGC.out))
  generalize hB : w.heap.size = B at *
  have HBB := hide hB
  clear hB c7
  have hlb : xs.length ≤ 140737488355328 := by have := HLE.out; omega
  refine (ending_any w2 xs.length hlb).mono ?_
  rintro e w3 ⟨v3, rfl, ho3, hb3⟩
  have HS2 := hide (HSX.out w2 (B + 1) HE2.out)
  have HS3 := hide (HS2.out.below hb3)
  have HL3 : Hid (Below B w w3) := HL2.out.trans (hb3.mono (by have := HL2.out.size; have := HBB.out; omega))
  have HEL := hide (blk_lt HE2.out)
  have HV3 : Hid (BSl w3 v3 (endg xs.length)) := BSl.own ho3 (endg_byte _)
  have HN3 : Hid (v3.ownBlock ≠ some (B + 1)) := fun h => by
    have := (ho3.lt (B + 1) h).1
    have := HEL.out
    omega
  have HR3 := hide ((hb3.block B (blk_lt HR2.out)).trans HR2.out)
  have HC3 := hide (HCB.out.below (by rw [HBB.out]; exact HL3.out))
  obtain ⟨a3, c3, hv3, hv1, hv2, hv4⟩ := own_form ho3
  subst hv3
  clear hv1 hv2 hv4 ho3 hb3 HE2 HR2 HL2 HS2 hlb
  go_wp2_with fail
  refine (write_any w3 (B + 1) _ xs (endg xs.length) HC3.out (by have := HCB.out.pos; have := HBB.out; omega) HS3.out HXB.out HV3.out (fun _ => HN3.out) (by have := HLE.out; have := endg_len xs.length; omega)).mono ?_
  rintro e w4 ⟨rfl, hs4, hk4⟩
  rw [← pad_endg] at hs4
  have HB4 := hide (hs4.hb (pad_byte xs HXB.out))
  have HR4 := hide ((hk4.block B (blk_lt HR3.out) (by omega)).trans HR3.out)
  have HL4 : Hid (Below B w w4) := by
    have h3 := HL3.out.size
    have hb := HBB.out
    exact HL3.out.trans (hk4.below (by omega) (fun q e => by omega))
  clear hs4 hk4 HS3 HV3 HN3 HR3 HL3 HC3
  have HSH : Hid (sha xs = outb (abs (pad xs) hh ((pad xs).length / 64))) := rfl
  have HI8 : Hid ((Tryz.prog.info? 181).map (·.size) = some (wv (abs (pad xs) hh ((pad xs).length / 64))).length) := by
    have h := info8w _ HB4.out.s8
    show _ = _
    simpa using h
  have HLD : Hid (∀ j v, (wv (abs (pad xs) hh ((pad xs).length / 64)))[j]? = some v → w4.cell? ⟨B + 1, 0 + j, none⟩ = some v) := by
    intro j v hv
    rw [Nat.zero_add]
    exact blk_cell HB4.out.b (hc_gets hv)
  have H8 := hide HB4.out.s8
  have HSW := hide HB4.out.sw
  clear HB4
  generalize abs (pad xs) hh ((pad xs).length / 64) = S at *
  go_wp2_with (refine wpList_loadPart rfl rfl (B + 1) 0 (wv S) rfl Tryz.underlying181 HI8.out HLD.out ?_)
  refine (laid_any w4 S H8.out HSW.out).mono ?_
  rintro e w5 ⟨rfl, hb5⟩
  have HR5 := hide ((hb5.block B (blk_lt HR4.out)).trans HR4.out)
  have HL5 : Hid (Below B w w5) := HL4.out.trans (hb5.mono (by have := HL4.out.size; have := HBB.out; omega))
  have HOL := hide (outb_len S H8.out)
  have HI32 : Hid ((Tryz.prog.info? 104).map (·.size) = some (bv (outb S)).toArray.size) := by
    have h := info32
    show _ = _
    simpa [bv_len, HOL.out] using h
  have HSZ2 : Hid ((bv (List.replicate 32 0)).toArray.size = (bv (outb S)).toArray.size) := by show _ = _; simp [bv_len, HOL.out]
  have HON2 : Hid ((bv (outb S)).toArray.all (·.oneCell') = true) := by
    show _ = _
    rw [Array.all_eq_true_iff_forall_mem]
    intro u hu
    exact bv_one _ u (by simpa using hu)
  generalize outb S = D at *
  go_wp2_with (refine wpList_storeRow rfl rfl B _ (bv D).toArray 104 rfl rfl HR5.out HI32.out HSZ2.out HON2.out ?_)
  refine bodyPost_ret (v := .agg (bv D).toArray) ((results_one (p := 2) (ty := 104) rfl _ _ _).trans (run_loadVar_row (P := Tryz.prog) _ B 104 104 (bv D).toArray (0, 0) _ (row_same HR5.out) Tryz.underlying104 rfl HI32.out)) rfl ⟨by rw [HSH.out], ?_⟩
  rw [HBB.out]
  exact HL5.out.trans ((row_kp w5 B _).below (by have := HL5.out.size; have := HBB.out; omega) (fun q e => by omega))
end
section
open Go.RowKit Go
theorem own_lt {w : World} {v : Value} {xs : List Nat} (h : BSl w v xs) (h0 : xs ≠ []) {k : Nat} (hk : v.ownBlock = some k) : k < w.heap.size := by
  obtain ⟨⟨a, cap, rfl, hn, hc⟩, hmax, hb⟩ := h
  rcases hc with hc | ⟨b, off, rfl, hc⟩
  · exact absurd hc h0
  · simp [Value.ownBlock] at hk
    subst hk
    have h1 := hc 0 (List.length_pos_iff.2 h0)
    by_cases hlt : b < w.heap.size
    · exact hlt
    · exfalso
      have e : w.heap[b]? = none := Array.getElem?_eq_none (by omega)
      simp [World.cell?, e] at h1

set_option maxRecDepth 1000000 in
set_option maxHeartbeats 1000000 in
theorem sum_any (w : World) (v : Value) (xs : List Nat) (hcb : Cb w) (hsl : BSl w v xs) (hlen : xs.length ≤ 140737488351232) :
    Calls Tryz.prog 44 #[v] w fun e w' => e = .returned (.agg (bv (sha xs)).toArray) ∧ Below w.heap.size w w' := by
  have HCB := hide hcb
  have HSL := hide hsl
  have HLE := hide hlen
  clear hcb hsl hlen
  go_enter Tryz.func44, Tryz.ntmps44
  go_wp2_with fail
  rw [← z32_lit]
  have HR1 : Hid ((w.alloc (.cells (bv (List.replicate 32 0)).toArray 104)).heap[w.heap.size]? = some (.cells (bv (List.replicate 32 0)).toArray 104 (0, 0))) := heap_alloc_new w _
  have HL1 : Hid (Below w.heap.size w (w.alloc (.cells (bv (List.replicate 32 0)).toArray 104))) := (Below.refl _ _).alloc (Nat.le_refl _) _
  generalize w.alloc (.cells (bv (List.replicate 32 0)).toArray 104) = w1 at *
  refine (new_any w1).mono ?_
  rintro e w2 ⟨g, rfl, hg2, hs2, hb2⟩
  have HS2 := hide hs2
  have HG2 := hide hg2
  have HR2 := hide ((hb2.block _ (blk_lt HR1.out)).trans HR1.out)
  have HRL := hide (blk_lt HR1.out)
  have HL2 : Hid (Below w.heap.size w w2) := HL1.out.trans (hb2.mono HL1.out.size)
  have HC2 := hide (HCB.out.below HL2.out)
  have HV2 := hide (HSL.out.move (keep_below HL2.out))
  clear hg2 hs2 hb2 HR1 HL1
  go_wp2_with fail
  refine (write_any w2 g v [] xs HC2.out (by have := HRL.out; have := HG2.out; have := HCB.out.pos; omega) HS2.out (fun x hx => by cases hx) HV2.out (fun h0 h => by have := own_lt HSL.out h0 h; have := HRL.out; have := HG2.out; omega) (by have := HLE.out; simp; omega)).mono ?_
  rintro e w3 ⟨rfl, hs3, hk3⟩
  rw [List.nil_append] at hs3
  have HS3 := hide hs3
  have HR3 := hide ((hk3.block _ (blk_lt HR2.out) (by have := HRL.out; have := HG2.out; omega)).trans HR2.out)
  have HL3 : Hid (Below w.heap.size w w3) := by
    have h2 := HL2.out.size
    exact HL2.out.trans (hk3.below (by omega) (fun q e => by have := HRL.out; have := HG2.out; omega))
  have HC3 := hide (HCB.out.below HL3.out)
  clear hs3 hk3 HS2 HR2 HL2 HC2 HV2
  go_wp2_with fail
  refine (hsum_any w3 g xs HC3.out HS3.out HSL.out.byte HLE.out).mono ?_
  rintro e w4 ⟨rfl, hb4⟩
  have HR4 := hide ((hb4.block _ (blk_lt HR3.out)).trans HR3.out)
  have HL4 : Hid (Below w.heap.size w w4) := HL3.out.trans (hb4.mono HL3.out.size)
  have HOL := hide (sha_len xs)
  have HI32 := hide (info32d xs)
  have HON := hide (one32 xs)
  clear hb4 HR3 HL3 HC3 HS3
  have HSZ : Hid ((bv (List.replicate 32 0)).toArray.size = (bv (sha xs)).toArray.size) := by show _ = _; simp [bv_len, HOL.out]
  generalize hD : sha xs = D at *
  have HD := hide hD
  clear hD
  go_wp2_with (refine wpList_storeRow rfl rfl w.heap.size _ (bv D).toArray 104 rfl rfl HR4.out HI32.out HSZ.out HON.out ?_)
  refine bodyPost_ret (v := .agg (bv D).toArray) ((results_one (p := 2) (ty := 104) rfl _ _ _).trans (run_loadVar_row (P := Tryz.prog) _ w.heap.size 104 104 (bv D).toArray (0, 0) _ (row_same HR4.out) Tryz.underlying104 rfl HI32.out)) rfl ⟨by rw [HD.out], ?_⟩
  exact HL4.out.trans ((row_kp w4 w.heap.size _).below HL4.out.size (fun q e => by omega))
end
section
open Go.RowKit Go
set_option maxRecDepth 1000000 in
theorem clone_any (w : World) (v : Value) (xs : List Nat) (h1 : BSl w v xs) (hlen : xs.length ≤ 140737488351232) :
    Calls Tryz.prog 86 #[v] w fun e w' => ∃ v', e = .returned v' ∧ w'.ownsRow w.heap.size 5 1 v' xs.length (bv xs) ∧ Below w.heap.size w w' := by
  have H1 := hide h1
  have HL := hide hlen
  obtain ⟨⟨a, cap, rfl, hn, hc⟩, hmax, hb⟩ := h1
  have he := Lib.run_eql_slice_nil (P := Tryz.prog) w 56 5 a xs.length cap 0 0 Tryz.underlying56
  cases a with
  | none =>
    rcases hc with rfl | ⟨b, off, h, _⟩
    · simp only [List.length_nil] at he ⊢
      clear hn hb hmax
      go_enter Tryz.func86, Tryz.ntmps86
      go_wp2_with fail
      go_ret
      exact ⟨_, rfl, World.ownsRow_nil _ _ _ _, Below.refl _ _⟩
    · cases h
  | some ad =>
    clear hn hc hb hlen
    go_enter Tryz.func86, Tryz.ntmps86
    have HO : Hid ((w.alloc (.cells #[] 5)).ownsRow w.heap.size 5 1 (.slice (some ⟨w.heap.size, 0, none⟩) 0 0) 0 (bv [])) := own_make (cs := []) rfl (by unfold maxLen; decide)
    have HS := hide (H1.out.move (keep_alloc w (.cells #[] 5)))
    go_wp2_with (at_builtin; refine append_bsl rfl _ _ rfl w.heap.size _ 0 [] rfl HO.out _ xs rfl HS.out ?b1 ?b2 ?_)
    case b1 => have := HL.out; omega
    case b2 => simp
    intro v2 w2 ho2 hg2
    have hlo := fun g (h : _ = some g) => (HO.out.lt g h).1
    have HB2 : Hid (Below w.heap.size w w2) := ((Below.refl _ _).alloc (Nat.le_refl _) _).grown hg2 (by simp) (fun g hg => hlo g hg)
    have HO2 := hide ho2
    clear ho2 hg2 hlo
    go_wp2_with fail
    go_ret
    exact ⟨v2, rfl, by simpa using HO2.out, HB2.out⟩
end
section
open Go.RowKit
theorem lay_byte (m : Nat) (h : m < 9223372036854775808) : bits .or .u8 (bits .and .u64 (m : Int) 127 % 256) 128 = ((m % 128 + 128 : Nat) : Int) := by
  have h1 := u64_and_nat m 127 (by omega) (by omega)
  have h2 : m &&& 127 = m % 128 := Nat.and_two_pow_sub_one_eq_mod m 7
  rw [h2] at h1
  have h3 : bits .and .u64 (m : Int) 127 = ((m % 128 : Nat) : Int) := h1
  rw [h3]
  have e : ((m % 128 : Nat) : Int) % 256 = ((m % 128 : Nat) : Int) := by omega
  rw [e, u8_or128_right _ (by omega) (by omega)]
  omega
theorem pow_lid (f : Nat) (h : f ≤ 8) : 128 ^ (f + 1) ≤ 9223372036854775808 := by
  have h2 : 128 ^ (f + 1) ≤ 128 ^ 9 := Nat.pow_le_pow_right (by decide) (by omega)
  exact h2
theorem make9 (w : World) : (Instr.makeSlice 56 (.int .i64 0) (.int .i64 9)).run Tryz.prog w = .ok (.slice (some ⟨w.heap.size, 0, none⟩) 0 9) (w.alloc (.cells #[.int .u8 0, .int .u8 0, .int .u8 0, .int .u8 0, .int .u8 0, .int .u8 0, .int .u8 0, .int .u8 0, .int .u8 0] 5)) := by kernel_rfl

set_option maxRecDepth 1000000 in
set_option maxHeartbeats 400000 in
theorem vlay_any (n : Int) (w : World) (h0 : 0 ≤ n) (h1 : n < 9223372036854775808) :
    Calls Tryz.prog 31 #[.int .u64 n] w fun e w' => ∃ v, e = .returned (.tuple #[v, .int .i64 0]) ∧ w'.ownsRow w.heap.size 5 1 v (digs 9 n.toNat).length (bv (digs 9 n.toNat)) ∧ Below w.heap.size w w' := by
  have hmk := make9
  obtain ⟨i5, hi, hz0, hz1, hz2⟩ := info5_ex
  have HI : Hid (Tryz.prog.info? 5 = some i5) := hi
  have HZ0 : Hid (i5.zero = some (.int .u8 0)) := hz0
  have HZ1 : Hid (i5.size = 1) := hz1
  have HZ2 : Hid (i5.bytes = 1) := hz2
  clear hi hz0 hz1 hz2
  generalize hB : w.heap.size = B
  generalize hD : digs 9 n.toNat = D
  have HB := hide hB
  have HD := hide hD
  clear hB hD
  go_enter Tryz.func31, Tryz.ntmps31
  go_wp2
  refine scope_again 0 (fun a' w' => Below B w w' ∧ ∃ (m f k : Nat) (pre : List Nat) (v u5 u6 u7 u8 u9 u10 u11 u12 u13 u14 u15 u16 u17 u18 u19 u20 u21 u22 u23 : Value), a' = { tmps := #[.int .u64 m, undef, .slice none 0 0, .int .i64 0, v, u5, u6, u7, u8, u9, u10, u11, u12, u13, u14, u15, u16, u17, u18, u19, u20, u21, u22, u23], defers := [] } ∧ m < 128 ^ (f + 1) ∧ f + k = 8 ∧ w'.ownsRow B 5 1 v k (bv pre) ∧ pre ++ digs (f + 1) m = D) (fun a' _ => (intOf (a'.tmps.getD 0 undef)).toNat) rfl ?_ ?_
  · clear HD hmk h0 h1
    rintro a' w' ⟨hbel, m, f, k, pre, v, u5, u6, u7, u8, u9, u10, u11, u12, u13, u14, u15, u16, u17, u18, u19, u20, u21, u22, u23, rfl, hm, hfk, hown, hrel⟩
    have HREL := hide hrel
    have HFK := hide hfk
    have HM := hide hm
    clear hrel hfk hm
    by_cases hb : 128 ≤ m
    · have hb' : (128 : Int) ≤ (m : Int) := by omega
      have HBY := hide (lay_byte m (by have := pow_lid f (by have := HFK.out; omega); have := HM.out; omega))
      go_wp2_with (first | (at_builtin; refine wpList_append_own _ rfl _ _ 56 rfl B 5 i5 (.int .u8 0) 1 1 Tryz.underlying56 HI.out HZ0.out HZ1.out HZ2.out rfl (by decide) _ _ _ rfl (hown.alloc _) ⟨w'.heap.size, 0, none⟩ 1 1 [.int .u8 (bits .or .u8 (bits .and .u64 (m : Int) 127 % 256) 128)] rfl rfl ?c1 ?c2 ?c3 ?c4 ?c5 ?_))
      case c1 => exact cell_one_new _ _ _
      case c2 => intro u hu; simp at hu; subst hu; rfl
      case c3 => have := HFK.out; unfold maxLen; omega
      case c4 => have := HFK.out; omega
      case c5 => have := hbel.size; have := HB.out; simp; omega
      intro v' w1 hown' hgrow _
      go_wp2
      obtain ⟨g, hg, hlt⟩ := fuel_down hb HM.out
      go_step3
      have hbel' : Below B w w1 := (hbel.alloc (by have := hbel.size; have := HB.out; omega) _).grown hgrow (by have := hbel.size; have := HB.out; simp; omega) (fun q hq => (hown.lt q hq).1)
      rw [HBY.out] at hown'
      refine ⟨rfl, ⟨hbel', m / 128, g, k + 1, pre ++ [m % 128 + 128], v', _, _, _, _, _, _, _, _, _, _, _, _, _, _, _, _, _, _, _, rfl, hlt, by have := HFK.out; omega, by rw [bv_app]; exact hown', ?_⟩, ?_⟩
      · have h := HREL.out
        rw [digs_big hb, hg] at h
        rw [List.append_assoc]
        exact h
      · simp [intOf]; omega
    · have hb' : (m : Int) < 128 := by omega
      go_wp2_with (first | (at_builtin; refine wpList_append_own _ rfl _ _ 56 rfl B 5 i5 (.int .u8 0) 1 1 Tryz.underlying56 HI.out HZ0.out HZ1.out HZ2.out rfl (by decide) _ _ _ rfl (hown.alloc _) ⟨w'.heap.size, 0, none⟩ 1 1 [.int .u8 (m : Int)] rfl rfl ?c1 ?c2 ?c3 ?c4 ?c5 ?_))
      case c1 => exact cell_one_new _ _ _
      case c2 => intro u hu; simp at hu; subst hu; rfl
      case c3 => have := HFK.out; unfold maxLen; omega
      case c4 => have := HFK.out; omega
      case c5 => have := hbel.size; have := HB.out; simp; omega
      intro v' w1 hown' hgrow _
      go_wp2
      have hbel' : Below B w w1 := (hbel.alloc (by have := hbel.size; have := HB.out; omega) _).grown hgrow (by have := hbel.size; have := HB.out; simp; omega) (fun q hq => (hown.lt q hq).1)
      simp only [Exit.jump]
      go_ret2
      have h := HREL.out
      rw [digs_small (by omega)] at h
      refine ⟨v', rfl, ?_, hbel'⟩
      have hl : D.length = k + 1 := by
        have h1 := hown'.1
        rw [← h]
        simp [bv] at h1 ⊢
        omega
      rw [hl, ← h, bv_app]
      exact hown'
  · intro HR
    go_wp2
    go_step3
    rename_i hK
    refine hK _ _ (HR.out _ _ ⟨?_, n.toNat, 8, 0, [], _, _, _, _, _, _, _, _, _, _, _, _, _, _, _, _, _, _, _, _, by rw [Int.toNat_of_nonneg h0], ?_, rfl, ?_, by simpa using HD.out⟩)
    · exact (Below.refl _ _).alloc (by have := HB.out; omega) _
    · show n.toNat < 9223372036854775808
      omega
    · rw [← HB.out]
      exact World.ownsRow_made w _ 9 (Nat.le_refl _) (by decide) rfl

set_option maxRecDepth 1000000 in
theorem vlay_no (n : Int) (w : World) (h1 : 9223372036854775808 ≤ n) :
    Calls Tryz.prog 31 #[.int .u64 n] w fun e w' => e = .returned (.tuple #[.slice none 0 0, .int .i64 11]) ∧ w' = w := by
  go_enter Tryz.func31, Tryz.ntmps31
  go_wp2
  go_step3
  go_wp2
  simp only [Exit.noGoto_ret]
  go_ret2
  exact ⟨rfl, rfl⟩
end
section
open Go.RowKit Go
/-- What fits tells. -/
def dfit (h n : Nat) : Nat := if h ≠ 18 ∧ h ≠ 0 then 30 else if (h = 18 ∧ n ≠ 32) ∨ (h = 0 ∧ 64 < n) then 31 else 0

set_option maxRecDepth 1000000 in
theorem fits_any (w : World) (h n : Nat) (hh : h < 18446744073709551616) (hn : n < 18446744073709551616) :
    Calls Tryz.prog 50 #[.int .u64 (h : Nat), .int .u64 (n : Nat)] w fun e w' => e = .returned (.int .i64 (dfit h n : Nat)) ∧ w' = w := by
  by_cases h18 : h = 18
  · subst h18
    by_cases hn32 : n = 32
    · subst hn32
      go_enter Tryz.func50, Tryz.ntmps50
      go_wp2_with fail
      go_ret
      exact ⟨rfl, rfl⟩
    · have e : dfit 18 n = 31 := by simp [dfit, hn32]
      rw [e]
      have g : ((n : Int) != 32) = true := bne_iff_ne.2 (by omega)
      go_enter Tryz.func50, Tryz.ntmps50
      go_wp2_with fail
      go_ret
      exact ⟨rfl, rfl⟩
  · by_cases h0 : h = 0
    · subst h0
      by_cases hn64 : 64 < n
      · have e : dfit 0 n = 31 := by simp [dfit, hn64]
        rw [e]
        have g : (64 : Int) < (n : Int) := by omega
        go_enter Tryz.func50, Tryz.ntmps50
        go_wp2_with fail
        go_ret
        exact ⟨rfl, rfl⟩
      · have e : dfit 0 n = 0 := by simp [dfit, hn64]
        rw [e]
        have g : ¬ (64 : Int) < (n : Int) := by omega
        go_enter Tryz.func50, Tryz.ntmps50
        go_wp2_with fail
        go_ret
        exact ⟨rfl, rfl⟩
    · have e : dfit h n = 30 := by simp [dfit, h18, h0]
      rw [e]
      have g1 : ((h : Int) != 18) = true := bne_iff_ne.2 (by omega)
      have g2 : ((h : Int) != 0) = true := bne_iff_ne.2 (by omega)
      go_enter Tryz.func50, Tryz.ntmps50
      go_wp2_with fail
      go_ret
      exact ⟨rfl, rfl⟩

set_option maxRecDepth 1000000 in
theorem number_any (w : World) (v : Value) (xs : List Nat) (hsl : BSl w v xs) :
    Calls Tryz.prog 85 #[v] w fun e w' => e = .returned (dnumR (dnum xs)) ∧ w' = w := by
  have HV := hide hsl.vread
  clear hsl
  have HE : Hid (dnum xs = if (rd 0 0 xs).2.2 = 0 then rd 0 0 xs else (0, 0, if (rd 0 0 xs).2.2 = 10 then 32 else 33)) := rfl
  generalize rd 0 0 xs = r at *
  obtain ⟨n, u, E⟩ := r
  simp only [] at HV HE
  go_enter Tryz.func85, Tryz.ntmps85
  go_wp2_with fail
  refine HV.out.mono ?_
  rintro e w' ⟨rfl, rfl⟩
  by_cases h0 : E = 0
  · subst h0
    have e : dnum xs = (n, u, 0) := by rw [HE.out, if_pos rfl]
    go_wp2_with fail
    go_ret3
    exact ⟨by rw [e]; rfl, rfl⟩
  · have g0 : ((E : Int) == 0) = false := beq_eq_false_iff_ne.2 (by omega)
    by_cases h1 : E = 10
    · subst h1
      have e : dnum xs = (0, 0, 32) := by rw [HE.out, if_neg (by omega), if_pos rfl]
      go_wp2_with fail
      go_ret3
      exact ⟨by rw [e]; rfl, rfl⟩
    · have g1 : ((E : Int) == 10) = false := beq_eq_false_iff_ne.2 (by omega)
      have e : dnum xs = (0, 0, 33) := by rw [HE.out, if_neg h0, if_neg h1]
      go_wp2_with fail
      go_ret3
      exact ⟨by rw [e]; rfl, rfl⟩
end
section
open Go.RowKit
theorem own_below {w w' : World} {B base : Nat} {e : TypeId} {size : Nat} {v : Value} {n : Nat} {xs : List Value} (h : w.ownsRow base e size v n xs) (hb : Below w.heap.size w w') (_hB : B = B) : w'.ownsRow base e size v n xs :=
  (Kp.of_below (S := fun _ => False) hb).owns h (fun _ _ hf => hf)

/-- What Lend gave, with its marks behind it. -/
structure Lnt (w : World) (base g cap : Nat) (xs : List Nat) : Prop where
  own : w.ownsRow base 5 1 (.slice (some ⟨g, 0, none⟩) (xs.length + 70) cap) (xs.length + 70) (bv (xs ++ marks))
  byte : ∀ x ∈ xs, x < 256
  len : xs.length ≤ 140737488351232

theorem Lnt.bsl {w : World} {base g cap : Nat} {xs : List Nat} (h : Lnt w base g cap xs) : BSl w (.slice (some ⟨g, 0, none⟩) xs.length cap) xs := BSl.lent h.own rfl h.byte

theorem Lnt.cap {w : World} {base g cap : Nat} {xs : List Nat} (h : Lnt w base g cap xs) : xs.length + 70 ≤ cap := by
  rcases h.own.2 with ⟨hv, _⟩ | ⟨g', cap', cur, hv, _, _, h1, _⟩
  · cases hv
  · injection hv with _ _ e; subst e; exact h1

theorem Lnt.mark {w : World} {base g cap : Nat} {xs : List Nat} (h : Lnt w base g cap xs) (i : Nat) (hi : i < 70) : w.cell? ⟨g, xs.length + i, none⟩ = some (.int .u8 (165 - (i : Int))) := by
  have hl : xs.length + i < (xs ++ marks).length := by simp [marks]; omega
  have := (own_cell h.own (j := xs.length + i) (bv_get hl)).1
  rw [this]
  have e : (xs ++ marks).getD (xs.length + i) 0 = 165 - i := by
    simp [List.getD, marks, hi]
  rw [e]
  congr 2
  omega

set_option maxRecDepth 1000000 in
set_option maxHeartbeats 400000 in
theorem intact_any {w : World} {base g cap : Nat} {xs : List Nat} (h : Lnt w base g cap xs) (vb : Value) (hb : BSl w vb xs) :
    Calls Tryz.prog 20 #[.slice (some ⟨g, 0, none⟩) xs.length cap, vb] w fun e w' => e = .returned (.bool true) ∧ Kp (fun _ => False) w w' := by
  have HH := hide h
  have hcv1 := h.bsl.text
  have hcv2 := hb.text
  have hcap := h.cap
  have hlen := h.len
  have hcap' : (xs.length : Int) + 70 ≤ (cap : Int) := by omega
  have HLEN := hide hlen
  generalize nstr xs = S at *
  clear h hb hlen
  go_enter Tryz.func20, Tryz.ntmps20
  have hl2 : (xs.length : Int) ≤ 140737488351232 := by have := HLEN.out; omega
  go_wp2
  clear hcv1 hcv2
  go_loopw [6] (fun i wr => ∃ k : Nat, k ≤ 70 ∧ i = .int .i64 k ∧ Kp (fun _ => False) w wr) (fun i _ => 70 - (intOf i).toNat)
  case atStart => exact ⟨0, by omega, rfl, Kp.refl _ _⟩
  case round =>
    obtain ⟨k, hk, rfl, hkp⟩ := hrel
    have HK := hide hkp
    clear hkp
    by_cases hlt : k < 70
    · have hlt' : (k : Int) < 70 := by omega
      have hm := HK.out.cell (HH.out.mark k hlt) (by simp)
      have HMK : Hid (∀ W, Calls Tryz.prog 39 #[.int .i64 (k : Int)] W fun e w' => e = .returned (.int .u8 (165 - (k : Int))) ∧ w' = W) := fun W => mark_any (k : Int) W (by omega) hlt'
      have hb1 : (xs.length : Int) + (k : Int) < (xs.length : Int) + 70 := by omega
      have hwr : IntKind.i64.wrap ((xs.length : Int) + (k : Int)) = (xs.length : Int) + (k : Int) := by rw [IntKind.wrap_i64]; omega
      go_wp2
      go_quiet ((go_at_call 39; exact Calls.quiet_of_same (HMK.out _)))
      go_wp2
      go_roundw
      case rel => exact ⟨k + 1, by omega, by go_num, HK.out.drewN _⟩
      case measure => simp [intOf]; omega
    · have hlt' : ¬ (k : Int) < 70 := by omega
      go_wp2
      go_ret
      exact ⟨rfl, HK.out⟩

theorem into_set (xs ys : List Nat) (k : Nat) (hx : k < xs.length) (hy : k < ys.length) : (bv (ys.take k ++ xs.drop k ++ marks)).set k (.int .u8 ((ys.getD k 0 : Nat) : Int)) = bv (ys.take (k + 1) ++ xs.drop (k + 1) ++ marks) := by
  have e1 : ys.take k ++ xs.drop k ++ marks = ys.take k ++ (xs[k] :: (xs.drop (k + 1) ++ marks)) := by rw [List.drop_eq_getElem_cons hx, List.append_assoc, List.cons_append]
  have e2 : ys.take (k + 1) ++ xs.drop (k + 1) ++ marks = ys.take k ++ (ys[k] :: (xs.drop (k + 1) ++ marks)) := by rw [List.take_succ_eq_append_getElem hy]; simp only [List.append_assoc, List.cons_append, List.nil_append]
  have hl2 : (bv (ys.take k)).length = k := by rw [bv_len, List.length_take]; omega
  have hb : ∀ (z : Nat) (l : List Nat), bv (z :: l) = Value.int .u8 ((z : Nat) : Int) :: bv l := fun _ _ => rfl
  rw [e1, e2, bv_app, bv_app, List.set_append_right (h := by omega), hl2, Nat.sub_self, hb, hb, List.set_cons_zero]
  simp [List.getD, hy]

set_option maxRecDepth 1000000 in
set_option maxHeartbeats 400000 in
theorem into_any {w : World} {base g cap : Nat} {xs ys : List Nat} (h : Lnt w base g cap xs) (vb : Value) (hb : BSl w vb ys) (hlen : ys.length = xs.length) (hne : vb.ownBlock ≠ some g) :
    Calls Tryz.prog 14 #[.slice (some ⟨g, 0, none⟩) xs.length cap, vb] w fun e w' => e = .returned (.tuple #[]) ∧ Lnt w' base g cap ys ∧ Kp (fun k => k = g) w w' := by
  have HH := hide h
  have HB := hide hb
  have HLE := hide hlen
  have HNE := hide hne
  have hmx : xs.length ≤ 9223372036854775807 := by have := h.len; omega
  obtain ⟨⟨ab, capb, rfl, hq1, hc⟩, hq2, hq3⟩ := hb
  have HC := hide hc
  clear h hlen hne hq1 hq2 hq3 hc
  go_enter Tryz.func14, Tryz.ntmps14
  go_wp2
  go_loopw [4] (fun i wr => ∃ k : Nat, k ≤ xs.length ∧ i = .int .i64 k ∧ wr.ownsRow base 5 1 (.slice (some ⟨g, 0, none⟩) (xs.length + 70) cap) (xs.length + 70) (bv (ys.take k ++ xs.drop k ++ marks)) ∧ Kp (fun q => q = g) w wr) (fun i _ => xs.length - (intOf i).toNat)
  case atStart => exact ⟨0, Nat.zero_le _, rfl, by simpa using HH.out.own, Kp.refl _ _⟩
  case round =>
    obtain ⟨k, hk, rfl, hown, hkp⟩ := hrel
    have HO := hide hown
    have HK := hide hkp
    clear hown hkp
    by_cases hlt : k < xs.length
    · have hlt' : (k : Int) < (xs.length : Int) := by omega
      have hlty : k < ys.length := by have := HLE.out; omega
      have hlty' : (k : Int) < (ys.length : Int) := by omega
      rcases HC.out with h | ⟨b1, o1, rfl, hcc⟩
      · rw [h] at hlty; simp at hlty
      have hbg : b1 ≠ g := fun e => HNE.out (by simp [Value.ownBlock, e])
      have cc := HK.out.cell (hcc k hlty) hbg
      have hget : (bv (ys.take k ++ xs.drop k ++ marks))[k]? = some (.int .u8 ((xs.getD k 0 : Nat) : Int)) := by
        have hl : k < (ys.take k ++ xs.drop k ++ marks).length := by simp [marks]; omega
        rw [bv_get hl]
        congr 3
        have hl2 : (ys.take k).length = k := by rw [List.length_take]; omega
        rw [List.append_assoc]
        simp only [List.getD]
        rw [List.getElem?_append_right (by omega), hl2, Nat.sub_self, List.getElem?_append_left (by rw [List.length_drop]; omega)]
        simp
      obtain ⟨cg, fg⟩ := own_cell HO.out hget
      have hset : (bv (ys.take k ++ xs.drop k ++ marks)).set k (.int .u8 ((ys.getD k 0 : Nat) : Int)) = bv (ys.take (k + 1) ++ xs.drop (k + 1) ++ marks) := by
        exact into_set xs ys k hlt hlty
      have HSE := hide hset
      clear hset hget hcc
      generalize xs.getD k 0 = old at *
      generalize ys.getD k 0 = new at *
      go_wp2
      go_roundw
      case rel => exact ⟨k + 1, by omega, by go_num, by rw [← HSE.out]; exact own_set _ HO.out, HK.out.setCell _ _ (fun _ => rfl)⟩
      case measure => simp [intOf]; omega
    · have hlt' : ¬ (k : Int) < (xs.length : Int) := by omega
      go_wp2
      go_end0
      refine ⟨rfl, ⟨?_, HB.out.byte, by rw [HLE.out]; exact HH.out.len⟩, HK.out⟩
      have h := HO.out
      rw [List.take_of_length_le (by have := HLE.out; omega), List.drop_of_length_le (by omega), List.append_nil] at h
      rw [HLE.out]
      exact h

set_option maxRecDepth 1000000 in
set_option maxHeartbeats 400000 in
theorem other_any (w : World) (vb : Value) (xs : List Nat) (hb : BSl w vb xs) (hlen : xs.length ≤ 140737488351232) :
    Calls Tryz.prog 12 #[vb] w fun e w' => ∃ v, e = .returned v ∧ Hid (∃ ys, w'.ownsRow w.heap.size 5 1 v ys.length (bv ys) ∧ (∀ y ∈ ys, y < 256) ∧ ys.length = xs.length ∧ Below w.heap.size w w') := by
  have HB := hide hb
  have HLEN := hide hlen
  obtain ⟨⟨ab, capb, rfl, hq1, hc⟩, hq2, hby⟩ := hb
  have HC := hide hc
  have HBY := hide hby
  clear hq1 hc hby hlen
  go_enter Tryz.func12, Tryz.ntmps12
  go_wp2
  go_loopw [3, 4] (fun l i wr => ∃ (j : Nat) (al : Option Addr) (cl : Nat) (zs : List Nat), j ≤ xs.length ∧ i = .int .i64 ((j : Int) - 1) ∧ l = .slice al (xs.length - j) cl ∧ zs.length = xs.length - j ∧ wr.ownsRow w.heap.size 5 1 (.slice al (xs.length - j) cl) (xs.length - j) (bv zs) ∧ (∀ z ∈ zs, z < 256) ∧ Below w.heap.size w wr) (fun _ i _ => (intOf i + 1).toNat)
  case atStart => exact ⟨xs.length, none, 0, [], Nat.le_refl _, rfl, by rw [Nat.sub_self], by simp, by rw [Nat.sub_self]; exact World.ownsRow_nil _ _ _ _, by simp, Below.refl _ _⟩
  case round =>
    obtain ⟨j, al, cl, zs, hj, rfl, rfl, hzl, hown, hzb, hbel⟩ := hrel
    have HZL := hide hzl
    have HO := hide hown
    have HZB := hide hzb
    have HBE := hide hbel
    clear hzl hown hzb hbel
    by_cases hj0 : 0 < j
    · obtain ⟨j', rfl⟩ : ∃ j', j = j' + 1 := ⟨j - 1, by omega⟩
      rcases HC.out with h | ⟨b1, o1, rfl, hcc⟩
      · rw [h] at hj; simp at hj
      have cc := keep_below HBE.out _ _ (hcc j' (by omega))
      have hx := getD_lt HBY.out j'
      have hcond : (0 : Int) ≤ ((j' + 1 : Nat) : Int) - 1 := by omega
      clear hcc hj0
      generalize xs.getD j' 0 = x at *
      go_wp2_with (at_builtin; refine append_bsl rfl _ _ rfl w.heap.size _ (xs.length - (j' + 1)) zs rfl (HO.out.alloc _) _ [x] rfl (one_bsl _ x hx) ?b1 ?b2 ?_)
      case b1 => have := HLEN.out; simp; omega
      case b2 => have := HBE.out.size; simp; omega
      intro v2 w2 ho2 hg2
      have HBE2 : Hid (Below w.heap.size w w2) := (HBE.out.alloc HBE.out.size _).grown hg2 (by have := HBE.out.size; simp; omega) (fun q hq => (HO.out.lt q hq).1)
      have hn2 : xs.length - (j' + 1) + 1 = xs.length - j' := by omega
      rw [hn2] at ho2
      obtain ⟨a2, c2, hv2, hq3, hq4, hq5⟩ := own_form ho2
      have HO2 := hide ho2
      have HN2 := hide hn2
      subst hv2
      clear hq3 hq4 hq5 ho2 hg2 hn2
      go_wp2
      go_roundw
      case rel =>
        refine ⟨j', a2, c2, zs ++ [x], by omega, by simp, rfl, by have := HZL.out; simp; omega, HO2.out, ?_, HBE2.out⟩
        intro z hz
        rcases List.mem_append.1 hz with hz | hz
        · exact HZB.out z hz
        · rw [List.mem_singleton.1 hz]; exact hx
      case measure => simp [intOf]
    · have hj00 : j = 0 := by omega
      subst hj00
      have hcond : ¬ (0 : Int) ≤ ((0 : Nat) : Int) - 1 := by omega
      rw [Nat.sub_zero] at HZL HO
      rw [Nat.sub_zero]
      have hb1 := BSl.own HO.out HZB.out
      have hb2 := HB.out.move (keep_below HBE.out)
      have hcv1 := hb1.text
      have hcv2 := hb2.text
      generalize nstr xs = S1 at *
      generalize nstr zs = S2 at *
      clear hb1 hb2 hj hj0
      by_cases hpos : 0 < xs.length
      · have hpos' : (0 : Int) < (xs.length : Int) := by omega
        by_cases hsame : S2.toList = S1.toList
        · have hsame' : (S2.toList == S1.toList) = true := beq_iff_eq.2 hsame
          clear hsame
          have hgz : zs.length - 1 < zs.length := by have := HZL.out; omega
          obtain ⟨gg, hgg⟩ : ∃ gg, al = some ⟨gg, 0, none⟩ := by
            rcases HO.out.2 with ⟨_, h0⟩ | ⟨gg, _, _, hv, _⟩
            · omega
            · injection hv with hv; exact ⟨gg, hv⟩
          subst hgg
          obtain ⟨cl1, fl1⟩ := own_cell HO.out (j := xs.length - 1) (by rw [bv_get (by have := HZL.out; omega)])
          have hzx := getD_lt HZB.out (xs.length - 1)
          have hixr : ((xs.length : Int) - 1).toNat = xs.length - 1 := by omega
          have hixb : (0 : Int) ≤ (xs.length : Int) - 1 := by omega
          have hxor : bits .xor .u8 ((zs.getD (xs.length - 1) 0 : Nat) : Int) 1 = ((zs.getD (xs.length - 1) 0 ^^^ 1 : Nat) : Int) := u8_xor_nat _ 1 hzx (by decide)
          have HXL : Hid (zs.getD (xs.length - 1) 0 ^^^ 1 < 256) := Nat.xor_lt_two_pow (n := 8) hzx (by decide)
          generalize zs.getD (xs.length - 1) 0 = z at *
          generalize z ^^^ 1 = z' at *
          go_wp2
          go_ret
          have hown := own_set (j := xs.length - 1) (.int .u8 ((z' : Nat) : Int)) HO.out
          have hset : (bv zs).set (xs.length - 1) (.int .u8 ((z' : Nat) : Int)) = bv (zs.set (xs.length - 1) z') := by simp [bv, List.map_set]
          rw [hset] at hown
          refine ⟨_, rfl, zs.set (xs.length - 1) z', by rw [List.length_set, HZL.out]; exact hown, fun y hy => ?_, by rw [List.length_set]; exact HZL.out, HBE.out.setCell (HO.out.lt gg rfl).1 _⟩
          rcases List.mem_or_eq_of_mem_set hy with h | h
          · exact HZB.out y h
          · rw [h]; exact HXL.out
        · have hsame' : (S2.toList == S1.toList) = false := beq_eq_false_iff_ne.2 hsame
          clear hsame
          go_wp2
          go_ret
          exact ⟨_, rfl, zs, by rw [HZL.out]; exact HO.out, HZB.out, HZL.out, HBE.out⟩
      · have hpos' : ¬ (0 : Int) < (xs.length : Int) := by omega
        go_wp2
        go_ret
        exact ⟨_, rfl, zs, by rw [HZL.out]; exact HO.out, HZB.out, HZL.out, HBE.out⟩

theorem keepG {wr w1 wi : World} {g : Nat} (hb : Below wr.heap.size wr w1) (hk : Kp (fun q => q = g) w1 wi) (hg : wr.heap.size ≤ g) : ∀ p u, wr.cell? p = some u → wi.cell? p = some u := fun p u h =>
  hk.cell (keep_below hb p u h) (by have := World.block_lt_of_cell? wr p h; omega)

theorem Lnt.kp {w w' : World} {base g cap : Nat} {xs : List Nat} {S : Nat → Prop} (h : Lnt w base g cap xs) (hk : Kp S w w') (hs : ¬ S g) : Lnt w' base g cap xs :=
  ⟨hk.owns h.own (fun q hq => by simp [Value.ownBlock] at hq; subst hq; exact hs), h.byte, h.len⟩
end
section
open Go.RowKit Go
theorem dlay_fit (h : Nat) (d : List Nat) : dlay h d = if dfit h d.length = 0 then (h :: d.length :: d, 0) else ([], dfit h d.length) := by
  unfold dlay dfit
  by_cases h1 : h ≠ 18 ∧ h ≠ 0
  · rw [if_pos h1, if_pos h1]; rfl
  · rw [if_neg h1, if_neg h1]
    by_cases h2 : (h = 18 ∧ d.length ≠ 32) ∨ (h = 0 ∧ 64 < d.length)
    · rw [if_pos h2, if_pos h2]; rfl
    · rw [if_neg h2, if_neg h2]; rfl
theorem dfit_ok {h n : Nat} (e : dfit h n = 0) : (h = 18 ∨ h = 0) ∧ n ≤ 64 := by
  unfold dfit at e
  by_cases h1 : h ≠ 18 ∧ h ≠ 0
  · rw [if_pos h1] at e; cases e
  · rw [if_neg h1] at e
    by_cases h2 : (h = 18 ∧ n ≠ 32) ∨ (h = 0 ∧ 64 < n)
    · rw [if_pos h2] at e; cases e
    · omega
theorem dfit_lt (h n : Nat) : dfit h n < 32 := by
  unfold dfit
  split
  · decide
  · split <;> decide

set_option maxRecDepth 1000000 in
set_option maxHeartbeats 1000000 in
theorem dlay_any (w : World) (h : Nat) (v : Value) (d : List Nat) (hh : h < 18446744073709551616) (hsl : BSl w v d) :
    Calls Tryz.prog 30 #[.int .u64 (h : Nat), v] w fun e w' => ∃ v', e = .returned (.tuple #[v', .int .i64 ((dlay h d).2 : Nat)]) ∧ w'.ownsRow w.heap.size 5 1 v' (dlay h d).1.length (bv (dlay h d).1) ∧ Below w.heap.size w w' := by
  have HSL := hide hsl
  obtain ⟨⟨a, cap, rfl, hn, hc⟩, hmax, hb⟩ := hsl
  clear hn hc hb
  have HE := hide (dlay_fit h d)
  have HF := hide (dfit_lt h d.length)
  have HK := hide (dfit_ok (h := h) (n := d.length))
  generalize hB : w.heap.size = B at *
  have HB := hide hB
  clear hB
  go_enter Tryz.func30, Tryz.ntmps30
  go_wp2_with fail
  refine (fits_any w h d.length hh (by omega)).mono ?_
  rintro e w' ⟨rfl, rfl⟩
  generalize dfit h d.length = f at *
  by_cases h0 : f = 0
  · subst h0
    have hk := HK.out rfl
    rw [if_pos rfl] at HE
    go_wp2_with fail
    refine (vlay_any (h : Int) w' (by omega) (by omega)).mono ?_
    rintro e w1 ⟨v1, rfl, ho1, hb1⟩
    rw [Int.toNat_natCast, digs_small (by omega)] at ho1
    have HO1 := hide ho1
    have HB1 := hide hb1
    obtain ⟨a1, c1, hv1, _, _, _⟩ := own_form ho1
    subst hv1
    clear ho1 hb1
    go_wp2_with fail
    refine (vlay_any (d.length : Int) w1 (by omega) (by omega)).mono ?_
    rintro e w2 ⟨v2, rfl, ho2, hb2⟩
    rw [Int.toNat_natCast, digs_small (by omega)] at ho2
    have HS2 : Hid (BSl w2 v2 [d.length]) := BSl.own ho2 (by simp; omega)
    have HO2 : Hid (w2.ownsRow B 5 1 (.slice a1 [h].length c1) 1 (bv [h])) := own_mono (own_below HO1.out hb2 (rfl : 0 = 0)) (by have := HB.out; omega)
    have HB2 : Hid (Below B w' w2) := by
      rw [HB.out] at HB1
      exact HB1.out.trans (hb2.mono (by have := HB1.out.size; have := HB.out; omega))
    have hs2 : B ≤ w2.heap.size := by have := HB2.out.size; have := HB.out; omega
    obtain ⟨a2, c2, hv2, _, _, _⟩ := own_form ho2
    subst hv2
    clear ho2 hb2 HO1 HB1
    go_wp2_with (at_builtin; refine append_bsl rfl _ _ rfl B _ 1 [h] rfl HO2.out _ [d.length] rfl HS2.out ?b1 ?b2 ?_)
    case b1 => simp
    case b2 => exact hs2
    intro v3 w3 ho3 hg3
    have hlo := fun g (h : _ = some g) => (HO2.out.lt g h).1
    have HB3 : Hid (Below B w' w3) := HB2.out.grown hg3 hs2 (fun g hg => hlo g hg)
    have HO3 := hide ho3
    have HS3 : Hid (BSl w3 (.slice a d.length cap) d) := HSL.out.move (keep_below (by rw [HB.out]; exact HB3.out))
    have hs3 : B ≤ w3.heap.size := by have := HB3.out.size; have := HB.out; omega
    obtain ⟨a3, c3, hv3, _, _, _⟩ := own_form ho3
    subst hv3
    clear ho3 hg3 hlo HO2 HB2 HS2 hs2
    go_wp2_with (at_builtin; refine append_bsl rfl _ _ rfl B _ 2 [h, d.length] rfl HO3.out _ d rfl HS3.out ?b1 ?b2 ?_)
    case b1 => omega
    case b2 => exact hs3
    intro v4 w4 ho4 hg4
    have hlo := fun g (h : _ = some g) => (HO3.out.lt g h).1
    have HB4 : Hid (Below B w' w4) := HB3.out.grown hg4 hs3 (fun g hg => hlo g hg)
    have HO4 := hide ho4
    obtain ⟨a4, c4, hv4, _, _, _⟩ := own_form ho4
    subst hv4
    clear ho4 hg4 hlo HO3 HB3 HS3 hs3
    go_wp2_with fail
    go_ret2
    refine ⟨_, by rw [HE.out]; rfl, ?_, HB4.out⟩
    rw [HE.out]
    have e : (h :: d.length :: d, 0).1.length = 2 + d.length := by simp; omega
    rw [e]
    exact HO4.out
  · have g : ((f : Int) != 0) = true := bne_iff_ne.2 (by omega)
    rw [if_neg h0] at HE
    go_wp2_with fail
    go_ret2
    exact ⟨.slice none 0 0, by rw [HE.out]; rfl, by rw [HE.out]; exact World.ownsRow_nil _ _ _ _, Below.refl _ _⟩
end
section
open Go.RowKit Go
theorem dread_fit {xs : List Nat} {hn u n m : Nat} (h : dnum xs = (hn, u, 0)) (h2 : dnum (xs.drop u) = (n, m, 0)) :
    (dfit hn n ≠ 0 → dread xs = (0, [], 0, dfit hn n)) ∧ (dfit hn n = 0 → (xs.length - (u + m) < n → dread xs = (0, [], 0, 32)) ∧ (¬ xs.length - (u + m) < n → dread xs = (hn, (xs.drop (u + m)).take n, u + m + n, 0))) := by
  have K := (dread_rest h).2 n m h2
  unfold dfit
  by_cases h1 : hn ≠ 18 ∧ hn ≠ 0
  · rw [if_pos h1]
    exact ⟨fun _ => K.1 h1, fun h => by cases h⟩
  · rw [if_neg h1]
    have K2 := K.2 h1
    by_cases h3 : (hn = 18 ∧ n ≠ 32) ∨ (hn = 0 ∧ 64 < n)
    · rw [if_pos h3]
      exact ⟨fun _ => K2.1 h3, fun h => by cases h⟩
    · rw [if_neg h3]
      exact ⟨fun h => absurd rfl h, fun _ => K2.2 h3⟩

set_option maxRecDepth 1000000 in
set_option maxHeartbeats 4000000 in
theorem dread_any (w : World) (v : Value) (xs : List Nat) (hsl : BSl w v xs) :
    Calls Tryz.prog 52 #[v] w fun e w' => ∃ v', e = .returned (.tuple #[.int .u64 ((dread xs).1 : Nat), v', .int .i64 ((dread xs).2.2.1 : Nat), .int .i64 ((dread xs).2.2.2 : Nat)]) ∧ w'.ownsRow w.heap.size 5 1 v' (dread xs).2.1.length (bv (dread xs).2.1) ∧ Below w.heap.size w w' := by
  have HSL := hide hsl
  have HRB := hide (dnum_bound xs)
  have HRX := hide (dnum_bad xs)
  have HD1 := hide (@dread_one xs)
  have HD2 : Hid (∀ hn u : Nat, dnum xs = (hn, u, 0) → _) := fun hn u h => dread_rest (xs := xs) (hn := hn) (u := u) h
  have HD3 : Hid (∀ hn u n m : Nat, dnum xs = (hn, u, 0) → dnum (xs.drop u) = (n, m, 0) → _) := fun hn u n m h h2 => dread_fit (xs := xs) (hn := hn) (u := u) (n := n) (m := m) h h2
  obtain ⟨⟨a, cap, rfl, hn, hc⟩, hmax, hb⟩ := hsl
  have hcap := hn.1
  clear hn hc hb
  go_enter Tryz.func52, Tryz.ntmps52
  go_wp2_with fail
  refine (number_any _ _ xs HSL.out).mono ?_
  rintro e w1 ⟨rfl, rfl⟩
  by_cases hr : (dnum xs).2.2 = 0
  · have hrb := HRB.out hr
    obtain ⟨hn, u, re, hR⟩ : ∃ hn u re, dnum xs = (hn, u, re) := ⟨_, _, _, rfl⟩
    rw [hR] at hr hrb
    simp only at hr hrb
    subst hr
    obtain ⟨hhn, hu, hu9⟩ := hrb
    have HH := hide (HD2.out hn u hR).1
    have HRR := hide hR
    rw [hR]
    clear HD1 HD2 HRX HRB
    obtain ⟨⟨a', cap', hv, hn1, hc⟩, hmax1, hb1⟩ := HSL.out
    injection hv with hv1 hv2 hv3
    subst hv1
    subst hv3
    rcases hc with hc | ⟨b, off, rfl, hc⟩
    · subst hc
      rw [dnum_nil] at hR
      injection hR with _ hR
      injection hR with _ hR
      cases hR
    clear hn1 hc hb1 hv2 hR
    simp only [dnumR]
    by_cases hcu : cap = u
    · have hxu : xs.drop u = [] := List.drop_of_length_le (by omega)
      have HE : Hid (dread xs = (0, [], 0, 32)) := by
        have h := HH.out
        rw [hxu, dnum_nil] at h
        exact h (by simp)
      have HSD : Hid (BSl w1 (.slice (some ⟨b, off, none⟩) 0 0) []) := bsl_nil _ _ _
      have hul : xs.length = u := by omega
      rw [hul] at HSL
      clear hxu HH hhn
      subst hcu
      go_wp2_with fail
      refine (number_any _ _ [] HSD.out).mono ?_
      rintro e w2 ⟨rfl, rfl⟩
      clear HSD HSL
      rw [dnum_nil]
      simp only [dnumR]
      go_wp2
      refine bodyPost_ret (results_four rfl _ _ _) rfl ⟨_, by rw [HE.out]; rfl, by rw [HE.out]; exact World.ownsRow_nil _ _ _ _, Below.refl _ _⟩
    · have hcu' : ¬ u = cap := fun e => hcu e.symm
      have huc : (u : Int) ≤ (xs.length : Int) := by omega
      have HSD := hide (HSL.out.drop u hu)
      go_wp2_with fail
      refine (number_any _ _ (xs.drop u) HSD.out).mono ?_
      rintro e w2 ⟨rfl, rfl⟩
      have HQB := hide (dnum_bound (xs.drop u))
      have HQX := hide (dnum_bad (xs.drop u))
      obtain ⟨n, m, qe, hQ⟩ : ∃ n m qe, dnum (xs.drop u) = (n, m, qe) := ⟨_, _, _, rfl⟩
      rw [hQ] at HQB HQX HH ⊢
      simp only [dnumR] at HQB HQX HH ⊢
      by_cases hq : qe = 0
      · subst hq
        have hqb := HQB.out rfl
        rw [List.length_drop] at hqb
        obtain ⟨hqn, hqm, hqm9⟩ := hqb
        have HK := hide (HD3.out hn u n m HRR.out hQ)
        have HFK := hide (dfit_ok (h := hn) (n := n))
        have HFL := hide (dfit_lt hn n)
        clear HQB HQX HH hQ HRR HD3
        go_wp2_with fail
        refine (fits_any _ hn n (by omega) (by omega)).mono ?_
        rintro e w3 ⟨rfl, rfl⟩
        generalize dfit hn n = f at *
        by_cases hf : f = 0
        · subst hf
          have hfk := HFK.out rfl
          have HK2 := hide (HK.out.2 rfl)
          have hn64 : n ≤ 64 := hfk.2
          clear HK HFK HFL hfk
          by_cases hs : xs.length - (u + m) < n
          · have HE : Hid (dread xs = (0, [], 0, 32)) := HK2.out.1 hs
            have hs' : (xs.length : Int) < (u : Int) + (m : Int) + (n : Int) := by omega
            go_wp2_with fail
            refine bodyPost_ret (results_four rfl _ _ _) rfl ⟨_, by rw [HE.out]; rfl, by rw [HE.out]; exact World.ownsRow_nil _ _ _ _, Below.refl _ _⟩
          · have HE : Hid (dread xs = (hn, (xs.drop (u + m)).take n, u + m + n, 0)) := HK2.out.2 hs
            have hs' : ¬ (xs.length : Int) < (u : Int) + (m : Int) + (n : Int) := by omega
            have hum : u + m ≤ xs.length := by omega
            by_cases hn0 : n = 0
            · subst hn0
              rw [List.take_zero] at HE
              go_wp2_with fail
              refine (clone_any _ _ [] (bsl_nil _ _ _) (by simp)).mono ?_
              rintro e w4 ⟨v4, rfl, ho4, hb4⟩
              have HO4 := hide ho4
              have HB4 := hide hb4
              clear ho4 hb4
              go_wp2_with fail
              refine bodyPost_ret (results_four rfl _ _ _) rfl ⟨v4, by rw [HE.out]; rfl, by rw [HE.out]; exact HO4.out, HB4.out⟩
            · have HTL : Hid (((xs.drop (u + m)).take n).length = n) := by
                show _ = _
                rw [List.length_take, List.length_drop]
                omega
              have HVS : Hid (BSl w3 (.slice (some ⟨b, off + (u + m), none⟩) n n) ((xs.drop (u + m)).take n)) := (HSL.out.drop (u + m) hum).take3 n (by rw [List.length_drop]; omega)
              generalize (xs.drop (u + m)).take n = D at *
              have hne : ¬ u + m + n = u + m := by omega
              go_wp2_with fail
              refine (clone_any _ _ D HVS.out (by rw [HTL.out]; omega)).mono ?_
              rintro e w4 ⟨v4, rfl, ho4, hb4⟩
              have HO4 := hide ho4
              have HB4 := hide hb4
              clear ho4 hb4
              go_wp2_with fail
              refine bodyPost_ret (results_four rfl _ _ _) rfl ⟨v4, by rw [HE.out]; rfl, by rw [HE.out]; exact HO4.out, HB4.out⟩
        · have g : ((f : Int) != 0) = true := bne_iff_ne.2 (by omega)
          have HE : Hid (dread xs = (0, [], 0, f)) := HK.out.1 hf
          have hf32 := HFL.out
          go_wp2_with fail
          refine bodyPost_ret (results_four rfl _ _ _) rfl ⟨_, by rw [HE.out]; rfl, by rw [HE.out]; exact World.ownsRow_nil _ _ _ _, Below.refl _ _⟩
      · have g : ((qe : Int) != 0) = true := bne_iff_ne.2 (by omega)
        have HE : Hid (dread xs = (0, [], 0, qe)) := HH.out hq
        have hq3 := HQX.out hq
        go_wp2_with fail
        refine bodyPost_ret (results_four rfl _ _ _) rfl ⟨_, by rw [HE.out]; rfl, by rw [HE.out]; exact World.ownsRow_nil _ _ _ _, Below.refl _ _⟩
  · have HE := hide (HD1.out hr)
    have hbad := HRX.out hr
    obtain ⟨hn, u, re, hR⟩ : ∃ hn u re, dnum xs = (hn, u, re) := ⟨_, _, _, rfl⟩
    rw [hR] at HE hr hbad ⊢
    simp only [dnumR] at HE hr hbad ⊢
    have g : ((re : Int) != 0) = true := bne_iff_ne.2 (by omega)
    go_wp2_with fail
    refine bodyPost_ret (results_four rfl _ _ _) rfl ⟨_, by rw [HE.out]; rfl, by rw [HE.out]; exact World.ownsRow_nil _ _ _ _, Below.refl _ _⟩
end
section
open Go.RowKit Go
def abcd : List Nat := [0xba, 0x78, 0x16, 0xbf, 0x8f, 0x01, 0xcf, 0xea, 0x41, 0x41, 0x40, 0xde, 0x5d, 0xae, 0x22, 0x23, 0xb0, 0x03, 0x61, 0xa3, 0x96, 0x17, 0x7a, 0x9c, 0xb4, 0x10, 0xff, 0x61, 0xf2, 0x00, 0x15, 0xad]

theorem plain5 : Tryz.prog.plainKey 5 = true := by kernel_rfl
theorem cells5 : Tryz.prog.cellsOf 5 = 1 := by kernel_rfl
theorem eqb_items (w : World) (d : Nat) (xs ys : List Nat) : ∀ is : List Nat, (∀ i ∈ is, i < xs.length ∧ i < ys.length) → (Op.eqItems (d + 1) 5 1 (bv xs).toArray (bv ys).toArray is).run Tryz.prog w = .ok (decide (∀ i ∈ is, xs.getD i 0 = ys.getD i 0)) w
  | [], _ => by simp [Op.eqItems]
  | i :: is, h => by
    have hi := h i (by simp)
    have p1 := run_part_plain (P := Tryz.prog) w plain5 (xs := (bv xs).toArray) (by rw [List.getElem?_toArray]; exact bv_get hi.1)
    have p2 := run_part_plain (P := Tryz.prog) w plain5 (xs := (bv ys).toArray) (by rw [List.getElem?_toArray]; exact bv_get hi.2)
    have ih := eqb_items w d xs ys is (fun j hj => h j (by simp [hj]))
    have p3 : (Op.equalIn (d + 1) 5 (.int .u8 ((xs.getD i 0 : Nat) : Int)) (.int .u8 ((ys.getD i 0 : Nat) : Int))).run Tryz.prog w = .ok (decide (xs.getD i 0 = ys.getD i 0)) w := by
      simp [Op.equalIn, run_underlying Tryz.underlying5, Result.andThen]
      by_cases e : xs[i]?.getD 0 = ys[i]?.getD 0
      · simp [e]
      · have e2 : ¬ ((xs[i]?.getD 0 : Nat) : Int) = ((ys[i]?.getD 0 : Nat) : Int) := by omega
        simp [e, e2]
    simp only [Op.eqItems, Nat.mul_one, Sem.run_bind, p1, p2, p3, Result.andThen_ok]
    by_cases e : xs.getD i 0 = ys.getD i 0
    · have e2 : (∀ j ∈ i :: is, xs.getD j 0 = ys.getD j 0) ↔ (∀ j ∈ is, xs.getD j 0 = ys.getD j 0) :=
        ⟨fun h j hj => h j (List.mem_cons_of_mem _ hj), fun h j hj => by
          rcases List.mem_cons.1 hj with rfl | hj
          · exact e
          · exact h j hj⟩
      rw [decide_eq_true e, decide_eq_decide.2 e2]
      exact ih
    · rw [decide_eq_false e, decide_eq_false (fun h => e (h i (by simp)))]
      rfl
theorem list_ext_getD {xs ys : List Nat} (h : xs.length = ys.length) (hg : ∀ i, i < xs.length → xs.getD i 0 = ys.getD i 0) : xs = ys := by
  apply List.ext_getElem h
  intro i h1 h2
  have := hg i h1
  simpa [List.getD, h1, h2] using this
theorem eqin32 (w : World) (xs ys : List Nat) (hx : xs.length = 32) (hy : ys.length = 32) : (Op.equalIn 10000 104 (.agg (bv xs).toArray) (.agg (bv ys).toArray)).run Tryz.prog w = .ok (decide (xs = ys)) w := by
  obtain ⟨i5, hi, _⟩ := info5_ex
  have h : (Op.equalIn 10000 104 (.agg (bv xs).toArray) (.agg (bv ys).toArray)).run Tryz.prog w = _ := run_equalIn_array (P := Tryz.prog) w 9999 (bv xs).toArray (bv ys).toArray Tryz.underlying104 hi
  have h2 : (Op.eqItems 9999 5 1 (bv xs).toArray (bv ys).toArray (List.range 32)).run Tryz.prog w = _ := eqb_items w 9998 xs ys (List.range 32) (fun i hi => by have := List.mem_range.1 hi; omega)
  rw [cells5, h2] at h
  have e : decide (∀ i ∈ List.range 32, xs.getD i 0 = ys.getD i 0) = decide (xs = ys) := by
    by_cases e : xs = ys
    · subst e; simp
    · rw [decide_eq_false e]
      exact decide_eq_false (fun hall => e (list_ext_getD (by omega) (fun i hi => hall i (List.mem_range.2 (by omega)))))
  rw [e] at h
  exact h
end
section
open Go.RowKit Go
section
variable {P : Program} {Q : Exit → Act → World → Prop} {S : World → Prop} {l : List Oper} {fuel : Nat} {listed : Array Bool} {a : Act} {w : World}
/-- A region that draws its order, by hand: begin. -/
theorem heldStart {id : Nat} (hm : P.follows .mixedOrders = true) (h : wpAnyH P .any l.toArray Q S l.length (Array.replicate l.length false) a w.drew) : (Code.region id l.toArray true).wp P Q a w :=
  wp_region_held (S := S) hm (by simpa using h)
/-- Take one first that reads alone. -/
theorem heldTake (i : Nat) {oi : Oper} (v : Value) (hi : l[i]? = some oi) (hs : Region.noSelect l.toArray = true) (hf : Region.free .any l.toArray listed i = true) (hr : (Region.ready .any l.toArray listed).contains i = true)
    (hQ : ∀ c a w, Q (.panic c) (a.put oi.dst v) w → Q (.panic c) a w) (hw : Region.wanted oi (yielded l.toArray a.tmps) = true) (hS : S w) (hy : ∀ w, S w → (execOp a.eval oi).run P w = .ok (.value v) w)
    (h : wpAnyH P .any l.toArray Q S fuel (listed.setIfInBounds i true) (a.put oi.dst v) w) : wpAnyH P .any l.toArray Q S (fuel + 1) listed a w :=
  wpAnyH_take (by simpa using hi) hs hf hr hQ (.inl ⟨hw, hy⟩) hS h
/-- The only one that may come up. -/
theorem heldStep (i : Nat) {oi : Oper} (hi : l[i]? = some oi) (hr : Region.ready .any l.toArray listed = [i])
    (h : ∀ K : Act → World → Prop, Hid (∀ a w, S w → (S w → wpAnyH P .any l.toArray Q S fuel (listed.setIfInBounds i true) a w) → K a w) → if Region.wanted oi (yielded l.toArray a.tmps) = true then Oper.wp P oi a w K Q else K (a.put oi.dst undef) w) : wpAnyH P .any l.toArray Q S (fuel + 1) listed a w :=
  wpAnyH_ready hr (by simp) (AllReadyH.cons (by simpa using hi) (fun K hK => h K hK) AllReadyH.nil)
theorem heldDone (hr : Region.ready .any l.toArray listed = []) (h : Q .normal a w) : wpAnyH P .any l.toArray Q S fuel listed a w := wpAnyH_done hr h fuel
end
end
section
open Go.RowKit Go
/-- A text that is written out, as bytes. -/
theorem lit_conv (w : World) (A : Array Value) (n : Nat) (hn : A.size = n) : Sem.run Tryz.prog (convert 56 56 (.slice (some ⟨w.heap.size, 0, none⟩) n n)) (w.alloc (.cells A 5)) = .ok (.slice (some ⟨w.heap.size, 0, none⟩) n n) (w.alloc (.cells A 5 (n, n + 1))) := by
  subst hn
  exact Lib.run_convert_bytes_const (P := Tryz.prog) w 56 5 A A.size A.size Tryz.underlying56 Tryz.underlying5
theorem lit_bsl (w : World) (A : Array Value) (fr : Nat × Nat) (n : Nat) (xs : List Nat) (hA : A = (bv xs).toArray) (hn : xs.length = n) (hb : ∀ x ∈ xs, x < 256) (hl : n ≤ 1000) : BSl (w.alloc (.cells A 5 fr)) (.slice (some ⟨w.heap.size, 0, none⟩) n n) xs := by
  subst hA
  subst hn
  refine ⟨⟨_, xs.length, rfl, ⟨Nat.le_refl _, fun h => by cases h⟩, .inr ⟨w.heap.size, 0, rfl, fun j hj => ?_⟩⟩, by omega, hb⟩
  rw [Nat.zero_add]
  have h : (w.alloc (.cells (bv xs).toArray 5 fr)).heap[w.heap.size]? = some (.cells (bv xs).toArray 5 fr) := heap_alloc_new w _
  simp only [World.cell?, h, List.getElem?_toArray]
  exact bv_get hj
theorem below_alloc (w : World) (o : Obj) : Below w.heap.size w (w.alloc o) := (Below.refl _ _).alloc (Nat.le_refl _) _
theorem not_slice_own (g n c : Nat) (h : g ≠ n) : (Value.slice (some ⟨n, 0, none⟩) c c).ownBlock ≠ some g := fun e => h (by simp [Value.ownBlock] at e; exact e.symm)

/-- What begun has in hand. -/
structure Bgn (w wx : World) (D g : Nat) (vb : Value) (xs : List Nat) : Prop where
  d : wx.heap[D]? = some (.cells (bv abcd).toArray 104 (0, 0))
  b : BSl wx vb [0, 2, 97, 98]
  h : HS wx g xs
  c : Cb wx
  l : Below w.heap.size w wx
  dg : D ≠ g
  g0 : w.heap.size ≤ g
  p0 : 0 < w.heap.size
  bg : ∀ k, vb.ownBlock = some k → ¬ k = g
theorem Bgn.below {w wx wy : World} {D g : Nat} {vb : Value} {xs : List Nat} (h : Bgn w wx D g vb xs) (hb : Below wx.heap.size wx wy) : Bgn w wy D g vb xs :=
  ⟨(hb.block D (blk_lt h.d)).trans h.d, h.b.move (keep_below hb), h.h.below hb, h.c.below hb, h.l.trans (hb.mono h.l.size), h.dg, h.g0, h.p0, h.bg⟩
theorem Bgn.write {w wx wy : World} {D g : Nat} {vb : Value} {xs ys : List Nat} (h : Bgn w wx D g vb xs) (hk : Kp (fun q => q = g) wx wy) (hs : HS wy g ys) : Bgn w wy D g vb ys :=
  ⟨(hk.block D (blk_lt h.d) h.dg).trans h.d, hk.bsl h.b h.bg, hs, h.c.kp hk (fun e => by have := h.g0; have := h.p0; omega), h.l.trans (hk.below h.l.size (fun q e => by have := h.g0; omega)), h.dg, h.g0, h.p0, h.bg⟩

theorem cell_mark (w : World) (A : Array Value) (t : TypeId) (fr : Nat × Nat) (p : Addr) : (w.alloc (.cells A t fr)).cell? p = (w.alloc (.cells A t)).cell? p := by
  simp only [World.cell?, World.alloc, Array.getElem?_push]
  by_cases h : p.block = w.heap.size
  · simp [h]
  · simp [h]
theorem heap_mark (w : World) (o o' : Obj) {k : Nat} (h : k ≠ w.heap.size) : (w.alloc o').heap[k]? = (w.alloc o).heap[k]? := by
  show (w.heap.push o')[k]? = (w.heap.push o)[k]?
  rw [Array.getElem?_push, Array.getElem?_push, if_neg h, if_neg h]
theorem heap_new_ne {w : World} {A B : Array Value} {t t' : TypeId} {k : Nat} (ht : t ≠ t') (h : (w.alloc (.cells A t)).heap[k]? = some (.cells B t' (0, 0))) : k ≠ w.heap.size := by
  intro e
  subst e
  rw [heap_alloc_new] at h
  injection h with h
  injection h with _ h _
  exact ht h
theorem Bgn.mark {w wx : World} {D g : Nat} {vb : Value} {xs : List Nat} {A : Array Value} {fr : Nat × Nat} (h : Bgn w (wx.alloc (.cells A 5)) D g vb xs) : Bgn w (wx.alloc (.cells A 5 fr)) D g vb xs := by
  have hm : ∀ a u, (wx.alloc (.cells A 5)).cell? a = some u → (wx.alloc (.cells A 5 fr)).cell? a = some u := fun a u hu => by rw [cell_mark]; exact hu
  have hD := heap_new_ne (by decide) h.d
  have hg := heap_new_ne (by decide) h.h.b
  have hgl := blk_lt h.h.b
  have hsz : (wx.alloc (.cells A 5)).heap.size = wx.heap.size + 1 := by simp
  have g0 := h.g0
  refine ⟨(heap_mark wx _ _ hD).trans h.d, h.b.move hm, ⟨(heap_mark wx _ _ hg).trans h.h.b⟩, h.c.move hm, ?_, h.dg, h.g0, h.p0, h.bg⟩
  exact ⟨h.l.os, h.l.tape, h.l.output, by have := h.l.size; simp at this ⊢; omega, fun k hk => (heap_mark wx _ _ (by omega)).trans (h.l.block k hk)⟩
theorem Bgn.drew {w wx : World} {D g : Nat} {vb : Value} {xs : List Nat} (h : Bgn w wx D g vb xs) : Bgn w wx.drew D g vb xs := h.below ((Below.refl _ _).drew)
theorem Bgn.range {w wx : World} {D g : Nat} {vb : Value} {xs : List Nat} (h : Bgn w wx D g vb xs) : wx.rangeAt D 0 (bv abcd) := fun j v hv => by
  rw [Nat.zero_add]
  exact blk_cell h.d (by rw [List.getElem?_toArray]; exact hv)
theorem Bgn.keep {w wx : World} {D g : Nat} {vb : Value} {xs : List Nat} (h : Bgn w wx D g vb xs) : wx.rangeAt D 0 (bv abcd) ∧ Bgn w wx D g vb xs := ⟨h.range, h⟩
theorem Bgn.markD {w wx : World} {D g : Nat} {vb : Value} {xs : List Nat} {A : Array Value} {fr : Nat × Nat} (h : Bgn w (wx.alloc (.cells A 5)).drew D g vb xs) : Bgn w (wx.alloc (.cells A 5 fr)).drew D g vb xs := Bgn.mark (wx := wx.drew) h
theorem below_allocD (w : World) (o : Obj) : Below w.drew.heap.size w.drew (w.alloc o).drew := below_alloc w.drew o
theorem lit_bslD (w : World) (A : Array Value) (fr : Nat × Nat) (n : Nat) (xs : List Nat) (hA : A = (bv xs).toArray) (hn : xs.length = n) (hb : ∀ x ∈ xs, x < 256) (hl : n ≤ 1000) : BSl (w.alloc (.cells A 5 fr)).drew (.slice (some ⟨w.heap.size, 0, none⟩) n n) xs := lit_bsl w.drew A fr n xs hA hn hb hl
theorem loadD_run (wy : World) {D : Nat} (h : wy.rangeAt D 0 (bv abcd)) {o : Oper} {a : Act} {p : Operand} (ho : o.op = .load 104 p) (hp : a.eval p = .pointer (some ⟨D, 0, none⟩)) : (execOp a.eval o).run Tryz.prog wy = .ok (.value (.agg (bv abcd).toArray)) wy := by
  have hr := part_load (w := wy) D 0 (bv abcd) Tryz.underlying104 info32 h
  unfold execOp
  simp only [ho, Sem.run_bind, hp, hr, Result.andThen_ok]
  rfl
theorem sum_abc (w : World) (v : Value) (hcb : Cb w) (hsl : BSl w v [97, 98, 99]) : Calls Tryz.prog 44 #[v] w fun e w' => e = .returned (.agg (bv abcd).toArray) ∧ Below w.heap.size w w' := by
  have h := sum_any w v [97, 98, 99] hcb hsl (by simp)
  rw [sha_abc] at h
  exact h
theorem hsum_abc {w wx : World} {D g : Nat} {vb : Value} (h : Bgn w wx D g vb [97, 98, 99]) : Calls Tryz.prog 80 #[.pointer (some ⟨g, 0, none⟩)] wx fun e w' => e = .returned (.agg (bv abcd).toArray) ∧ Below wx.heap.size wx w' := by
  have h := hsum_any wx g [97, 98, 99] h.c h.h (by simp) (by simp)
  rw [sha_abc] at h
  exact h
theorem eq_same (w : World) (v u : Value) (xs : List Nat) (h1 : BSl w v xs) (h2 : BSl w u xs) : Calls Tryz.prog 10 #[v, u] w fun e w' => e = .returned (.bool true) ∧ Below w.heap.size w w' :=
  (eq_any w v u xs xs h1 h2).mono fun e w' ⟨he, hk⟩ => ⟨by rw [he]; simp, hk.below (Nat.le_refl _) (fun _ h => h.elim)⟩
end
section
open Go.RowKit Go
/-- One place: its struct's block, its two lists, its one row. -/
structure Pls (w : World) (B P : Nat) (ov iv vx : Value) (no : Nat) (os : List Value) (xs : List Nat) : Prop where
  p : w.heap[P]? = some (.cells #[ov, iv] 55 (0, 0))
  o : w.ownsRow B 56 1 ov no os
  i : w.ownsRow B 56 1 iv 1 [vx]
  x : w.ownsRow B 5 1 vx xs.length (bv xs)
  oi : ∀ k, ov.ownBlock = some k → iv.ownBlock ≠ some k
  pb : B ≤ P
/-- The blocks of a place. -/
def pbk (P : Nat) (ov iv vx : Value) (q : Nat) : Prop := q = P ∨ ov.ownBlock = some q ∨ iv.ownBlock = some q ∨ vx.ownBlock = some q
theorem own_blk (a : Option Addr) (n m c d : Nat) : (Value.slice a n c).ownBlock = (Value.slice a m d).ownBlock := by cases a <;> rfl
theorem own_zero {w : World} {B : Nat} {e : TypeId} {a : Option Addr} {n c : Nat} {xs : List Value} (h : w.ownsRow B e 1 (.slice a n c) n xs) : w.ownsRow B e 1 (.slice a 0 c) 0 [] := by
  refine ⟨rfl, ?_⟩
  rcases h.2 with ⟨hv, _⟩ | ⟨g, cap, cur, hv, hb, hg, h1, h2, h3, h4⟩
  · injection hv with e1 e2 e3
    subst e1
    subst e3
    exact .inl ⟨rfl, rfl⟩
  · injection hv with e1 e2 e3
    subst e1
    subst e3
    exact .inr ⟨g, c, cur, rfl, hb, hg, Nat.zero_le _, h2, h3, by simp⟩
theorem own_one_form {w : World} {B : Nat} {e : TypeId} {v x : Value} (h : w.ownsRow B e 1 v 1 [x]) : ∃ g c, v = .slice (some ⟨g, 0, none⟩) 1 c ∧ w.cell? ⟨g, 0, none⟩ = some x ∧ w.frozen? ⟨g, 0, none⟩ = false := by
  obtain ⟨a, c, hv, _, _, hc⟩ := own_form h
  obtain ⟨g, ha, _⟩ := hc 0 x rfl
  subst ha
  subst hv
  exact ⟨g, c, rfl, (own_cell h (j := 0) rfl).1, (own_cell h (j := 0) rfl).2⟩

/-- append of bytes, and where they lie. -/
theorem append_bsl_at {ops : Array Oper} {rest : List Oper} {o : Oper} {a : Act} {Q : Exit → Act → World → Prop} {w : World} (hgd : o.guard = none) (s x : Operand)
    (ho : o.op = .call { callee := .builtin .append, args := #[s, x], argTypes := #[56, 56] }) (B : Nat) (v : Value) (n : Nat) (ds : List Nat) (hs : a.eval s = v) (hown : w.ownsRow B 5 1 v n (bv ds))
    (u : Value) (xs : List Nat) (hx : a.eval x = u) (hsl : BSl w u xs) (hlen : n + xs.length ≤ 140737488355328) (hbase : B ≤ w.heap.size)
    (h : ∀ v' w', w'.ownsRow B 5 1 v' (n + xs.length) (bv (ds ++ xs)) → w.grownBy w' v.ownBlock → (v'.ownBlock = v.ownBlock ∨ v'.ownBlock = some w.heap.size) → wpList Tryz.prog ops Q rest (a.put o.dst v') w') : wpList Tryz.prog ops Q (o :: rest) a w := by
  obtain ⟨i5, hi, hz0, hz1, hz2⟩ := info5_ex
  obtain ⟨⟨ad, cap, rfl, hn, hc⟩, hmax, hb⟩ := id hsl
  cases ad with
  | none =>
    rcases hc with rfl | ⟨_, _, e, _⟩
    · have := hn.2 rfl
      subst this
      refine wpList_append_own_none hgd s x 56 ho B 5 i5 1 Tryz.underlying56 hi v n (bv ds) hs hown hx (h v w ?_ ⟨rfl, rfl, rfl, Nat.le_refl _, fun _ _ _ => rfl⟩ (.inl rfl))
      simpa using hown
    · cases e
  | some ad =>
    refine wpList_append_own_at w hgd s x 56 ho B 5 i5 (.int .u8 0) 1 1 Tryz.underlying56 hi hz0 hz1 hz2 rfl (by decide) v n (bv ds) hs hown ad xs.length cap (bv xs) hx (by simp [bv]) hsl.src.2 (bv_one xs) (by unfold maxLen; omega) (by omega) hbase fun v' w' h1 h2 _ h4 => ?_
    exact h v' w' (by rw [bv_app]; exact h1) h2 h4

set_option maxRecDepth 1000000 in
set_option maxHeartbeats 2000000 in
theorem rows_used (w : World) (B P c : Nat) (v ov iv vx : Value) (no : Nat) (os : List Value) (xs ys : List Nat) (h : Pls w B P ov iv vx no os xs) (hc : w.cell? ⟨c, 0, none⟩ = some v) (hv : BSl w v ys) (hB : B ≤ w.heap.size) (hl : ys.length ≤ 140737488351232)
    (hcp : c ≠ P) (hvp : ∀ w', Kp (fun q => q = P) w w' → BSl w' v ys) :
    Calls Tryz.prog 33 #[.pointer (some ⟨P, 0, none⟩), .slice (some ⟨c, 0, none⟩) 1 1] w fun e w' => ∃ ov' iv' vx', e = .returned ov' ∧ Pls w' B P ov' iv' vx' 1 [vx'] ys ∧ Kp (pbk P ov iv vx) w w' ∧ ∀ q, pbk P ov' iv' vx' q → pbk P ov iv vx q ∨ w.heap.size ≤ q := by
  have HP := hide h
  have HC := hide hc
  have HV := hide hv
  have HB := hide hB
  have HL := hide hl
  have HCP := hide hcp
  have HVP := hide hvp
  obtain ⟨ao, co, rfl, _, _, _⟩ := own_form h.o
  obtain ⟨gi, ci, rfl, ci0, fi0⟩ := own_one_form h.i
  obtain ⟨ax, cx, rfl, _, _, _⟩ := own_form h.x
  have q0 : w.cell? ⟨P, 0, none⟩ = some (.slice ao no co) := blk_cell h.p rfl
  have q1 : w.cell? ⟨P, 1, none⟩ = some (.slice (some ⟨gi, 0, none⟩) 1 ci) := blk_cell h.p rfl
  have f0 := blk_frozen 0 h.p
  clear h hv hB hl hcp hvp fi0
  go_enter Tryz.func33, Tryz.ntmps33
  go_wp2_with fail
  refine wp_loop_rounds 2 ?_
  rw [rounds_succ]
  go_wp2_with fail
  have HP1 : Hid (Pls (w.setCell ⟨P, 0, none⟩ (.slice ao 0 co)) B P (.slice ao 0 co) (.slice (some ⟨gi, 0, none⟩) 1 ci) (.slice ax xs.length cx) 0 [] xs) := by
    have h := HP.out
    have nP : ∀ {u : Value} {n : Nat} {l : List Value} {e : TypeId}, w.ownsRow B e 1 u n l → e ≠ 55 → ∀ k, u.ownBlock = some k → ¬ k = P := fun ho hne k hk e' => own_not ho h.p hne (by rw [hk, e'])
    have hk : Kp (fun q => q = P) w (w.setCell ⟨P, 0, none⟩ (.slice ao 0 co)) := (Kp.refl _ _).setCell _ _ (fun _ => rfl)
    exact ⟨blk_set 0 _ h.p, hk.owns (own_zero h.o) (fun k hk' => nP h.o (by decide) k (by cases ao with | none => cases hk' | some a => exact hk')), hk.owns h.i (nP h.i (by decide)), hk.owns h.x (nP h.x (by decide)), fun k hk' => h.oi k (by cases ao with | none => cases hk' | some a => exact hk'), h.pb⟩
  have HK1 : Hid (Kp (fun q => q = P) w (w.setCell ⟨P, 0, none⟩ (.slice ao 0 co))) := (Kp.refl _ _).setCell _ _ (fun _ => rfl)
  have HC1 : Hid ((w.setCell ⟨P, 0, none⟩ (.slice ao 0 co)).cell? ⟨c, 0, none⟩ = some v) := HK1.out.cell HC.out HCP.out
  have HV1 : Hid (BSl (w.setCell ⟨P, 0, none⟩ (.slice ao 0 co)) v ys) := HVP.out _ HK1.out
  clear q0 q1 f0 ci0 hc
  generalize w.setCell ⟨P, 0, none⟩ (.slice ao 0 co) = w1 at *
  have q1 : w1.cell? ⟨P, 1, none⟩ = some (.slice (some ⟨gi, 0, none⟩) 1 ci) := blk_cell HP1.out.p rfl
  have ci0 : w1.cell? ⟨gi, 0, none⟩ = some (.slice ax xs.length cx) := (own_cell HP1.out.i (j := 0) rfl).1
  have hc1 : w1.cell? ⟨c, 0, none⟩ = some v := HC1.out
  refine wp_region_still_tail 12 (by kernel_rfl) (by kernel_rfl) ?_
  simp only [List.take_succ_cons, List.take_zero, List.drop_succ_cons, List.drop_zero]
  repeat (
    refine wpStill_step (fun K hK => ?_)
    go_simp
    (refine hK _ ?_; clear hK K))
  refine wpStill_nil ?_
  have HP2 : Hid (Pls w1.drew B P (.slice ao 0 co) (.slice (some ⟨gi, 0, none⟩) 1 ci) (.slice ax xs.length cx) 0 [] xs) := by
    have h := HP1.out
    have hb : Below w1.heap.size w1 w1.drew := (Below.refl _ _).drew
    exact ⟨h.p, own_below h.o hb (rfl : 0 = 0), own_below h.i hb (rfl : 0 = 0), own_below h.x hb (rfl : 0 = 0), h.oi, h.pb⟩
  have HV2 : Hid (BSl w1.drew v ys) := HV1.out.move (fun _ _ h => h)
  have HS1 : Hid (B ≤ w1.drew.heap.size) := by have := HK1.out.size; have := HB.out; show B ≤ w1.heap.size; omega
  have HX2 := hide (own_zero HP2.out.x)
  go_wp2_with (at_builtin; refine append_bsl_at rfl _ _ rfl B _ 0 [] rfl HX2.out _ ys rfl HV2.out ?b1 ?b2 ?_)
  case b1 => have := HL.out; omega
  case b2 => exact HS1.out
  intro v2 w2 ho2 hg2 hn2
  have HN2 := hide hn2
  clear hn2
  have HK2 : Hid (Kp (fun q => (Value.slice ax 0 cx).ownBlock = some q) w1.drew w2) := (Kp.refl _ _).grown hg2 (fun k _ h => h)
  have HXP : Hid (∀ {u : Value} {n : Nat} {l : List Value}, w1.drew.ownsRow B 56 1 u n l → ∀ k, u.ownBlock = some k → ¬ (Value.slice ax 0 cx).ownBlock = some k) := fun ho k hk e => own_apart ho HX2.out (by decide) hk e
  have HO3 := hide (HK2.out.owns HP2.out.o (HXP.out HP2.out.o))
  have HI3 := hide (HK2.out.owns HP2.out.i (HXP.out HP2.out.i))
  have HPP3 := hide ((HK2.out.block P (blk_lt HP2.out.p) (fun e => own_not HX2.out HP2.out.p (by decide) e)).trans HP2.out.p)
  have HX3 := hide ho2
  have HOI := hide HP2.out.oi
  have HPB := hide HP2.out.pb
  have HS2 : Hid (B ≤ w2.heap.size) := Nat.le_trans HS1.out HK2.out.size
  obtain ⟨a2, c2, hv2, _, _, _⟩ := own_form ho2
  subst hv2
  have q1 : w2.cell? ⟨P, 1, none⟩ = some (.slice (some ⟨gi, 0, none⟩) 1 ci) := blk_cell HPP3.out rfl
  have ci0 : w2.cell? ⟨gi, 0, none⟩ = some (.slice ax xs.length cx) := (own_cell HI3.out (j := 0) rfl).1
  have fi0 : w2.frozen? ⟨gi, 0, none⟩ = false := (own_cell HI3.out (j := 0) rfl).2
  have HG2 : Hid (gi < w2.heap.size) := (HI3.out.lt gi rfl).2
  have HNP : Hid (gi ≠ P) := fun e => own_not HI3.out HPP3.out (by decide) (by rw [e]; rfl)
  have HK3 : Hid (Kp (fun q => q = gi) w2 (w2.setCell ⟨gi, 0, none⟩ (.slice a2 ys.length c2))) := (Kp.refl _ _).setCell _ _ (fun _ => rfl)
  have HI4 : Hid ((w2.setCell ⟨gi, 0, none⟩ (.slice a2 ys.length c2)).ownsRow B 56 1 (.slice (some ⟨gi, 0, none⟩) 1 ci) 1 [.slice a2 ys.length c2]) := own_set (j := 0) _ HI3.out
  have HO4 := hide (HK3.out.owns HO3.out (fun k hk e => HOI.out k hk (by rw [e]; rfl)))
  have HX4 := hide (HK3.out.owns HX3.out (fun k hk e => own_apart HX3.out HI3.out (by decide) hk (by rw [e]; rfl)))
  have HPP4 := hide ((HK3.out.block P (blk_lt HPP3.out) (fun e => HNP.out e.symm)).trans HPP3.out)
  have HS3 : Hid (B ≤ (w2.setCell ⟨gi, 0, none⟩ (.slice a2 ys.length c2)).heap.size) := Nat.le_trans HS2.out HK3.out.size
  clear ho2 hg2 HX2 HXP HP1 HP2 HC1 HV1 HV2
  have hne1 : ¬ gi = P := HNP.out
  have hne2 : ¬ P = gi := fun e => HNP.out e.symm
  have q0 : w2.cell? ⟨P, 0, none⟩ = some (.slice ao 0 co) := blk_cell HPP3.out rfl
  go_wp2_with (at_builtin; refine append_row rfl _ _ rfl B _ 0 [] rfl HO4.out (.slice a2 ys.length c2) w2.heap.size (by simp) rfl rfl (by omega) HS3.out ?_)
  intro ov' w4 ho4 hg4 hnew
  generalize hw3 : w2.setCell ⟨gi, 0, none⟩ (.slice a2 ys.length c2) = w3 at *
  clear hw3
  have HK4 : Hid (Kp (fun q => (Value.slice ao 0 co).ownBlock = some q) w3 w4) := ((Kp.refl _ _).alloc _).trans ((Kp.refl (fun q => (Value.slice ao 0 co).ownBlock = some q) _).grown hg4 (fun k _ h => h)) (fun _ _ h => h)
  have HI5 := hide (HK4.out.owns HI4.out (fun k hk e => HOI.out k e hk))
  have HX5 := hide (HK4.out.owns HX4.out (fun k hk e => own_apart HX4.out HO4.out (by decide) hk e))
  have HPP5 := hide ((HK4.out.block P (blk_lt HPP4.out) (fun e => own_not HO4.out HPP4.out (by decide) e)).trans HPP4.out)
  have HO5 := hide ho4
  have HNW := hide hnew
  have HGL : Hid (gi < w2.heap.size) := HG2.out
  obtain ⟨go, c4, hv4, _, _⟩ := own_one_form ho4
  subst hv4
  clear ho4 hg4 hnew
  have q5 : w4.cell? ⟨P, 0, none⟩ = some (.slice ao 0 co) := blk_cell HPP5.out rfl
  have f5 := blk_frozen 0 HPP5.out
  have HK5 : Hid (Kp (fun q => q = P) w4 (w4.setCell ⟨P, 0, none⟩ (.slice (some ⟨go, 0, none⟩) 1 c4))) := (Kp.refl _ _).setCell _ _ (fun _ => rfl)
  go_wp2_with fail
  rw [rounds_succ]
  go_wp2_with fail
  go_ret
  refine ⟨.slice (some ⟨go, 0, none⟩) 1 c4, .slice (some ⟨gi, 0, none⟩) 1 ci, .slice a2 ys.length c2, rfl, ⟨blk_set 0 _ HPP5.out, HK5.out.owns HO5.out (fun k hk e => own_not HO5.out HPP5.out (by decide) (by rw [hk, e])), HK5.out.owns HI5.out (fun k hk e => own_not HI5.out HPP5.out (by decide) (by rw [hk, e])), HK5.out.owns HX5.out (fun k hk e => own_not HX5.out HPP5.out (by decide) (by rw [hk, e])), ?_, HPB.out⟩, ?_, ?_⟩
  · intro k hk e
    have h1 : go = k := by simpa [Value.ownBlock] using hk
    have h2 : gi = k := by simpa [Value.ownBlock] using e
    rcases HNW.out with h | h
    · exact HOI.out k (by rw [← h]; exact hk) e
    · have h3 : go = w2.heap.size + 1 := by simpa [Value.ownBlock] using h
      have := HGL.out
      omega
  · have e1 := own_blk ax 0 xs.length cx cx
    have e2 := own_blk ao 0 no co co
    have k12 : Kp (pbk P (.slice ao no co) (.slice (some ⟨gi, 0, none⟩) 1 ci) (.slice ax xs.length cx)) w w2 := (HK1.out.drew.mono (fun q _ h => .inl h)).trans HK2.out (fun q _ h => .inr (.inr (.inr (by rw [← e1]; exact h))))
    have k13 := k12.trans HK3.out (fun q _ h => .inr (.inr (.inl (by rw [h]; rfl))))
    have k14 := k13.trans HK4.out (fun q _ h => .inr (.inl (by rw [← e2]; exact h)))
    exact k14.trans HK5.out (fun q _ h => .inl h)
  · have e1 := own_blk ax 0 xs.length cx cx
    have e2 := own_blk ao 0 no co co
    have s1 : w.heap.size ≤ w1.heap.size := HK1.out.size
    have s2 : w1.drew.heap.size ≤ w2.heap.size := HK2.out.size
    have s3 : w1.drew.heap.size = w1.heap.size := rfl
    intro q hq
    rcases hq with e | e | e | e
    · exact .inl (.inl e)
    · rcases HNW.out with h | h
      · exact .inl (.inr (.inl (by rw [← e2, ← h]; exact e)))
      · rw [h] at e
        injection e with e
        exact .inr (by omega)
    · exact .inl (.inr (.inr (.inl e)))
    · rcases HN2.out with h | h
      · exact .inl (.inr (.inr (.inr (by rw [← e1, ← h]; exact e))))
      · rw [h] at e
        injection e with e
        exact .inr (by omega)

set_option maxRecDepth 1000000 in
set_option maxHeartbeats 2000000 in
theorem rows_fresh (w : World) (B P c : Nat) (v : Value) (ys : List Nat) (hp : w.heap[P]? = some (.cells #[.slice none 0 0, .slice none 0 0] 55 (0, 0))) (hPB : B ≤ P) (hc : w.cell? ⟨c, 0, none⟩ = some v) (hv : BSl w v ys) (hB : B ≤ w.heap.size) (hl : ys.length ≤ 140737488351232)
    (hcp : c ≠ P) (hvp : ∀ w', Kp (fun q => q = P) w w' → BSl w' v ys) :
    Calls Tryz.prog 33 #[.pointer (some ⟨P, 0, none⟩), .slice (some ⟨c, 0, none⟩) 1 1] w fun e w' => ∃ ov' iv' vx', e = .returned ov' ∧ Pls w' B P ov' iv' vx' 1 [vx'] ys ∧ Kp (fun q => q = P) w w' ∧ ∀ q, pbk P ov' iv' vx' q → q = P ∨ w.heap.size ≤ q := by
  have HPf := hide hp
  have HC := hide hc
  have HV := hide hv
  have HB := hide hB
  have HL := hide hl
  have HCP := hide hcp
  have HVP := hide hvp
  have HPBx := hide hPB
  have q0 : w.cell? ⟨P, 0, none⟩ = some (.slice none 0 0) := blk_cell hp rfl
  have q1 : w.cell? ⟨P, 1, none⟩ = some (.slice none 0 0) := blk_cell hp rfl
  have f0 := blk_frozen 0 hp
  have f1 := blk_frozen 1 hp
  clear hp hv hB hl hcp hvp hPB
  have HKa : Hid (Kp (fun q => q = P) w (w.setCell ⟨P, 0, none⟩ (.slice none 0 0))) := (Kp.refl _ _).setCell _ _ (fun _ => rfl)
  have HPa : Hid ((w.setCell ⟨P, 0, none⟩ (.slice none 0 0)).heap[P]? = some (.cells #[.slice none 0 0, .slice none 0 0] 55 (0, 0))) := blk_set 0 _ HPf.out
  have HSa : Hid (B ≤ (w.setCell ⟨P, 0, none⟩ (.slice none 0 0)).heap.size) := Nat.le_trans HB.out HKa.out.size
  go_enter Tryz.func33, Tryz.ntmps33
  go_wp2_with fail
  refine wp_loop_rounds 2 ?_
  rw [rounds_succ]
  go_wp2_with (at_builtin; refine append_row rfl _ _ rfl B _ 0 [] rfl (World.ownsRow_nil _ _ _ _) (.slice none 0 0) w.heap.size (by simp) rfl rfl (by omega) HSa.out ?_)
  intro iv' wb hob hgb hnb
  generalize hwa : w.setCell ⟨P, 0, none⟩ (.slice none 0 0) = wa at *
  have hsz : wa.heap.size = w.heap.size := by rw [← hwa]; simp
  have HZS := hide hsz
  clear hwa hsz
  have HKb : Hid (Kp (fun _ => False) wa wb) := ((Kp.refl _ _).alloc _).trans ((Kp.refl (fun _ => False) _).grown hgb (fun k _ h => by cases h)) (fun _ _ h => h)
  have HPb := hide ((HKb.out.block P (blk_lt HPa.out) (fun h => h)).trans HPa.out)
  have HIb := hide hob
  have HNB := hide hnb
  obtain ⟨gi, ci, hvb, _, _⟩ := own_one_form hob
  subst hvb
  clear hob hgb hnb q0 q1 f0 f1
  have HG0 : Hid (w.heap.size ≤ gi) := by
    rcases HNB.out with h | h
    · cases h
    · have h3 : gi = w.heap.size + 1 := by simpa [Value.ownBlock] using h
      show _ ≤ _
      omega
  have q1 : wb.cell? ⟨P, 1, none⟩ = some (.slice none 0 0) := blk_cell HPb.out rfl
  have f1 := blk_frozen 1 HPb.out
  have HKc : Hid (Kp (fun q => q = P) wb (wb.setCell ⟨P, 1, none⟩ (.slice (some ⟨gi, 0, none⟩) 1 ci))) := (Kp.refl _ _).setCell _ _ (fun _ => rfl)
  have HP1 : Hid (Pls (wb.setCell ⟨P, 1, none⟩ (.slice (some ⟨gi, 0, none⟩) 1 ci)) B P (.slice none 0 0) (.slice (some ⟨gi, 0, none⟩) 1 ci) (.slice none 0 0) 0 [] []) :=
    ⟨blk_set 1 _ HPb.out, World.ownsRow_nil _ _ _ _, HKc.out.owns HIb.out (fun k hk e => own_not HIb.out HPb.out (by decide) (by rw [hk, e])), World.ownsRow_nil _ _ _ _, (fun k hk => by cases hk), HPBx.out⟩
  have HK1 : Hid (Kp (fun q => q = P) w (wb.setCell ⟨P, 1, none⟩ (.slice (some ⟨gi, 0, none⟩) 1 ci))) := (HKa.out.trans (HKb.out.mono (fun _ _ h => h.elim)) (fun _ _ h => h)).trans HKc.out (fun _ _ h => h)
  have HC1 : Hid ((wb.setCell ⟨P, 1, none⟩ (.slice (some ⟨gi, 0, none⟩) 1 ci)).cell? ⟨c, 0, none⟩ = some v) := HK1.out.cell HC.out HCP.out
  have HV1 : Hid (BSl (wb.setCell ⟨P, 1, none⟩ (.slice (some ⟨gi, 0, none⟩) 1 ci)) v ys) := HVP.out _ HK1.out
  go_wp2_with fail
  clear q1 f1
  generalize wb.setCell ⟨P, 1, none⟩ (.slice (some ⟨gi, 0, none⟩) 1 ci) = w1 at *
  have q1 : w1.cell? ⟨P, 1, none⟩ = some (.slice (some ⟨gi, 0, none⟩) 1 ci) := blk_cell HP1.out.p rfl
  have ci0 : w1.cell? ⟨gi, 0, none⟩ = some (.slice none 0 0) := (own_cell HP1.out.i (j := 0) rfl).1
  have hc1 : w1.cell? ⟨c, 0, none⟩ = some v := HC1.out
  refine wp_region_still_tail 12 (by kernel_rfl) (by kernel_rfl) ?_
  simp only [List.take_succ_cons, List.take_zero, List.drop_succ_cons, List.drop_zero]
  repeat (
    refine wpStill_step (fun K hK => ?_)
    go_simp
    (refine hK _ ?_; clear hK K))
  refine wpStill_nil ?_
  have HP2 : Hid (Pls w1.drew B P (.slice none 0 0) (.slice (some ⟨gi, 0, none⟩) 1 ci) (.slice none 0 0) 0 [] []) := by
    have h := HP1.out
    have hb : Below w1.heap.size w1 w1.drew := (Below.refl _ _).drew
    exact ⟨h.p, own_below h.o hb (rfl : 0 = 0), own_below h.i hb (rfl : 0 = 0), own_below h.x hb (rfl : 0 = 0), h.oi, h.pb⟩
  have HV2 : Hid (BSl w1.drew v ys) := HV1.out.move (fun _ _ h => h)
  have HS1 : Hid (B ≤ w1.drew.heap.size) := by have := HK1.out.size; have := HB.out; show B ≤ w1.heap.size; omega
  have HX2 := hide (own_zero HP2.out.x)
  go_wp2_with (at_builtin; refine append_bsl_at rfl _ _ rfl B _ 0 [] rfl HX2.out _ ys rfl HV2.out ?b1 ?b2 ?_)
  case b1 => have := HL.out; omega
  case b2 => exact HS1.out
  intro v2 w2 ho2 hg2 hn2
  have HN2 := hide hn2
  clear hn2
  have HK2 : Hid (Kp (fun q => (Value.slice none 0 0).ownBlock = some q) w1.drew w2) := (Kp.refl _ _).grown hg2 (fun k _ h => h)
  have HXP : Hid (∀ {u : Value} {n : Nat} {l : List Value}, w1.drew.ownsRow B 56 1 u n l → ∀ k, u.ownBlock = some k → ¬ (Value.slice none 0 0).ownBlock = some k) := fun ho k hk e => own_apart ho HX2.out (by decide) hk e
  have HO3 := hide (HK2.out.owns HP2.out.o (HXP.out HP2.out.o))
  have HI3 := hide (HK2.out.owns HP2.out.i (HXP.out HP2.out.i))
  have HPP3 := hide ((HK2.out.block P (blk_lt HP2.out.p) (fun e => own_not HX2.out HP2.out.p (by decide) e)).trans HP2.out.p)
  have HX3 := hide ho2
  have HOI := hide HP2.out.oi
  have HPB := hide HP2.out.pb
  have HS2 : Hid (B ≤ w2.heap.size) := Nat.le_trans HS1.out HK2.out.size
  obtain ⟨a2, c2, hv2, _, _, _⟩ := own_form ho2
  subst hv2
  have q1 : w2.cell? ⟨P, 1, none⟩ = some (.slice (some ⟨gi, 0, none⟩) 1 ci) := blk_cell HPP3.out rfl
  have ci0 : w2.cell? ⟨gi, 0, none⟩ = some (.slice none 0 0) := (own_cell HI3.out (j := 0) rfl).1
  have fi0 : w2.frozen? ⟨gi, 0, none⟩ = false := (own_cell HI3.out (j := 0) rfl).2
  have HG2 : Hid (gi < w2.heap.size) := (HI3.out.lt gi rfl).2
  have HNP : Hid (gi ≠ P) := fun e => own_not HI3.out HPP3.out (by decide) (by rw [e]; rfl)
  have HK3 : Hid (Kp (fun q => q = gi) w2 (w2.setCell ⟨gi, 0, none⟩ (.slice a2 ys.length c2))) := (Kp.refl _ _).setCell _ _ (fun _ => rfl)
  have HI4 : Hid ((w2.setCell ⟨gi, 0, none⟩ (.slice a2 ys.length c2)).ownsRow B 56 1 (.slice (some ⟨gi, 0, none⟩) 1 ci) 1 [.slice a2 ys.length c2]) := own_set (j := 0) _ HI3.out
  have HO4 := hide (HK3.out.owns HO3.out (fun k hk e => HOI.out k hk (by rw [e]; rfl)))
  have HX4 := hide (HK3.out.owns HX3.out (fun k hk e => own_apart HX3.out HI3.out (by decide) hk (by rw [e]; rfl)))
  have HPP4 := hide ((HK3.out.block P (blk_lt HPP3.out) (fun e => HNP.out e.symm)).trans HPP3.out)
  have HS3 : Hid (B ≤ (w2.setCell ⟨gi, 0, none⟩ (.slice a2 ys.length c2)).heap.size) := Nat.le_trans HS2.out HK3.out.size
  clear ho2 hg2 HX2 HXP HP1 HP2 HC1 HV1 HV2
  have hne1 : ¬ gi = P := HNP.out
  have hne2 : ¬ P = gi := fun e => HNP.out e.symm
  have q0 : w2.cell? ⟨P, 0, none⟩ = some (.slice none 0 0) := blk_cell HPP3.out rfl
  go_wp2_with (at_builtin; refine append_row rfl _ _ rfl B _ 0 [] rfl HO4.out (.slice a2 ys.length c2) w2.heap.size (by simp) rfl rfl (by omega) HS3.out ?_)
  intro ov' w4 ho4 hg4 hnew
  generalize hw3 : w2.setCell ⟨gi, 0, none⟩ (.slice a2 ys.length c2) = w3 at *
  clear hw3
  have HK4 : Hid (Kp (fun q => (Value.slice none 0 0).ownBlock = some q) w3 w4) := ((Kp.refl _ _).alloc _).trans ((Kp.refl (fun q => (Value.slice none 0 0).ownBlock = some q) _).grown hg4 (fun k _ h => h)) (fun _ _ h => h)
  have HI5 := hide (HK4.out.owns HI4.out (fun k hk e => HOI.out k e hk))
  have HX5 := hide (HK4.out.owns HX4.out (fun k hk e => own_apart HX4.out HO4.out (by decide) hk e))
  have HPP5 := hide ((HK4.out.block P (blk_lt HPP4.out) (fun e => own_not HO4.out HPP4.out (by decide) e)).trans HPP4.out)
  have HO5 := hide ho4
  have HNW := hide hnew
  have HGL : Hid (gi < w2.heap.size) := HG2.out
  obtain ⟨go, c4, hv4, _, _⟩ := own_one_form ho4
  subst hv4
  clear ho4 hg4 hnew
  have q5 : w4.cell? ⟨P, 0, none⟩ = some (.slice none 0 0) := blk_cell HPP5.out rfl
  have f5 := blk_frozen 0 HPP5.out
  have HK5 : Hid (Kp (fun q => q = P) w4 (w4.setCell ⟨P, 0, none⟩ (.slice (some ⟨go, 0, none⟩) 1 c4))) := (Kp.refl _ _).setCell _ _ (fun _ => rfl)
  go_wp2_with fail
  rw [rounds_succ]
  go_wp2_with fail
  go_ret
  refine ⟨.slice (some ⟨go, 0, none⟩) 1 c4, .slice (some ⟨gi, 0, none⟩) 1 ci, .slice a2 ys.length c2, rfl, ⟨blk_set 0 _ HPP5.out, HK5.out.owns HO5.out (fun k hk e => own_not HO5.out HPP5.out (by decide) (by rw [hk, e])), HK5.out.owns HI5.out (fun k hk e => own_not HI5.out HPP5.out (by decide) (by rw [hk, e])), HK5.out.owns HX5.out (fun k hk e => own_not HX5.out HPP5.out (by decide) (by rw [hk, e])), ?_, HPB.out⟩, ?_, ?_⟩
  · intro k hk e
    have h1 : go = k := by simpa [Value.ownBlock] using hk
    have h2 : gi = k := by simpa [Value.ownBlock] using e
    rcases HNW.out with h | h
    · exact HOI.out k (by rw [← h]; exact hk) e
    · have h3 : go = w2.heap.size + 1 := by simpa [Value.ownBlock] using h
      have := HGL.out
      omega
  · have k12 : Kp (fun q => q = P) w w2 := HK1.out.drew.trans HK2.out (fun q _ h => by cases h)
    have k13 := k12.trans HK3.out (fun q hq h => by have := HG0.out; omega)
    have k14 := k13.trans HK4.out (fun q _ h => by cases h)
    exact k14.trans HK5.out (fun q _ h => h)
  · have s1 : w.heap.size ≤ w1.heap.size := HK1.out.size
    have s2 : w1.drew.heap.size ≤ w2.heap.size := HK2.out.size
    have s3 : w1.drew.heap.size = w1.heap.size := rfl
    have s4 := HG0.out
    intro q hq
    rcases hq with e | e | e | e
    · exact .inl e
    · rcases HNW.out with h | h
      · rw [h] at e
        cases e
      · rw [h] at e
        injection e with e
        exact .inr (by omega)
    · have h3 : gi = q := by simpa [Value.ownBlock] using e
      exact .inr (by omega)
    · rcases HN2.out with h | h
      · rw [h] at e
        cases e
      · rw [h] at e
        injection e with e
        exact .inr (by omega)
end
section
open Go.RowKit Go
/-- A place, its blocks from B on and below M: fresh, or with the last row in it. -/
def Pla (w : World) (B M P : Nat) : Prop := B ≤ P ∧ P < M ∧ ((w.heap[P]? = some (.cells #[.slice none 0 0, .slice none 0 0] 55 (0, 0))) ∨ ∃ ov iv vx xs, Pls w B P ov iv vx 1 [vx] xs ∧ ∀ q, pbk P ov iv vx q → q < M)
/-- A place's answer: the row. -/
structure Plr (w : World) (B P : Nat) (v : Value) (xs : List Nat) : Prop where
  h : ∃ ov iv, Pls w B P ov iv v 1 [v] xs
theorem Plr.own {w : World} {B P : Nat} {v : Value} {xs : List Nat} (h : Plr w B P v xs) : w.ownsRow B 5 1 v xs.length (bv xs) := by
  obtain ⟨ov, iv, h⟩ := h.h
  exact h.x
theorem pbk_lt {w : World} {B P no : Nat} {ov iv vx : Value} {os : List Value} {xs : List Nat} (h : Pls w B P ov iv vx no os xs) : ∀ q, pbk P ov iv vx q → q < w.heap.size := fun q hq => by
  rcases hq with e | e | e | e
  · rw [e]; exact blk_lt h.p
  · exact (h.o.lt q e).2
  · exact (h.i.lt q e).2
  · exact (h.x.lt q e).2
theorem Plr.pla {w : World} {B P : Nat} {v : Value} {xs : List Nat} (h : Plr w B P v xs) : Pla w B w.heap.size P := by
  obtain ⟨ov, iv, h⟩ := h.h
  exact ⟨h.pb, blk_lt h.p, .inr ⟨ov, iv, v, xs, h, pbk_lt h⟩⟩
theorem Pls.below {w w' : World} {B P no : Nat} {ov iv vx : Value} {os : List Value} {xs : List Nat} (h : Pls w B P ov iv vx no os xs) (hb : Below w.heap.size w w') : Pls w' B P ov iv vx no os xs :=
  ⟨(hb.block P (blk_lt h.p)).trans h.p, own_below h.o hb (rfl : 0 = 0), own_below h.i hb (rfl : 0 = 0), own_below h.x hb (rfl : 0 = 0), h.oi, h.pb⟩
theorem Plr.below {w w' : World} {B P : Nat} {v : Value} {xs : List Nat} (h : Plr w B P v xs) (hb : Below w.heap.size w w') : Plr w' B P v xs := by
  obtain ⟨ov, iv, h⟩ := h.h
  exact ⟨ov, iv, h.below hb⟩
theorem Pla.below {w w' : World} {B M P : Nat} (h : Pla w B M P) (hb : Below w.heap.size w w') : Pla w' B M P := by
  obtain ⟨h0, h1, h | ⟨ov, iv, vx, xs, h, h2⟩⟩ := h
  · exact ⟨h0, h1, .inl ((hb.block P (blk_lt h)).trans h)⟩
  · exact ⟨h0, h1, .inr ⟨ov, iv, vx, xs, h.below hb, h2⟩⟩
theorem Pla.mono {w : World} {B M M' P : Nat} (h : Pla w B M P) (hM : M ≤ M') : Pla w B M' P := by
  obtain ⟨h0, h1, h | ⟨ov, iv, vx, xs, h, h2⟩⟩ := h
  · exact ⟨h0, by omega, .inl h⟩
  · exact ⟨h0, by omega, .inr ⟨ov, iv, vx, xs, h, fun q hq => by have := h2 q hq; omega⟩⟩
theorem Pla.lt {w : World} {B M P : Nat} (h : Pla w B M P) : P < w.heap.size := by
  obtain ⟨h0, _, h | ⟨ov, iv, vx, xs, h, _⟩⟩ := h
  · exact blk_lt h
  · exact blk_lt h.p
/-- Blocks that are not the place's change. -/
theorem Pla.kp {w w' : World} {B M P : Nat} {S : Nat → Prop} (h : Pla w B M P) (hk : Kp S w w') (hs : ∀ q, B ≤ q → q < M → ¬ S q) : Pla w' B M P := by
  obtain ⟨h0, h1, h | ⟨ov, iv, vx, xs, h, h2⟩⟩ := h
  · exact ⟨h0, h1, .inl ((hk.block P (blk_lt h) (hs P h0 h1)).trans h)⟩
  · exact ⟨h0, h1, .inr ⟨ov, iv, vx, xs, ⟨(hk.block P (blk_lt h.p) (hs P h0 h1)).trans h.p, hk.owns h.o (fun k e => hs k (h.o.lt k e).1 (h2 k (.inr (.inl e)))), hk.owns h.i (fun k e => hs k (h.i.lt k e).1 (h2 k (.inr (.inr (.inl e))))), hk.owns h.x (fun k e => hs k (h.x.lt k e).1 (h2 k (.inr (.inr (.inr e))))), h.oi, h.pb⟩, h2⟩⟩
/-- The row is written over in its place. -/
theorem Plr.over {w w' : World} {B P : Nat} {v : Value} {xs ys : List Nat} (h : Plr w B P v xs) (hk : Kp (fun q => v.ownBlock = some q) w w') (ho : w'.ownsRow B 5 1 v ys.length (bv ys)) : Plr w' B P v ys := by
  obtain ⟨ov, iv, h⟩ := h.h
  exact ⟨ov, iv, ⟨(hk.block P (blk_lt h.p) (fun e => own_not h.x h.p (by decide) e)).trans h.p, hk.owns h.o (fun k hk' e => own_apart h.o h.x (by decide) hk' e), hk.owns h.i (fun k hk' e => own_apart h.i h.x (by decide) hk' e), ho, h.oi, h.pb⟩⟩

theorem pbk_lo {w : World} {B P no : Nat} {ov iv vx : Value} {os : List Value} {xs : List Nat} (h : Pls w B P ov iv vx no os xs) : ∀ q, pbk P ov iv vx q → B ≤ q := fun q hq => by
  rcases hq with e | e | e | e
  · rw [e]; exact h.pb
  · exact (h.o.lt q e).1
  · exact (h.i.lt q e).1
  · exact (h.x.lt q e).1
theorem cell_alloc1 (w : World) (v : Value) (t : TypeId) : (w.alloc (.cells #[v] t)).cell? ⟨w.heap.size, 0, none⟩ = some v := blk_cell (by show (w.heap.push _)[w.heap.size]? = _; rw [Array.getElem?_push_size]) rfl
/-- Place.Rows of one row, whatever the place holds. -/
theorem rows_pla (w : World) (B M P c : Nat) (v : Value) (ys : List Nat) (h : Pla w B M P) (hc : w.cell? ⟨c, 0, none⟩ = some v) (hB : B ≤ w.heap.size) (hl : ys.length ≤ 140737488351232) (hcp : c ≠ P) (hv : ∀ w', Below B w w' → BSl w' v ys) :
    Calls Tryz.prog 33 #[.pointer (some ⟨P, 0, none⟩), .slice (some ⟨c, 0, none⟩) 1 1] w fun e w' => ∃ ov' vx', e = .returned ov' ∧ w'.ownsRow B 56 1 ov' 1 [vx'] ∧ Plr w' B P vx' ys ∧ Below B w w' ∧ Kp (fun q => B ≤ q ∧ q < M) w w' ∧ ∀ q, vx'.ownBlock = some q → q < M ∨ w.heap.size ≤ q := by
  obtain ⟨h0, h1, h | ⟨ov, iv, vx, xs, h, h2⟩⟩ := h
  · refine (rows_fresh w B P c v ys h h0 hc (hv w (Below.refl _ _)) hB hl hcp (fun w' hk => hv w' (hk.below hB (fun k e => by omega)))).mono ?_
    rintro e w' ⟨ov', iv', vx', he, hp, hk, hq⟩
    exact ⟨ov', vx', he, hp.o, ⟨ov', iv', hp⟩, hk.below hB (fun k e => by omega), hk.mono (fun q _ e => by omega), fun q e => by have := hq q (.inr (.inr (.inr e))); omega⟩
  · refine (rows_used w B P c v ov iv vx 1 [vx] xs ys h hc (hv w (Below.refl _ _)) hB hl hcp (fun w' hk => hv w' (hk.below hB (fun k e => by have := h.pb; omega)))).mono ?_
    rintro e w' ⟨ov', iv', vx', he, hp, hk, hq⟩
    exact ⟨ov', vx', he, hp.o, ⟨ov', iv', hp⟩, hk.below hB (pbk_lo h), hk.mono (fun q _ e => ⟨pbk_lo h q e, h2 q e⟩), fun q e => (hq q (.inr (.inr (.inr e)))).imp (h2 q) id⟩

set_option maxRecDepth 1000000 in
set_option maxHeartbeats 1000000 in
/-- Place.Bytes. -/
theorem pbytes_any (w : World) (B M P : Nat) (v : Value) (ys : List Nat) (h : Pla w B M P) (hB : B ≤ w.heap.size) (hl : ys.length ≤ 140737488351232) (hv : ∀ w', Below B w w' → BSl w' v ys) :
    Calls Tryz.prog 13 #[.pointer (some ⟨P, 0, none⟩), v] w fun e w' => ∃ vx', e = .returned vx' ∧ Plr w' B P vx' ys ∧ Below B w w' ∧ Kp (fun q => B ≤ q ∧ q < M) w w' ∧ ∀ q, vx'.ownBlock = some q → q < M ∨ w.heap.size ≤ q := by
  have HP := hide h
  have HB := hide hB
  have HL := hide hl
  have HV := hide hv
  clear h hB hl hv
  obtain ⟨⟨av, cv, rfl, _, _⟩, _, _⟩ := HV.out w (Below.refl _ _)
  go_enter Tryz.func13, Tryz.ntmps13
  go_wp2_with fail
  generalize hw1 : w.alloc _ = w1
  have HBa : Hid (Below w.heap.size w w1) := by rw [← hw1]; exact (Below.refl _ _).alloc (Nat.le_refl _) _
  have HC : Hid (w1.cell? ⟨w.heap.size, 0, none⟩ = some (.slice av ys.length cv)) := by rw [← hw1]; exact cell_alloc1 _ _ _
  have HPx := hide (HP.out.below HBa.out)
  have HBx : Hid (B ≤ w1.heap.size) := Nat.le_trans HB.out HBa.out.size
  refine (rows_pla w1 B M P w.heap.size _ ys HPx.out HC.out HBx.out HL.out (fun e => by have := HP.out.lt; omega) (fun w' hb => HV.out w' ((HBa.out.mono HB.out).trans hb))).mono ?_
  rintro e w2 ⟨ov, vx, rfl, ho, hp, hb, hkm, hvq⟩
  have HPR := hide hp
  have HB2 : Hid (Below B w w2) := (HBa.out.mono HB.out).trans hb
  obtain ⟨go, co, rfl, c0, _⟩ := own_one_form ho
  have HKM : Hid (Kp (fun q => B ≤ q ∧ q < M) w w2) := (Kp.of_below HBa.out).trans hkm (fun _ _ h => h)
  have HVQ : Hid (∀ q, vx.ownBlock = some q → q < M ∨ w.heap.size ≤ q) := fun q e => by have := hvq q e; have := HBa.out.size; omega
  clear ho hp hb hkm hvq
  go_wp2_with fail
  go_ret
  exact ⟨vx, rfl, HPR.out, HB2.out, HKM.out, HVQ.out⟩

theorem into_setR (xs ys : List Nat) (k : Nat) (hx : k < xs.length) (hy : k < ys.length) : (bv (ys.take k ++ xs.drop k)).set k (.int .u8 ((ys.getD k 0 : Nat) : Int)) = bv (ys.take (k + 1) ++ xs.drop (k + 1)) := by
  have e1 : ys.take k ++ xs.drop k = ys.take k ++ (xs[k] :: xs.drop (k + 1)) := by rw [List.drop_eq_getElem_cons hx]
  have e2 : ys.take (k + 1) ++ xs.drop (k + 1) = ys.take k ++ (ys[k] :: xs.drop (k + 1)) := by rw [List.take_succ_eq_append_getElem hy]; simp only [List.append_assoc, List.cons_append, List.nil_append]
  have hl2 : (bv (ys.take k)).length = k := by rw [bv_len, List.length_take]; omega
  have hb : ∀ (z : Nat) (l : List Nat), bv (z :: l) = Value.int .u8 ((z : Nat) : Int) :: bv l := fun _ _ => rfl
  rw [e1, e2, bv_app, bv_app, List.set_append_right (h := by omega), hl2, Nat.sub_self, hb, hb, List.set_cons_zero]
  simp [List.getD, hy]

set_option maxRecDepth 1000000 in
set_option maxHeartbeats 400000 in
theorem intoR_any {w : World} {B : Nat} {v : Value} {xs ys : List Nat} (h : w.ownsRow B 5 1 v xs.length (bv xs)) (hxl : xs.length ≤ 140737488351232) (vb : Value) (hb : BSl w vb ys) (hlen : ys.length = xs.length) (hne : ∀ k, v.ownBlock = some k → vb.ownBlock ≠ some k) :
    Calls Tryz.prog 14 #[v, vb] w fun e w' => e = .returned (.tuple #[]) ∧ w'.ownsRow B 5 1 v ys.length (bv ys) ∧ Kp (fun k => v.ownBlock = some k) w w' := by
  have HH := hide h
  have HB := hide hb
  have HLE := hide hlen
  have HNE := hide hne
  have hmx : xs.length ≤ 9223372036854775807 := by omega
  obtain ⟨a, cap, rfl, _, _, ha⟩ := own_form h
  have HA := hide ha
  obtain ⟨⟨ab, capb, rfl, hq1, hc⟩, hq2, hq3⟩ := hb
  have HC := hide hc
  clear h hlen hne hq1 hq2 hq3 hc ha hxl
  go_enter Tryz.func14, Tryz.ntmps14
  go_wp2
  go_loopw [4] (fun i wr => ∃ k : Nat, k ≤ xs.length ∧ i = .int .i64 k ∧ wr.ownsRow B 5 1 (.slice a xs.length cap) xs.length (bv (ys.take k ++ xs.drop k)) ∧ Kp (fun q => (Value.slice a xs.length cap).ownBlock = some q) w wr) (fun i _ => xs.length - (intOf i).toNat)
  case atStart => exact ⟨0, Nat.zero_le _, rfl, by simpa using HH.out, Kp.refl _ _⟩
  case round =>
    obtain ⟨k, hk, rfl, hown, hkp⟩ := hrel
    have HO := hide hown
    have HK := hide hkp
    clear hown hkp
    by_cases hlt : k < xs.length
    · have hlt' : (k : Int) < (xs.length : Int) := by omega
      have hlty : k < ys.length := by have := HLE.out; omega
      have hlty' : (k : Int) < (ys.length : Int) := by omega
      obtain ⟨g, rfl, _⟩ := HA.out k _ (bv_get hlt)
      rcases HC.out with h | ⟨b1, o1, rfl, hcc⟩
      · rw [h] at hlty; simp at hlty
      have hbg : ¬ (Value.slice (some ⟨g, 0, none⟩) xs.length cap).ownBlock = some b1 := fun e => HNE.out b1 e rfl
      have cc := HK.out.cell (hcc k hlty) hbg
      have hget : (bv (ys.take k ++ xs.drop k))[k]? = some (.int .u8 ((xs.getD k 0 : Nat) : Int)) := by
        have hl : k < (ys.take k ++ xs.drop k).length := by simp; omega
        rw [bv_get hl]
        congr 3
        have hl2 : (ys.take k).length = k := by rw [List.length_take]; omega
        simp only [List.getD]
        rw [List.getElem?_append_right (by omega), hl2, Nat.sub_self]
        simp
      obtain ⟨cg, fg⟩ := own_cell HO.out hget
      have hset := into_setR xs ys k hlt hlty
      have HSE := hide hset
      clear hset hget hcc
      generalize xs.getD k 0 = old at *
      generalize ys.getD k 0 = new at *
      have hbg' : ¬ g = b1 := fun e => hbg (by rw [e]; rfl)
      clear hbg
      go_wp2
      go_roundw
      case rel => exact ⟨k + 1, by omega, by go_num, by rw [← HSE.out]; exact own_set _ HO.out, HK.out.setCell _ _ (fun _ => rfl)⟩
      case measure => simp [intOf]; omega
    · have hlt' : ¬ (k : Int) < (xs.length : Int) := by omega
      go_wp2
      go_end0
      refine ⟨rfl, ?_, HK.out⟩
      have h := HO.out
      rw [List.take_of_length_le (by have := HLE.out; omega), List.drop_of_length_le (by omega), List.append_nil] at h
      rw [HLE.out]
      exact h
end
section
open Go.RowKit Go
/-- A place whose blocks are all within F: fresh, or with the last row in it. -/
def Plf (w : World) (B P : Nat) (F : Nat → Prop) : Prop := F P ∧ B ≤ P ∧ ((w.heap[P]? = some (.cells #[.slice none 0 0, .slice none 0 0] 55 (0, 0))) ∨ ∃ ov iv vx xs, Pls w B P ov iv vx 1 [vx] xs ∧ ∀ q, pbk P ov iv vx q → F q)
/-- Its answer: the row. -/
def Plq (w : World) (B P : Nat) (F : Nat → Prop) (v : Value) (xs : List Nat) : Prop := ∃ ov iv, Pls w B P ov iv v 1 [v] xs ∧ ∀ q, pbk P ov iv v q → F q
theorem Pls.kp {w w' : World} {B P no : Nat} {ov iv vx : Value} {os : List Value} {xs : List Nat} {S : Nat → Prop} (h : Pls w B P ov iv vx no os xs) (hk : Kp S w w') (hs : ∀ q, pbk P ov iv vx q → ¬ S q) : Pls w' B P ov iv vx no os xs :=
  ⟨(hk.block P (blk_lt h.p) (hs P (.inl rfl))).trans h.p, hk.owns h.o (fun k e => hs k (.inr (.inl e))), hk.owns h.i (fun k e => hs k (.inr (.inr (.inl e)))), hk.owns h.x (fun k e => hs k (.inr (.inr (.inr e)))), h.oi, h.pb⟩
theorem Plf.lt {w : World} {B P : Nat} {F : Nat → Prop} (h : Plf w B P F) : P < w.heap.size := by
  obtain ⟨_, _, h | ⟨ov, iv, vx, xs, h, _⟩⟩ := h
  · exact blk_lt h
  · exact blk_lt h.p
/-- What else is known of its blocks. -/
theorem Plf.foot {w : World} {B P : Nat} {F F' : Nat → Prop} (h : Plf w B P F) (hF : ∀ q, F q → q < w.heap.size → F' q) : Plf w B P F' := by
  have hl := h.lt
  obtain ⟨h0, h1, h | ⟨ov, iv, vx, xs, h, h2⟩⟩ := h
  · exact ⟨hF P h0 hl, h1, .inl h⟩
  · exact ⟨hF P h0 hl, h1, .inr ⟨ov, iv, vx, xs, h, fun q hq => hF q (h2 q hq) (pbk_lt h q hq)⟩⟩
theorem Plf.kp {w w' : World} {B P : Nat} {F S : Nat → Prop} (h : Plf w B P F) (hk : Kp S w w') (hs : ∀ q, F q → ¬ S q) : Plf w' B P F := by
  obtain ⟨h0, h1, h | ⟨ov, iv, vx, xs, h, h2⟩⟩ := h
  · exact ⟨h0, h1, .inl ((hk.block P (blk_lt h) (hs P h0)).trans h)⟩
  · exact ⟨h0, h1, .inr ⟨ov, iv, vx, xs, h.kp hk (fun q hq => hs q (h2 q hq)), h2⟩⟩
theorem Plf.below {w w' : World} {B P : Nat} {F : Nat → Prop} (h : Plf w B P F) (hb : Below w.heap.size w w') : Plf w' B P F := h.kp (Kp.of_below (S := fun _ => False) hb) (fun _ _ h => h)
theorem Plq.own {w : World} {B P : Nat} {F : Nat → Prop} {v : Value} {xs : List Nat} (h : Plq w B P F v xs) : w.ownsRow B 5 1 v xs.length (bv xs) := by
  obtain ⟨ov, iv, h, _⟩ := h
  exact h.x
theorem Plq.blk {w : World} {B P : Nat} {F : Nat → Prop} {v : Value} {xs : List Nat} (h : Plq w B P F v xs) : ∀ q, v.ownBlock = some q → F q := by
  obtain ⟨ov, iv, _, h2⟩ := h
  exact fun q e => h2 q (.inr (.inr (.inr e)))
theorem Plq.plf {w : World} {B P : Nat} {F : Nat → Prop} {v : Value} {xs : List Nat} (h : Plq w B P F v xs) : Plf w B P F := by
  obtain ⟨ov, iv, h, h2⟩ := h
  exact ⟨h2 P (.inl rfl), h.pb, .inr ⟨ov, iv, v, xs, h, h2⟩⟩
theorem Plq.foot {w : World} {B P : Nat} {F F' : Nat → Prop} {v : Value} {xs : List Nat} (h : Plq w B P F v xs) (hF : ∀ q, F q → q < w.heap.size → F' q) : Plq w B P F' v xs := by
  obtain ⟨ov, iv, h, h2⟩ := h
  exact ⟨ov, iv, h, fun q hq => hF q (h2 q hq) (pbk_lt h q hq)⟩
theorem Plq.kp {w w' : World} {B P : Nat} {F S : Nat → Prop} {v : Value} {xs : List Nat} (h : Plq w B P F v xs) (hk : Kp S w w') (hs : ∀ q, F q → ¬ S q) : Plq w' B P F v xs := by
  obtain ⟨ov, iv, h, h2⟩ := h
  exact ⟨ov, iv, h.kp hk (fun q hq => hs q (h2 q hq)), h2⟩
theorem Plq.below {w w' : World} {B P : Nat} {F : Nat → Prop} {v : Value} {xs : List Nat} (h : Plq w B P F v xs) (hb : Below w.heap.size w w') : Plq w' B P F v xs := h.kp (Kp.of_below (S := fun _ => False) hb) (fun _ _ h => h)
/-- The row is written over in its place. -/
theorem Plq.over {w w' : World} {B P : Nat} {F : Nat → Prop} {v : Value} {xs ys : List Nat} (h : Plq w B P F v xs) (hk : Kp (fun q => v.ownBlock = some q) w w') (ho : w'.ownsRow B 5 1 v ys.length (bv ys)) : Plq w' B P F v ys := by
  obtain ⟨ov, iv, h, h2⟩ := h
  exact ⟨ov, iv, ⟨(hk.block P (blk_lt h.p) (fun e => own_not h.x h.p (by decide) e)).trans h.p, hk.owns h.o (fun k hk' e => own_apart h.o h.x (by decide) hk' e), hk.owns h.i (fun k hk' e => own_apart h.i h.x (by decide) hk' e), ho, h.oi, h.pb⟩, h2⟩
theorem rows_plf (w : World) (B P c : Nat) (F : Nat → Prop) (v : Value) (ys : List Nat) (h : Plf w B P F) (hc : w.cell? ⟨c, 0, none⟩ = some v) (hB : B ≤ w.heap.size) (hl : ys.length ≤ 140737488351232) (hcp : c ≠ P) (hv : ∀ w', Below B w w' → BSl w' v ys) :
    Calls Tryz.prog 33 #[.pointer (some ⟨P, 0, none⟩), .slice (some ⟨c, 0, none⟩) 1 1] w fun e w' => ∃ ov' vx', e = .returned ov' ∧ w'.ownsRow B 56 1 ov' 1 [vx'] ∧ Plq w' B P (fun q => F q ∨ w.heap.size ≤ q) vx' ys ∧ Kp F w w' := by
  obtain ⟨h0, h1, h | ⟨ov, iv, vx, xs, h, h2⟩⟩ := h
  · refine (rows_fresh w B P c v ys h h1 hc (hv w (Below.refl _ _)) hB hl hcp (fun w' hk => hv w' (hk.below hB (fun k e => by omega)))).mono ?_
    rintro e w' ⟨ov', iv', vx', he, hp, hk, hq⟩
    exact ⟨ov', vx', he, hp.o, ⟨ov', iv', hp, fun q e => (hq q e).imp (fun e => by rw [e]; exact h0) id⟩, hk.mono (fun q _ e => by rw [e]; exact h0)⟩
  · refine (rows_used w B P c v ov iv vx 1 [vx] xs ys h hc (hv w (Below.refl _ _)) hB hl hcp (fun w' hk => hv w' (hk.below hB (fun k e => by have := h.pb; omega)))).mono ?_
    rintro e w' ⟨ov', iv', vx', he, hp, hk, hq⟩
    exact ⟨ov', vx', he, hp.o, ⟨ov', iv', hp, fun q e => (hq q e).imp (h2 q) id⟩, hk.mono (fun q _ e => h2 q e)⟩

set_option maxRecDepth 1000000 in
set_option maxHeartbeats 1000000 in
/-- Place.Bytes. -/
theorem pbytes_f (w : World) (B P : Nat) (F : Nat → Prop) (v : Value) (ys : List Nat) (h : Plf w B P F) (hB : B ≤ w.heap.size) (hl : ys.length ≤ 140737488351232) (hv : ∀ w', Below B w w' → BSl w' v ys) :
    Calls Tryz.prog 13 #[.pointer (some ⟨P, 0, none⟩), v] w fun e w' => ∃ vx', e = .returned vx' ∧ Plq w' B P (fun q => F q ∨ w.heap.size ≤ q) vx' ys ∧ Kp F w w' := by
  have HP := hide h
  have HB := hide hB
  have HL := hide hl
  have HV := hide hv
  clear h hB hl hv
  obtain ⟨⟨av, cv, rfl, _, _⟩, _, _⟩ := HV.out w (Below.refl _ _)
  go_enter Tryz.func13, Tryz.ntmps13
  go_wp2_with fail
  generalize hw1 : w.alloc _ = w1
  have HBa : Hid (Below w.heap.size w w1) := by rw [← hw1]; exact (Below.refl _ _).alloc (Nat.le_refl _) _
  have HC : Hid (w1.cell? ⟨w.heap.size, 0, none⟩ = some (.slice av ys.length cv)) := by rw [← hw1]; exact cell_alloc1 _ _ _
  have HPx := hide (HP.out.below HBa.out)
  have HBx : Hid (B ≤ w1.heap.size) := Nat.le_trans HB.out HBa.out.size
  refine (rows_plf w1 B P w.heap.size F _ ys HPx.out HC.out HBx.out HL.out (fun e => by have := HP.out.lt; omega) (fun w' hb => HV.out w' ((HBa.out.mono HB.out).trans hb))).mono ?_
  rintro e w2 ⟨ov, vx, rfl, ho, hp, hkm⟩
  have HPR : Hid (Plq w2 B P (fun q => F q ∨ w.heap.size ≤ q) vx ys) := hp.foot (fun q hq _ => hq.imp id (fun h => Nat.le_trans HBa.out.size h))
  obtain ⟨go, co, rfl, c0, _⟩ := own_one_form ho
  have HKM : Hid (Kp F w w2) := (Kp.of_below HBa.out).trans hkm (fun _ _ h => h)
  clear ho hp hkm
  go_wp2_with fail
  go_ret
  exact ⟨vx, rfl, HPR.out, HKM.out⟩
end
section
open Go.RowKit
/-- What the loop of Bytes has written. -/
theorem mark_step (m k : Nat) (xs : List Value) (n : Nat) (hx : xs.length = n) (hk : k < n) :
    (bv (mkl m k) ++ xs.drop k).set k (.int .u8 ((atv m k : Nat) : Int)) = bv (mkl m (k + 1)) ++ xs.drop (k + 1) := by
  have hl : (bv (mkl m k)).length = k := by rw [bv_len, mkl_len]
  rw [List.set_append_right (h := by omega), hl, Nat.sub_self, List.drop_eq_getElem_cons (by omega), List.set_cons_zero, mkl_snoc, bv_app, List.append_assoc]
  rfl

theorem snoc_get {α : Type} {l : List α} {x y : α} {i : Nat} (h : (l ++ [x])[i]? = some y) : (i < l.length ∧ l[i]? = some y) ∨ (i = l.length ∧ y = x) := by
  rcases Nat.lt_trichotomy i l.length with hi | hi | hi
  · rw [List.getElem?_append_left hi] at h; exact .inl ⟨hi, h⟩
  · subst hi; simp at h; exact .inr ⟨rfl, h.symm⟩
  · rw [List.getElem?_eq_none (by simp; omega)] at h; cases h

set_option maxRecDepth 1000000 in
set_option maxHeartbeats 400000 in
theorem bytes_any {w : World} {base B : Nat} {vb vo : Value} {es : List Ent} {a t d u : Nat} (h : BookOk w base B vb vo es a t d u) (l : Value) (n : Nat) (xs : List Value) (hl : w.ownsRow base 5 1 l n xs) (hn : n < 68719476736)
    (hd : ∀ e ∈ es, ∀ k, e.val.ownBlock = some k → l.ownBlock ≠ some k) (ht : t + 1 < 68719476736) (hbase : base ≤ w.heap.size) :
    Calls Tryz.prog 41 #[.pointer (some ⟨B, 0, none⟩), l] w fun e w' => e = .returned (.tuple #[]) ∧ ∃ vb' vo' es' u', BookOk w' base B vb' vo' es' a (t + 1) d u' ∧
      Kp (fun k => k = B ∨ vb.ownBlock = some k ∨ vo.ownBlock = some k ∨ l.ownBlock = some k) w w' ∧
      ∀ k, Foot B vb' vo' es' k → Foot B vb vo es k ∨ l.ownBlock = some k ∨ (w.heap.size ≤ k ∧ k < w'.heap.size) := by
  have c54 : w.cell? ⟨B, 54, none⟩ = some (.int .i64 (t : Nat)) := h.blk.cell 54 _ rfl
  have f54 := blk_frozen 54 h.blk
  have HH := hide h
  have HL := hide hl
  have HD := hide hd
  have htt : (t : Int) + 1 < 68719476736 := by omega
  obtain ⟨al, capl, hlf, hcl, hl1, hl2⟩ := own_form hl
  clear hl1 hl2
  have HLB : Hid (l.ownBlock ≠ some B) := own_not hl h.blk (by decide)
  subst hlf
  clear h hl hd
  have HB1 : Hid (BkBlk (w.setCell ⟨B, 54, none⟩ (.int .i64 ((t : Int) + 1))) B vb vo a (t + 1) d u) := HH.out.blk.set 54 _ (by show _ = _; rfl)
  have HO1 : Hid ((w.setCell ⟨B, 54, none⟩ (.int .i64 ((t : Int) + 1))).ownsRow base 5 1 (.slice al n capl) n xs) :=
    (((Kp.refl (fun k => k = B) w).setCell ⟨B, 54, none⟩ (.int .i64 ((t : Int) + 1)) (fun _ => rfl))).owns HL.out (fun k hk e => HLB.out (by rw [hk, e]))
  have HK1 : Hid (Kp (fun k => k = B ∨ (Value.slice al n capl).ownBlock = some k) w (w.setCell ⟨B, 54, none⟩ (.int .i64 ((t : Int) + 1)))) := (Kp.refl _ w).setCell _ _ (fun _ => .inl rfl)
  go_enter Tryz.func41, Tryz.ntmps41
  go_wp2
  go_loopw [5] (fun i wr => ∃ k : Nat, k ≤ n ∧ i = .int .i64 k ∧ BkBlk wr B vb vo a (t + 1) d u ∧ wr.ownsRow base 5 1 (.slice al n capl) n (bv (mkl (t + 1) k) ++ xs.drop k) ∧
      Kp (fun k => k = B ∨ (Value.slice al n capl).ownBlock = some k) w wr ∧ wr.heap.size = w.heap.size) (fun i _ => n - (intOf i).toNat)
  case atStart => exact ⟨0, Nat.zero_le _, rfl, HB1.out, by simpa [mkl, bv] using HO1.out, HK1.out, by simp [World.setCell]⟩
  case round =>
    obtain ⟨k, hk, rfl, hblk, hown, hkp, hsz⟩ := hrel
    clear HB1 HO1 HK1 c54 f54
    have HBK := hide hblk
    have HOW := hide hown
    have HKP := hide hkp
    have HSZ := hide hsz
    clear hblk hown hkp hsz
    by_cases hlt : k < n
    · have hlt' : (k : Int) < (n : Int) := by omega
      have hxl : xs.length = n := by have := HL.out.1; omega
      obtain ⟨g, hg⟩ : ∃ g, al = some ⟨g, 0, none⟩ := by
        rcases HL.out.2 with ⟨_, h0⟩ | ⟨g, _, _, hv, _⟩
        · omega
        · injection hv with hv; exact ⟨g, hv⟩
      subst hg
      obtain ⟨hc, hfz⟩ := own_cell HOW.out (j := k) (u := xs[k]'(by omega)) (by
        rw [List.getElem?_append_right (by rw [bv_len, mkl_len]; omega), bv_len, mkl_len, Nat.sub_self]
        simp)
      have HAT : Hid (∀ W, Calls Tryz.prog 53 #[.int .i64 ((t : Int) + 1), .int .i64 (k : Int)] W fun e w' => e = .returned (.int .u8 ((atv (t + 1) k : Nat) : Int)) ∧ w' = W) := fun W => by
        have := at_any ((t : Int) + 1) (k : Int) W (by omega) (by omega) (by omega) (by omega)
        have e1 : ((t : Int) + 1).toNat = t + 1 := by omega
        rw [e1, Int.toNat_natCast] at this
        exact this
      have HST := hide (mark_step (t + 1) k xs n hxl hlt)
      generalize xs[k]'(by omega) = old at hc
      clear hxl
      go_wp2_with fail
      refine (HAT.out _).mono ?_
      rintro e w' ⟨rfl, rfl⟩
      go_wp2
      go_roundw
      case rel =>
        refine ⟨k + 1, by omega, by go_num, ?_, ?_, ?_, ?_⟩
        · exact HBK.out.kp ((Kp.refl (fun q => q = g) _).setCell _ _ (fun _ => rfl)) (fun e => HLB.out (by simp [Value.ownBlock]; exact e.symm))
        · rw [← HST.out]; exact own_set _ HOW.out
        · exact HKP.out.setCell _ _ (fun _ => .inr rfl)
        · have := HSZ.out; simp [World.setCell]; exact this
      case measure => simp [intOf]; omega
    · have hlt' : ¬ (k : Int) < (n : Int) := by omega
      have hkn : k = n := by omega
      have hxl : xs.length = n := by have := HL.out.1; omega
      have hw := HOW.out
      rw [hkn, List.drop_of_length_le (by omega), List.append_nil] at hw
      have HW := hide hw
      clear hw HOW hkn hxl
      -- what the book held lies apart from what was written
      have HE : Hid (∀ e ∈ es, ∀ q, e.val.ownBlock = some q → ¬ (q = B ∨ (Value.slice al n capl).ownBlock = some q)) := by
        intro e he q hq hor
        rcases hor with rfl | hor
        · exact own_not (HH.out.he e he) HH.out.blk (by decide) hq
        · exact HD.out e he q hq hor
      have HVB : Hid (wr.ownsRow base 56 1 vb es.length (es.map (·.val))) := HKP.out.owns HH.out.hb (fun q hq hor => by
        rcases hor with rfl | hor
        · exact own_not HH.out.hb HH.out.blk (by decide) hq
        · exact own_apart HH.out.hb HL.out (by decide) hq hor)
      have HVO : Hid (wr.ownsRow base 3 1 vo es.length (es.map fun e => .int .i64 ((e.m : Nat) : Int))) := HKP.out.owns HH.out.ho (fun q hq hor => by
        rcases hor with rfl | hor
        · exact own_not HH.out.ho HH.out.blk (by decide) hq
        · exact own_apart HH.out.ho HL.out (by decide) hq hor)
      have HEE : Hid (∀ e ∈ es, wr.ownsRow base 5 1 e.val e.n (bv (mkl e.m e.n))) := fun e he => HKP.out.owns (HH.out.he e he) (HE.out e he)
      have hu := HH.out.hu
      by_cases hfull : (16777216 : Int) < (u : Int) + (1200 + 3 * (n : Int))
      · go_wp2_with fail
        refine (tight_full HBK.out (1200 + 3 * (n : Int)) hu (by omega) (by omega) (by omega)).mono ?_
        rintro e w' ⟨rfl, rfl⟩
        go_wp2
        refine bodyPost_ret (results_none rfl _ _ _) rfl ?_
        refine ⟨rfl, vb, vo, es, u, ?_, HKP.out.mono (fun q _ hor => by rcases hor with h | h; exact .inl h; exact .inr (.inr (.inr h))), fun q hq => .inl hq⟩
        exact ⟨HBK.out, HVB.out, HVO.out, HEE.out, HH.out.hs, HH.out.hbase, fun e he => ⟨by have := (HH.out.hm e he).1; omega, (HH.out.hm e he).2⟩, ht, hu, HH.out.count, HH.out.hg, HH.out.hn⟩
      · go_wp2_with fail
        refine (tight_room HBK.out (1200 + 3 * (n : Int)) hu (by omega) (by omega) (by omega)).mono ?_
        rintro e w2 ⟨rfl, hblk2, hkp2⟩
        have e1 : u + (1200 + 3 * (n : Int)).toNat = u + (1200 + 3 * n) := by omega
        rw [e1] at hblk2
        clear e1
        have hnb : ∀ {ee : TypeId} {v : Value} {nn : Nat} {yy : List Value}, wr.ownsRow base ee 1 v nn yy → ee ≠ 49 → w2.ownsRow base ee 1 v nn yy := fun ho hne => hkp2.owns ho (fun q hq e => own_not ho HBK.out hne (by rw [hq, e]))
        have HVB2 := hide (hnb HVB.out (by decide))
        have HVO2 := hide (hnb HVO.out (by decide))
        have HW2 := hide (hnb HW.out (by decide))
        have HEE2 : Hid (∀ e ∈ es, w2.ownsRow base 5 1 e.val e.n (bv (mkl e.m e.n))) := fun e he => hnb (HEE.out e he) (by decide)
        have hsz2 : w.heap.size ≤ w2.heap.size := Nat.le_trans HKP.out.size hkp2.size
        have HK2 : Hid (Kp (fun q => q = B ∨ vb.ownBlock = some q ∨ vo.ownBlock = some q ∨ (Value.slice al n capl).ownBlock = some q) w w2) :=
          (HKP.out.mono (fun q _ hor => by rcases hor with h | h; exact .inl h; exact .inr (.inr (.inr h)))).trans hkp2 (fun q _ hq => .inl hq)
        have c0 : w2.cell? ⟨B, 0, none⟩ = some vb := hblk2.cell 0 _ rfl
        have HBK2 := hide hblk2
        have hlen : es.length < 1099511627776 := by
          obtain ⟨c, r, h1, h2, h3⟩ := HH.out.count
          omega
        have HBO : Hid (vo.ownBlock ≠ some B) := own_not HVO.out HBK.out (by decide)
        have HBB : Hid (vb.ownBlock ≠ some B) := own_not HVB.out HBK.out (by decide)
        clear hblk2 hkp2 hnb HVB HVO HW HEE HBK HKP hlt
        go_wp2_with (at_builtin; refine append_row rfl _ _ rfl base vb es.length _ rfl HVB2.out _ _ rfl rfl rfl hlen (by omega) ?_)
        intro v3 w3 ho3 hg3 hat3
        obtain ⟨a3, c3, hv3, hq1, hq2, hq3⟩ := own_form ho3
        clear hq1 hq2 hq3
        subst hv3
        obtain ⟨v3, hv3⟩ : ∃ v3, v3 = Value.slice a3 (es.length + 1) c3 := ⟨_, rfl⟩
        rw [← hv3] at ho3 hat3
        have hblk3 : BkBlk w3 B vb vo a (t + 1) d (u + (1200 + 3 * n)) := (HBK2.out.alloc _).grown hg3 HBB.out
        have c0' : w3.cell? ⟨B, 0, none⟩ = some vb := hblk3.cell 0 _ rfl
        have c1' : w3.cell? ⟨B, 1, none⟩ = some vo := hblk3.cell 1 _ rfl
        have f0' := blk_frozen 0 hblk3
        have hblk4 : BkBlk (w3.setCell ⟨B, 0, none⟩ v3) B v3 vo a (t + 1) d (u + (1200 + 3 * n)) := hblk3.set 0 _ rfl
        have hkg : Kp (fun q => vb.ownBlock = some q) w2 w3 := ((Kp.refl _ w2).alloc _).grown hg3 (fun q _ hq => hq)
        have hk34 : Kp (fun q => q = B) w3 (w3.setCell ⟨B, 0, none⟩ v3) := (Kp.refl _ _).setCell _ _ (fun _ => rfl)
        have hk24 : Kp (fun q => q = B ∨ vb.ownBlock = some q) w2 (w3.setCell ⟨B, 0, none⟩ v3) := (hkg.mono (fun _ _ h => .inr h)).trans hk34 (fun _ _ h => .inl h)
        have hv3B : v3.ownBlock ≠ some B := own_not ho3 hblk3 (by decide)
        have HV4 : Hid ((w3.setCell ⟨B, 0, none⟩ v3).ownsRow base 56 1 v3 (es.length + 1) (es.map (·.val) ++ [Value.slice al n capl])) := hk34.owns ho3 (fun q hq e => hv3B (by rw [hq, e]))
        have HVO4 : Hid ((w3.setCell ⟨B, 0, none⟩ v3).ownsRow base 3 1 vo es.length (es.map fun e => .int .i64 ((e.m : Nat) : Int))) := hk24.owns HVO2.out (fun q hq hor => by
          rcases hor with rfl | hor
          · exact HBO.out hq
          · exact own_apart HVO2.out HVB2.out (by decide) hq hor)
        have HW4 : Hid ((w3.setCell ⟨B, 0, none⟩ v3).ownsRow base 5 1 (.slice al n capl) n (bv (mkl (t + 1) n))) := hk24.owns HW2.out (fun q hq hor => by
          rcases hor with rfl | hor
          · exact HLB.out hq
          · exact own_apart HW2.out HVB2.out (by decide) hq hor)
        have HEE4 : Hid (∀ e ∈ es, (w3.setCell ⟨B, 0, none⟩ v3).ownsRow base 5 1 e.val e.n (bv (mkl e.m e.n))) := fun e he => hk24.owns (HEE2.out e he) (fun q hq hor => by
          rcases hor with rfl | hor
          · exact own_not (HEE2.out e he) HBK2.out (by decide) hq
          · exact own_apart (HEE2.out e he) HVB2.out (by decide) hq hor)
        have HK4 := hide (HK2.out.trans hk24 (fun q _ hor => by rcases hor with h | h; exact .inl h; exact .inr (.inl h)))
        have HB4 := hide hblk4
        have HS4 : Hid (w.heap.size ≤ w3.heap.size) := Nat.le_trans HK2.out.size hkg.size
        have HV3 : Hid (∀ q, v3.ownBlock = some q → vb.ownBlock = some q ∨ w.heap.size ≤ q) := fun q hq => by
          rcases hat3 with h | h
          · exact .inl (by rw [← h]; exact hq)
          · rw [h] at hq; injection hq with hq; exact .inr (by omega)
        subst hv3
        have HLEN := hide hlen
        have HN := hide hn
        have HT := hide ht
        clear hlen hn ht htt
        clear hat3 ho3 hg3 hblk3 hblk4 hkg hk34 hk24 hv3B HBK2 HVB2 HVO2 HW2 HEE2 HK2 c0
        go_wp2_with (at_builtin; go_must (refine append_int rfl _ _ rfl base vo es.length _ rfl HVO4.out _ w3.heap.size (by simp) rfl HLEN.out (by have := HK4.out.size; omega) ?_))
        intro v5 w5 ho5 hg5 hat5
        clear c0' c1' f0'
        generalize w3.setCell ⟨B, 0, none⟩ (Value.slice a3 (es.length + 1) c3) = w4 at *
        obtain ⟨a5, c5, hv5, hq1, hq2, hq3⟩ := own_form ho5
        clear hq1 hq2 hq3
        have hblk5 : BkBlk w5 B (Value.slice a3 (es.length + 1) c3) vo a (t + 1) d (u + (1200 + 3 * n)) := (HB4.out.alloc _).grown hg5 HBO.out
        have c1' : w5.cell? ⟨B, 1, none⟩ = some vo := hblk5.cell 1 _ rfl
        have f1' := blk_frozen 1 hblk5
        have hblk6 : BkBlk (w5.setCell ⟨B, 1, none⟩ v5) B (Value.slice a3 (es.length + 1) c3) v5 a (t + 1) d (u + (1200 + 3 * n)) := hblk5.set 1 _ rfl
        have hkg5 : Kp (fun q => vo.ownBlock = some q) w4 w5 := ((Kp.refl _ w4).alloc _).grown hg5 (fun q _ hq => hq)
        have hk56 : Kp (fun q => q = B) w5 (w5.setCell ⟨B, 1, none⟩ v5) := (Kp.refl _ _).setCell _ _ (fun _ => rfl)
        have hk46 : Kp (fun q => q = B ∨ vo.ownBlock = some q) w4 (w5.setCell ⟨B, 1, none⟩ v5) := (hkg5.mono (fun _ _ h => .inr h)).trans hk56 (fun _ _ h => .inl h)
        have hv5B : v5.ownBlock ≠ some B := own_not ho5 hblk5 (by decide)
        have HV6 : Hid ((w5.setCell ⟨B, 1, none⟩ v5).ownsRow base 3 1 v5 (es.length + 1) (es.map (fun e => .int .i64 ((e.m : Nat) : Int)) ++ [.int .i64 ((t : Int) + 1)])) := hk56.owns ho5 (fun q hq e => hv5B (by rw [hq, e]))
        have HVB6 : Hid ((w5.setCell ⟨B, 1, none⟩ v5).ownsRow base 56 1 (Value.slice a3 (es.length + 1) c3) (es.length + 1) (es.map (·.val) ++ [Value.slice al n capl])) := hk46.owns HV4.out (fun q hq hor => by
          rcases hor with rfl | hor
          · exact own_not HV4.out HB4.out (by decide) hq
          · exact own_apart HV4.out HVO4.out (by decide) hq hor)
        have HW6 : Hid ((w5.setCell ⟨B, 1, none⟩ v5).ownsRow base 5 1 (.slice al n capl) n (bv (mkl (t + 1) n))) := hk46.owns HW4.out (fun q hq hor => by
          rcases hor with rfl | hor
          · exact HLB.out hq
          · exact own_apart HW4.out HVO4.out (by decide) hq hor)
        have HEE6 : Hid (∀ e ∈ es, (w5.setCell ⟨B, 1, none⟩ v5).ownsRow base 5 1 e.val e.n (bv (mkl e.m e.n))) := fun e he => hk46.owns (HEE4.out e he) (fun q hq hor => by
          rcases hor with rfl | hor
          · exact own_not (HEE4.out e he) HB4.out (by decide) hq
          · exact own_apart (HEE4.out e he) HVO4.out (by decide) hq hor)
        have HK6 := hide (HK4.out.trans hk46 (fun q _ hor => by rcases hor with h | h; exact .inl h; exact .inr (.inr (.inl h))))
        have HB6 := hide hblk6
        have HV5 : Hid (∀ q, v5.ownBlock = some q → vo.ownBlock = some q ∨ w.heap.size ≤ q) := fun q hq => by
          rcases hat5 with h | h
          · exact .inl (by rw [← h]; exact hq)
          · rw [h] at hq; injection hq with hq; exact .inr (by have := HS4.out; omega)
        have HI6 : Hid (∀ q, v5.ownBlock = some q → q < (w5.setCell ⟨B, 1, none⟩ v5).heap.size) := fun q hq => (HV6.out.lt q hq).2
        subst hv5
        clear ho5 hg5 hat5 hblk5 hblk6 hkg5 hk56 hk46 hv5B
        go_wp2
        go_end0
        refine ⟨rfl, Value.slice a3 (es.length + 1) c3, Value.slice a5 (es.length + 1) c5, es ++ [⟨Value.slice al n capl, n, t + 1⟩], u + (1200 + 3 * n), ?_, HK6.out, ?_⟩
        · refine ⟨HB6.out, by simpa using HVB6.out, by simpa using HV6.out, ?_, ?_, HH.out.hbase, ?_, HT.out, by omega, ?_, ?_, ?_⟩
          · intro e he
            rcases List.mem_append.1 he with he | he
            · exact HEE6.out e he
            · simp at he; subst he; exact HW6.out
          · intro e he e' he' q hq hq'
            rcases List.mem_append.1 he with he | he <;> rcases List.mem_append.1 he' with he' | he'
            · exact HH.out.hs e he e' he' q hq hq'
            · simp at he'; subst he'; exact absurd hq' (HD.out e he q hq)
            · simp at he; subst he; exact absurd hq (HD.out e' he' q hq')
            · simp at he he'; subst he; subst he'; rfl
          · intro e he
            rcases List.mem_append.1 he with he | he
            · exact ⟨by have := (HH.out.hm e he).1; omega, (HH.out.hm e he).2⟩
            · simp at he; subst he; exact ⟨Nat.le_refl _, Nat.lt_of_lt_of_le HN.out (by decide)⟩
          · obtain ⟨c, r, h1, h2, h3⟩ := HH.out.count
            exact ⟨c, r + 1, h1, by simp; omega, by omega⟩
          · intro i j ei ej hi hj haj hij q hq
            rcases snoc_get hi with ⟨_, hi⟩ | ⟨hi0, hi⟩ <;> rcases snoc_get hj with ⟨_, hj⟩ | ⟨hj0, hj⟩
            · exact HH.out.hg i j ei ej hi hj haj hij q hq
            · subst hj; exact HD.out ei (List.mem_of_getElem? hi) q hq
            · subst hi; exact fun hq' => HD.out ej (List.mem_of_getElem? hj) q hq' hq
            · omega
          · intro j ej hj haj
            rcases snoc_get hj with ⟨_, hj⟩ | ⟨_, hj⟩
            · exact HH.out.hn j ej hj haj
            · subst hj; exact HN.out
        · intro q hq
          rcases hq with hq | hq | hq | ⟨e, he, hq⟩
          · exact .inl (.inl hq)
          · rcases HV3.out q hq with h | h
            · exact .inl (.inr (.inl h))
            · exact .inr (.inr ⟨h, (HVB6.out.lt q hq).2⟩)
          · rcases HV5.out q hq with h | h
            · exact .inl (.inr (.inr (.inl h)))
            · exact .inr (.inr ⟨h, HI6.out q hq⟩)
          · rcases List.mem_append.1 he with he | he
            · exact .inl (.inr (.inr (.inr ⟨e, he, hq⟩)))
            · simp at he; subst he; exact .inr (.inl hq)
end
section
open Go.RowKit
/-- 'append(g, y)' at bytes, one of them, and what becomes of every other row of bytes: one in the same block, no longer than g, stays as it was. -/
theorem append_mark {ops : Array Oper} {rest : List Oper} {o : Oper} {a : Act} {Q : Exit → Act → World → Prop} {w : World} (hgd : o.guard = none) (s x : Operand)
    (ho : o.op = .call { callee := .builtin .append, args := #[s, x], argTypes := #[56, 56] }) (B : Nat) (v : Value) (n : Nat) (ds : List Value) (hs : a.eval s = v) (hown : w.ownsRow B 5 1 v n ds)
    (y : Int) (S : Nat) (hS : w.heap.size = S) (hx : a.eval x = .slice (some ⟨S, 0, none⟩) 1 1) (hlen : n < 1099511627776) (hbase : B ≤ w.heap.size)
    (h : ∀ v' w', w'.ownsRow B 5 1 v' (n + 1) (ds ++ [.int .u8 y]) → (∀ v2 n2 xs2, (∀ k, v2.ownBlock = some k → v.ownBlock = some k → n2 ≤ n) → w.ownsRow B 5 1 v2 n2 xs2 → w'.ownsRow B 5 1 v2 n2 xs2) →
      Kp (fun k => v.ownBlock = some k) w w' → (v'.ownBlock = v.ownBlock ∨ v'.ownBlock = some (w.heap.size + 1)) → wpList Tryz.prog ops Q rest (a.put o.dst v') w') : wpList Tryz.prog ops Q (o :: rest) a (w.alloc (.cells #[.int .u8 y] 5)) := by
  obtain ⟨i, hi, hz0, hz1, hz2⟩ := info5_ex
  subst hS
  have hnews : ∀ j u, [Value.int .u8 y][j]? = some u → (w.alloc (.cells #[.int .u8 y] 5)).cell? ((⟨w.heap.size, 0, none⟩ : Addr).add j) = some u := cell_one_new _ _ _
  have h1 : ∀ u ∈ [Value.int .u8 y], u.oneCell' = true := by intro u hu; simp at hu; subst hu; rfl
  have hownA := hown.alloc (.cells #[.int .u8 y] 5)
  have moved : ∀ (w' : World) (v' : Value), (Builtin.append_ #[56, 56] o.type #[v, .slice (some ⟨w.heap.size, 0, none⟩) 1 1]).run Tryz.prog (w.alloc (.cells #[.int .u8 y] 5)) = .ok v' w' →
      w'.ownsRow B 5 1 v' (n + 1) (ds ++ [.int .u8 y]) → Kp (fun _ => False) w w' → v'.ownBlock = some (w.heap.size + 1) → wpList Tryz.prog ops Q (o :: rest) a (w.alloc (.cells #[.int .u8 y] 5)) := by
    intro w' v' hr hown' hk hb
    refine wpList_plain hgd fun K hK => ?_
    unfold Oper.wp execOp
    simp only [ho, resolve, invoke, builtin, Sem.run_bind, Sem.run_pure, Result.andThen_ok, List.map_toArray, List.map_cons, List.map_nil, hs, hx, hr]
    exact hK _ _ (h v' w' hown' (fun v2 n2 xs2 _ h2 => hk.owns h2 (fun _ _ hf => hf)) (hk.mono (fun _ _ hf => hf.elim)) (.inr hb))
  rcases hown.2 with ⟨rfl, rfl⟩ | ⟨g, cap, cur, rfl, hbg, hg, hnc, hcm, hcs, htake⟩
  · have hx0 : ds = [] := List.eq_nil_of_length_eq_zero (by simpa using hown.1)
    subst hx0
    obtain ⟨v', w', hr, r1, r2, _, r4⟩ := run_append_own_at (P := Tryz.prog) (w.alloc (.cells #[.int .u8 y] 5)) B 56 o.type 5 i (.int .u8 0) 1 1 Tryz.underlying56 hi hz0 hz1 hz2 rfl (by decide) (.slice none 0 0) 0 [] hownA ⟨w.heap.size, 0, none⟩ 1 1 [.int .u8 y] rfl hnews h1 (by decide) (by decide) (by simp; omega)
    refine moved w' v' hr (by simpa using r1) (((Kp.refl _ w).alloc _).grown r2 (fun k _ hk => by cases hk)) ?_
    rcases r4 with r4 | r4
    · exfalso
      rcases r1.2 with ⟨_, h0⟩ | ⟨g, _, _, rfl, _⟩
      · omega
      · simp [Value.ownBlock] at r4
    · simpa using r4
  · have hgA : (w.alloc (.cells #[.int .u8 y] 5)).heap[g]? = some (.cells cur 5 (0, 0)) := blk_alloc _ hg
    rw [Nat.mul_one] at hcs htake
    by_cases hroom : n + 1 ≤ cap
    · have hr := run_append_room (P := Tryz.prog) (w.alloc (.cells #[.int .u8 y] 5)) 56 o.type 5 i Tryz.underlying56 hi g n cap cur hgA ⟨w.heap.size, 0, none⟩ 1 1 [.int .u8 y] (by rw [hz1]; rfl) hnews h1 hroom (by rw [hz1]; simp; omega)
      rw [hz1] at hr
      simp only [Nat.mul_one, List.length_cons, List.length_nil, Nat.zero_add] at hr
      have hsz : (cur.toList.take n ++ [Value.int .u8 y] ++ cur.toList.drop (n + 1)).toArray.size = cap := by
        simp only [List.size_toArray, List.length_append, List.length_take, List.length_drop, Array.length_toList, List.length_cons, List.length_nil]
        omega
      have hpre : ∀ q, q ≤ n → (cur.toList.take n ++ [Value.int .u8 y] ++ cur.toList.drop (n + 1)).toArray.toList.take q = cur.toList.take q := by
        intro q hq
        simp only [List.append_assoc]
        rw [List.take_append_of_le_length (by simp; omega), List.take_take, Nat.min_eq_left hq]
      have hrow : ((w.alloc (.cells #[.int .u8 y] 5)).setRow g (cur.toList.take n ++ [Value.int .u8 y] ++ cur.toList.drop (n + 1)).toArray).heap[g]? = some (.cells (cur.toList.take n ++ [Value.int .u8 y] ++ cur.toList.drop (n + 1)).toArray 5 (0, 0)) := setRow_heap _ g cur _ 5 _ hgA
      have hkp : Kp (fun k => (Value.slice (some ⟨g, 0, none⟩) n cap).ownBlock = some k) w ((w.alloc (.cells #[.int .u8 y] 5)).setRow g (cur.toList.take n ++ [Value.int .u8 y] ++ cur.toList.drop (n + 1)).toArray) :=
        ⟨rfl, rfl, rfl, by simp, fun k hk hne => (setRow_other _ g k _ (fun e => hne (by simp [Value.ownBlock, e]))).trans (Below.heap_alloc w _ k hk)⟩
      refine wpList_plain hgd fun K hK => ?_
      unfold Oper.wp execOp
      simp only [ho, resolve, invoke, builtin, Sem.run_bind, Sem.run_pure, Result.andThen_ok, List.map_toArray, List.map_cons, List.map_nil, hs, hx, hr]
      refine hK _ _ (h _ _ ?_ ?_ hkp (.inl rfl))
      · refine ⟨by have := hown.1; simp; omega, .inr ⟨g, cap, _, rfl, hbg, hrow, hroom, hcm, by rw [hsz]; omega, ?_⟩⟩
        rw [Nat.mul_one, htake]
        have hl : (ds ++ [Value.int .u8 y]).length = n + 1 := by have := hown.1; simp; omega
        simp only [← hl]
        exact List.take_left
      · intro v2 n2 xs2 hle h2
        refine ⟨h2.1, ?_⟩
        rcases h2.2 with hn | ⟨g2, cap2, cur2, rfl, hb2, hg2, r1, r2, r3, r4⟩
        · exact .inl hn
        · by_cases hgg : g2 = g
          · subst hgg
            have hn2 := hle g2 rfl rfl
            rw [hg] at hg2
            injection hg2 with hg2
            injection hg2 with hg2 _
            subst hg2
            rw [Nat.mul_one] at r3 r4
            refine .inr ⟨g2, cap2, _, rfl, hb2, hrow, r1, r2, by rw [hsz]; omega, ?_⟩
            rw [Nat.mul_one, hpre n2 hn2, r4]
          · refine .inr ⟨g2, cap2, cur2, rfl, hb2, ?_, r1, r2, r3, r4⟩
            rw [hkp.block g2 (blk_lt hg2) (fun e => hgg (by simp [Value.ownBlock] at e; exact e.symm))]
            exact hg2
    · have holds : ∀ j u, ds[j]? = some u → (w.alloc (.cells #[.int .u8 y] 5)).cell? ((⟨g, 0, none⟩ : Addr).add j) = some u := hownA.cells (g := g) rfl
      have hr := run_append_grow (P := Tryz.prog) (w.alloc (.cells #[.int .u8 y] 5)) 56 o.type 5 i (.int .u8 0) Tryz.underlying56 hi hz0 ⟨g, 0, none⟩ n cap ds (by rw [hz1]; exact hown.1) holds ⟨w.heap.size, 0, none⟩ 1 1 [.int .u8 y] (by rw [hz1]; rfl) hnews (by omega) (by omega) (growslice_fits (by omega) (by rw [hz2]; omega))
      have hge := grownCap_ge (w.alloc (.cells #[.int .u8 y] 5)) (n + 1) cap 5
      have hcm' := grownCap_le_maxLen (w.alloc (.cells #[.int .u8 y] 5)) (n + 1) cap 5 (by unfold maxLen; omega)
      refine moved _ _ hr ⟨by have := hown.1; simp; omega, .inr ⟨_, _, _, rfl, by simp; omega, heap_alloc_new _ _, hge, hcm', ?_, ?_⟩⟩ ⟨rfl, rfl, rfl, by simp; omega, fun k hk _ => ?_⟩ (by simp [Value.ownBlock])
      · have := hown.1
        simp only [Array.size_append, List.size_toArray, size_zeroCells, List.length_cons, List.length_nil]
        have e : (Value.int .u8 0).cells.size = 1 := rfl
        rw [e]
        omega
      · have hl : (ds ++ [Value.int .u8 y]).length = n + 1 := by have := hown.1; simp; omega
        simp only [Array.toList_append, Nat.mul_one]
        rw [← hl]
        exact List.take_left
      · exact (Below.heap_alloc (w.alloc (.cells #[.int .u8 y] 5)).drew _ k (by simp; omega)).trans (Below.heap_alloc w _ k hk)
end
section
open Go.RowKit
/-- Half of a push: the list is in the row of lists, its number not yet in the other row. -/
structure Half (w : World) (base B : Nat) (vb vo : Value) (es : List Ent) (ent : Ent) (a t d u : Nat) : Prop where
  blk : BkBlk w B vb vo a t d u
  hb : w.ownsRow base 56 1 vb (es.length + 1) (es.map (·.val) ++ [ent.val])
  ho : w.ownsRow base 3 1 vo es.length (es.map fun e => .int .i64 ((e.m : Nat) : Int))
  he : ∀ e ∈ es, w.ownsRow base 5 1 e.val e.n (bv (mkl e.m e.n))
  hn : w.ownsRow base 5 1 ent.val ent.n (bv (mkl ent.m ent.n))

theorem push_a {w w3 : World} {base B : Nat} {vb vo : Value} {es : List Ent} {a t d u : Nat} (h : BookC w base B vb vo es a t d u) (ent : Ent) (hent : w.ownsRow base 5 1 ent.val ent.n (bv (mkl ent.m ent.n))) (v3 : Value)
    (ho3 : w3.ownsRow base 56 1 v3 (es.length + 1) (es.map (·.val) ++ [ent.val])) (hg3 : (w.alloc (.cells #[ent.val] 56)).grownBy w3 vb.ownBlock) :
    BkBlk w3 B vb vo a t d u ∧ Half (w3.setCell ⟨B, 0, none⟩ v3) base B v3 vo es ent a t d u ∧ Kp (fun q => q = B ∨ vb.ownBlock = some q) w (w3.setCell ⟨B, 0, none⟩ v3) := by
  have hbb : vb.ownBlock ≠ some B := own_not h.hb h.blk (by decide)
  have hblk3 : BkBlk w3 B vb vo a t d u := (h.blk.alloc _).grown hg3 hbb
  have hkg : Kp (fun q => vb.ownBlock = some q) w w3 := ((Kp.refl _ w).alloc _).grown hg3 (fun q _ hq => hq)
  have hk34 : Kp (fun q => q = B) w3 (w3.setCell ⟨B, 0, none⟩ v3) := (Kp.refl _ _).setCell _ _ (fun _ => rfl)
  have hk24 : Kp (fun q => q = B ∨ vb.ownBlock = some q) w (w3.setCell ⟨B, 0, none⟩ v3) := (hkg.mono (fun _ _ h => .inr h)).trans hk34 (fun _ _ h => .inl h)
  have hkeep : ∀ {ee : TypeId} {v : Value} {nn : Nat} {yy : List Value}, w.ownsRow base ee 1 v nn yy → ee ≠ 49 → ee ≠ 56 → (w3.setCell ⟨B, 0, none⟩ v3).ownsRow base ee 1 v nn yy := fun ho h1 h2 =>
    hk24.owns ho (fun q hq hor => by
      rcases hor with rfl | hor
      · exact own_not ho h.blk h1 hq
      · exact own_apart ho h.hb h2 hq hor)
  exact ⟨hblk3, ⟨hblk3.set 0 _ rfl, hk34.owns ho3 (fun q hq e => own_not ho3 hblk3 (by decide) (by rw [hq, e])), hkeep h.ho (by decide) (by decide), fun e he => hkeep (h.he e he) (by decide) (by decide), hkeep hent (by decide) (by decide)⟩, hk24⟩

theorem push_b {w w5 : World} {base B : Nat} {v3 vo : Value} {es : List Ent} {ent : Ent} {a t d u : Nat} (h : Half w base B v3 vo es ent a t d u) (v5 : Value)
    (ho5 : w5.ownsRow base 3 1 v5 (es.length + 1) (es.map (fun e => .int .i64 ((e.m : Nat) : Int)) ++ [.int .i64 ((ent.m : Nat) : Int)])) (hg5 : (w.alloc (.cells #[.int .i64 ((ent.m : Nat) : Int)] 3)).grownBy w5 vo.ownBlock)
    (hs : ∀ e ∈ es, ∀ e' ∈ es, ∀ k, e.val.ownBlock = some k → e'.val.ownBlock = some k → e.m = e'.m) (hsh : ∀ e ∈ es, ∀ k, e.val.ownBlock = some k → ent.val.ownBlock = some k → e.m = ent.m)
    (hbase : base ≤ B) (hm : ∀ e ∈ es, e.m ≤ t ∧ e.n < 68719477000) (hme : ent.m ≤ t ∧ ent.n < 68719477000) (ht : t < 68719476736) (hu : u ≤ 16777216) :
    BkBlk w5 B v3 vo a t d u ∧ BookC (w5.setCell ⟨B, 1, none⟩ v5) base B v3 v5 (es ++ [ent]) a t d u ∧ Kp (fun q => q = B ∨ vo.ownBlock = some q) w (w5.setCell ⟨B, 1, none⟩ v5) := by
  have hbo : vo.ownBlock ≠ some B := own_not h.ho h.blk (by decide)
  have hblk5 : BkBlk w5 B v3 vo a t d u := (h.blk.alloc _).grown hg5 hbo
  have hkg : Kp (fun q => vo.ownBlock = some q) w w5 := ((Kp.refl _ w).alloc _).grown hg5 (fun q _ hq => hq)
  have hk56 : Kp (fun q => q = B) w5 (w5.setCell ⟨B, 1, none⟩ v5) := (Kp.refl _ _).setCell _ _ (fun _ => rfl)
  have hk46 : Kp (fun q => q = B ∨ vo.ownBlock = some q) w (w5.setCell ⟨B, 1, none⟩ v5) := (hkg.mono (fun _ _ h => .inr h)).trans hk56 (fun _ _ h => .inl h)
  have hkeep : ∀ {ee : TypeId} {v : Value} {nn : Nat} {yy : List Value}, w.ownsRow base ee 1 v nn yy → ee ≠ 49 → ee ≠ 3 → (w5.setCell ⟨B, 1, none⟩ v5).ownsRow base ee 1 v nn yy := fun ho h1 h2 =>
    hk46.owns ho (fun q hq hor => by
      rcases hor with rfl | hor
      · exact own_not ho h.blk h1 hq
      · exact own_apart ho h.ho h2 hq hor)
  have hv5 := hk56.owns ho5 (fun q hq e => own_not ho5 hblk5 (by decide) (by rw [hq, e]))
  have hv3 := hkeep h.hb (by decide) (by decide)
  refine ⟨hblk5, ⟨hblk5.set 1 _ rfl, by simpa using hv3, by simpa using hv5, ?_, ?_, hbase, ?_, ht, hu⟩, hk46⟩
  · intro e he
    rcases List.mem_append.1 he with he | he
    · exact hkeep (h.he e he) (by decide) (by decide)
    · simp at he; subst he; exact hkeep h.hn (by decide) (by decide)
  · intro e he e' he' q hq hq'
    rcases List.mem_append.1 he with h1 | h1 <;> rcases List.mem_append.1 he' with h2 | h2
    · exact hs e h1 e' h2 q hq hq'
    · have h2 := List.mem_singleton.1 h2; rw [h2] at hq' ⊢; exact hsh e h1 q hq hq'
    · have h1 := List.mem_singleton.1 h1; rw [h1] at hq ⊢; exact (hsh e' h2 q hq' hq).symm
    · rw [List.mem_singleton.1 h1, List.mem_singleton.1 h2]
  · intro e he
    rcases List.mem_append.1 he with he | he
    · exact hm e he
    · simp at he; subst he; exact hme

/-- How many of the first i grown lists are kept. -/
def pc : Nat → Nat
  | 0 => 0
  | i + 1 => pc i + if i + 1 < 4 ∨ (i + 1) % 16 = 0 then 1 else 0
theorem pc_le : ∀ i, pc i ≤ i
  | 0 => Nat.le_refl _
  | i + 1 => by unfold pc; have := pc_le i; split <;> omega
theorem pc_yes {q : Nat} (h : q + 1 < 4 ∨ (q + 1) % 16 = 0) : pc (q + 1) = pc q + 1 := by show pc q + _ = _; rw [if_pos h]
theorem pc_no {q : Nat} (h : ¬ (q + 1 < 4 ∨ (q + 1) % 16 = 0)) : pc (q + 1) = pc q := by show pc q + _ = _; rw [if_neg h]; rfl
theorem pc_all : pc 96 = 9 := by decide

/-- What holds within growBytes: the book was (w0, vb0, vo0, es0); the lists ahead of k have been grown. -/
structure Grw (w0 : World) (base B : Nat) (vb0 vo0 : Value) (es0 : List Ent) (a t d u : Nat) (w : World) (vb vo : Value) (es : List Ent) (k : Nat) : Prop where
  core : BookC w base B vb vo es a t d u
  pre : ∀ (j : Nat) (ej : Ent), es0[j]? = some ej → es[j]? = some ej
  kp : Kp (Foot B vb0 vo0 es0) w0 w
  foot : ∀ q, Foot B vb vo es q → Foot B vb0 vo0 es0 q ∨ w0.heap.size ≤ q
  un : ∀ (j : Nat) (ej : Ent), k ≤ j → es0[j]? = some ej → ∀ (i : Nat) (ei : Ent), es[i]? = some ei → i ≠ j → ∀ q, ei.val.ownBlock = some q → ej.val.ownBlock ≠ some q
  old : ∀ (j : Nat) (ej : Ent), es0[j]? = some ej → ∀ q, ej.val.ownBlock = some q → q < w0.heap.size

/-- .. and within the growing of list e: i of its appendings are done, gv is what has come of it. -/
structure Inn (w0 : World) (base B : Nat) (vb0 vo0 : Value) (es0 : List Ent) (a t d u : Nat) (w : World) (vb vo : Value) (es : List Ent) (k : Nat) (e : Ent) (i : Nat) (gv : Value) : Prop where
  g : Grw w0 base B vb0 vo0 es0 a t d u w vb vo es (k + 1)
  own : w.ownsRow base 5 1 gv (e.n + i) (bv (mkl e.m (e.n + i)))
  gb : ∀ q, gv.ownBlock = some q → e.val.ownBlock = some q ∨ w0.heap.size ≤ q
  share : ∀ x ∈ es, ∀ q, x.val.ownBlock = some q → gv.ownBlock = some q → x.m = e.m ∧ x.n ≤ e.n + i

section
variable {w0 : World} {base B : Nat} {vb0 vo0 : Value} {es0 : List Ent} {a t d u : Nat}

theorem Grw.begin {w : World} {vb vo : Value} {es : List Ent} {k : Nat} {e : Ent} (h : Grw w0 base B vb0 vo0 es0 a t d u w vb vo es k) (he : es0[k]? = some e) : Inn w0 base B vb0 vo0 es0 a t d u w vb vo es k e 0 e.val := by
  have hek := h.pre k e he
  refine ⟨⟨h.core, h.pre, h.kp, h.foot, fun j ej hj => h.un j ej (by omega), h.old⟩, h.core.he e (List.mem_of_getElem? hek), fun q hq => .inl hq, fun x hx q hq hq' => ?_⟩
  obtain ⟨i, hi⟩ := List.getElem?_of_mem hx
  by_cases hik : i = k
  · subst hik
    rw [hek] at hi
    injection hi with hi
    subst hi
    exact ⟨rfl, Nat.le_refl _⟩
  · exact absurd hq' (h.un k e (Nat.le_refl _) he i x hi hik q hq)

/-- One byte is appended. -/
theorem Inn.append {w : World} {vb vo : Value} {es : List Ent} {k : Nat} {e : Ent} {i : Nat} {gv : Value} (h : Inn w0 base B vb0 vo0 es0 a t d u w vb vo es k e i gv) (he : es0[k]? = some e) {w2 : World} {g2 : Value}
    (ho : w2.ownsRow base 5 1 g2 (e.n + i + 1) (bv (mkl e.m (e.n + i)) ++ [.int .u8 ((atv e.m (e.n + i) : Nat) : Int)]))
    (hkeep : ∀ v2 n2 xs2, (∀ k, v2.ownBlock = some k → gv.ownBlock = some k → n2 ≤ e.n + i) → w.ownsRow base 5 1 v2 n2 xs2 → w2.ownsRow base 5 1 v2 n2 xs2)
    (hk : Kp (fun k => gv.ownBlock = some k) w w2) (hat : g2.ownBlock = gv.ownBlock ∨ g2.ownBlock = some (w.heap.size + 1)) : Inn w0 base B vb0 vo0 es0 a t d u w2 vb vo es k e (i + 1) g2 := by
  have hfe : ∀ q, e.val.ownBlock = some q → Foot B vb0 vo0 es0 q := fun q hq => .inr (.inr (.inr ⟨e, List.mem_of_getElem? he, hq⟩))
  have hkp2 : Kp (Foot B vb0 vo0 es0) w0 w2 := h.g.kp.trans hk (fun q hq hg => by
    rcases h.gb q hg with h1 | h1
    · exact hfe q h1
    · omega)
  have hne : ∀ {ee : TypeId} {v : Value} {nn : Nat} {yy : List Value}, w.ownsRow base ee 1 v nn yy → ee ≠ 5 → w2.ownsRow base ee 1 v nn yy := fun ho h1 => hk.owns ho (fun q hq hg => own_apart ho h.own h1 hq hg)
  refine ⟨⟨⟨h.g.core.blk.kp hk (fun hg => own_not h.own h.g.core.blk (by decide) hg), hne h.g.core.hb (by decide), hne h.g.core.ho (by decide), fun x hx => hkeep _ _ _ (fun q hq hg => (h.share x hx q hq hg).2) (h.g.core.he x hx), h.g.core.hs, h.g.core.hbase, h.g.core.hm, h.g.core.ht, h.g.core.hu⟩, h.g.pre, hkp2, h.g.foot, h.g.un, h.g.old⟩, ?_, ?_, ?_⟩
  · have e1 : bv (mkl e.m (e.n + (i + 1))) = bv (mkl e.m (e.n + i)) ++ [.int .u8 ((atv e.m (e.n + i) : Nat) : Int)] := by
      rw [← Nat.add_assoc, mkl_snoc, bv_app]; rfl
    rw [e1]
    exact ho
  · intro q hq
    rcases hat with h1 | h1
    · exact h.gb q (by rw [← h1]; exact hq)
    · rw [h1] at hq; injection hq with hq; exact .inr (by have := h.g.kp.size; omega)
  · intro x hx q hq hg
    rcases hat with h1 | h1
    · have := h.share x hx q hq (by rw [← h1]; exact hg)
      exact ⟨this.1, by omega⟩
    · rw [h1] at hg
      injection hg with hg
      have := (own_back (h.g.core.he x hx) q hq).2
      omega

/-- What has come of it is kept too. -/
theorem Inn.push {w : World} {vb vo : Value} {es : List Ent} {k : Nat} {e : Ent} {i : Nat} {gv : Value} (h : Inn w0 base B vb0 vo0 es0 a t d u w vb vo es k e i gv) (he : es0[k]? = some e) {w6 : World} {vb6 vo6 : Value}
    (hc : BookC w6 base B vb6 vo6 (es ++ [⟨gv, e.n + i, e.m⟩]) a t d u) (hk : Kp (fun q => q = B ∨ vb.ownBlock = some q ∨ vo.ownBlock = some q) w w6)
    (hb : ∀ q, vb6.ownBlock = some q → vb.ownBlock = some q ∨ w0.heap.size ≤ q) (ho : ∀ q, vo6.ownBlock = some q → vo.ownBlock = some q ∨ w0.heap.size ≤ q) :
    Inn w0 base B vb0 vo0 es0 a t d u w6 vb6 vo6 (es ++ [⟨gv, e.n + i, e.m⟩]) k e i gv := by
  have hfe : ∀ q, e.val.ownBlock = some q → Foot B vb0 vo0 es0 q := fun q hq => .inr (.inr (.inr ⟨e, List.mem_of_getElem? he, hq⟩))
  have hkp2 : Kp (Foot B vb0 vo0 es0) w0 w6 := h.g.kp.trans hk (fun q hq hg => by
    have hf : Foot B vb vo es q := by
      rcases hg with h1 | h1 | h1
      · exact .inl h1
      · exact .inr (.inl h1)
      · exact .inr (.inr (.inl h1))
    rcases h.g.foot q hf with h1 | h1
    · exact h1
    · omega)
  refine ⟨⟨hc, ?_, hkp2, ?_, ?_, h.g.old⟩, ?_, h.gb, ?_⟩
  · intro j ej hj
    have := h.g.pre j ej hj
    rw [List.getElem?_append_left (List.getElem?_eq_some_iff.1 this).1]
    exact this
  · intro q hq
    rcases hq with hq | hq | hq | ⟨x, hx, hq⟩
    · exact h.g.foot q (.inl hq)
    · rcases hb q hq with h1 | h1
      · exact h.g.foot q (.inr (.inl h1))
      · exact .inr h1
    · rcases ho q hq with h1 | h1
      · exact h.g.foot q (.inr (.inr (.inl h1)))
      · exact .inr h1
    · rcases List.mem_append.1 hx with hx | hx
      · exact h.g.foot q (.inr (.inr (.inr ⟨x, hx, hq⟩)))
      · rw [List.mem_singleton.1 hx] at hq
        rcases h.gb q hq with h1 | h1
        · exact .inl (hfe q h1)
        · exact .inr h1
  · intro j ej hkj hj i' ei hi hij q hq
    rcases snoc_get hi with ⟨_, hi⟩ | ⟨_, hi⟩
    · exact h.g.un j ej hkj hj i' ei hi hij q hq
    · subst hi
      intro hq'
      rcases h.gb q hq with h1 | h1
      · exact h.g.un j ej hkj hj k e (h.g.pre k e he) (by omega) q h1 hq'
      · have := h.g.old j ej hj q hq'
        omega
  · have := hc.he ⟨gv, e.n + i, e.m⟩ (by simp)
    exact this
  · intro x hx q hq hg
    rcases List.mem_append.1 hx with hx | hx
    · exact h.share x hx q hq hg
    · rw [List.mem_singleton.1 hx]; exact ⟨rfl, Nat.le_refl _⟩
end
end
end Go.Proofs.YtidglddjinfncaaGreatDoor

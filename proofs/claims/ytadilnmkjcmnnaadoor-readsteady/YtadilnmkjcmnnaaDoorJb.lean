import Derived.Test.YtadilnmkjcmnnaaDoorJa
import Derived.StillTail
import Derived.Laws.CopyOwn
import Derived.Lib.SliceRun
import Derived.ProofKit
import Derived.OpenShut
import Derived.SizedLaws
import Derived.Deep.Matrix
import Derived.Lib.SmallJoins
import Derived.Lib.ConvBytes
import Derived.Laws.AppendOwn
import Derived.Laws.CopyRow
import Derived.Laws.ResultCell
import Derived.Deep.QuietTactic
import Derived.Laws.StructEq
import Derived.SliceStrings
namespace Go.Proofs.YtadilnmkjcmnnaaDoor
section
open Go.RowKit Go
section
variable {P : Program} {ops : Array Oper} {md : Region.Mode} {C : World → Prop}

/-- The first operations of a region, in whatever order, all of them quiet in a class of worlds; behind them L. -/
def hdQ (P : Program) (md : Region.Mode) (ops : Array Oper) (C : World → Prop) (n : Nat) (L : Array Bool → Act → Prop) : Nat → Array Bool → Act → Prop
  | 0, s, a => L s a
  | f + 1, s, a => Region.ready md ops s ≠ [] ∧ ∀ i ∈ Region.ready md ops s, i < n ∧ qOp P ops C i (hdQ P md ops C n L f (s.setIfInBounds i true)) a

theorem hdQ_any {n g : Nat} {L : Array Bool → Act → Prop} {Q : Exit → Act → World → Prop} (hL : ∀ s a w, C w → L s a → wpAny P md ops Q g s a w) : ∀ (f : Nat) (s : Array Bool) (a : Act) (w : World), C w → hdQ P md ops C n L f s a → wpAny P md ops Q (f + g) s a w := by
  intro f
  induction f with
  | zero => intro s a w hw h; rw [Nat.zero_add]; exact hL s a w hw h
  | succ f ih =>
    intro s a w hw h
    have e : f + 1 + g = (f + g) + 1 := by omega
    rw [e]
    exact ⟨fun h0 => absurd h0 h.1, fun i hi => wpOp_of_qOp hw (fun a' w' hw' h' => ih _ a' w' hw' h') (h.2 i hi).2⟩

theorem hdQ_first {n i : Nat} {oi : Oper} {v : Value} {L : Array Bool → Act → Prop} (hi : ops[i]? = some oi) (hsel : ∀ (j : Nat) (o : Oper) cs b, ops[j]? = some o → o.op ≠ .select cs b)
    (hs : Region.sinkB md ops n = true) (hc : Region.chainB md ops n = true) (hn : n < ops.size) (hin : i < n) (hd : ∀ s a, L s a → ∀ j ∈ Region.ready md ops s, n ≤ j)
    (f : Nat) : ∀ (s : Array Bool) (a : Act), HeadInv md ops n s →
      (∀ j oj, ops[j]? = some oj → j ≠ i → s.getD j true = false → (∀ e ∈ oj.after, Region.binds md e = true → e.on ≠ i) → oi.apart ops oj = true) →
      i ∈ Region.ready md ops s → YieldsIn P ops C oi v a → hdQ P md ops C n L f (s.setIfInBounds i true) (a.put oi.dst v) → hdQ P md ops C n L (f + 1) s a := by
  have low : ∀ s, HeadInv md ops n s → i ∈ Region.ready md ops s → ∀ j ∈ Region.ready md ops s, j < n := fun s inv hr j hj => by
    by_cases h : j < n
    · exact h
    · exact absurd hj (tail_waits hs hc hn inv _ i rfl hin (mem_ready.1 hr).1 j (by omega))
  have some_ready : ∀ s : Array Bool, i ∈ Region.ready md ops s → Region.ready md ops s ≠ [] := fun s hr h => by rw [h] at hr; cases hr
  induction f with
  | zero =>
    intro s a inv _ hr hy H
    refine ⟨some_ready s hr, fun j hj => ⟨low s inv hr j hj, ?_⟩⟩
    by_cases e : j = i
    · subst e; exact hy.qOp hi H
    · have := hd _ _ H j (ready_mono hj e)
      have := low s inv hr j hj
      omega
  | succ f ih =>
    intro s a inv hf hr hy H
    refine ⟨some_ready s hr, fun j hj => ⟨low s inv hr j hj, ?_⟩⟩
    by_cases e : j = i
    · subst e; exact hy.qOp hi H
    · obtain ⟨hju, oj, hoj, hall⟩ := mem_ready.1 hj
      have hun := getD_both (mem_ready.1 hr).1
      have hfj := hf j oj hoj e hju (fun d hd' hb he => by
        have h := hall d hd' hb
        rw [he, hun] at h
        cases h)
      have h2 := qOp_put hoj hfj (fun cs b => hsel i oi cs b hi) (fun cs b => hsel j oj cs b hoj) hy (H.2 j (ready_mono hj e)).2
      refine qOp_mono (fun a' h3 => ih (s.setIfInBounds j true) a' (inv.set hj (low s inv hr j hj)) (fun k ok hk hki hku hno => hf k ok hk hki ?_ hno) (ready_mono hr (Ne.symm e)) h3.1 ?_) h2
      · by_cases ejk : j = k
        · subst ejk; exact hju
        · rw [getD_set_ne true ejk] at hku; exact hku
      · rw [Array.setIfInBounds_comm _ _ e]
        exact h3.2

theorem hdQ_lex {n g : Nat} {Lq : Act → Prop} (hsel : Region.noSelect ops = true) (hs : Region.sinkB md ops n = true) (hc : Region.chainB md ops n = true) (hn : n < ops.size) (l : List Oper) :
    ∀ (k : Nat) (s : Array Bool) (a : Act), (∀ j, j < l.length → l[j]? = ops[k + j]?) → k + l.length = n → HeadInv md ops n s → Region.lexHead md ops g l.length k s = true → wpQuiet P ops C Lq l a →
      hdQ P md ops C n (fun s' a' => Region.seqB md ops g n s' = true ∧ Lq a') l.length s a := by
  induction l with
  | nil =>
    intro k s a _ hk _ hB h
    obtain rfl : k = n := by simpa using hk
    exact ⟨by simpa [Region.lexHead] using hB, h⟩
  | cons o l ih =>
    intro k s a hl hk inv hB h
    have h0 : ops[k]? = some o := by simpa using (hl 0 (by simp)).symm
    simp only [List.length_cons] at hk
    simp only [List.length_cons, Region.lexHead, Bool.and_eq_true] at hB
    have hr : k ∈ Region.ready md ops s := by simpa using hB.1.1
    have hq : qOp P ops C k (wpQuiet P ops C Lq l) a := by unfold qOp; simp only [h0]; exact h
    obtain ⟨v, hy, hK⟩ := yieldsIn_of_qOp h0 hq
    refine hdQ_first h0 (Region.noSelect_spec hsel) hs hc hn (by omega) (fun s' a' hL => seqB_ready hL.1) l.length s a inv (Region.free_spec h0 hB.1.2) hr hy (ih (k + 1) _ _ (fun j hj => ?_) (by omega) (inv.set hr (by omega)) hB.2 hK)
    have := hl (j + 1) (by simp; omega)
    simpa [Nat.add_assoc, Nat.add_comm 1 j] using this

/-- A region that draws its order: the first n operations quiet in a class of worlds, the rest in their own order behind them. -/
theorem wp_region_quiet_tail {id : Nat} {Q : Exit → Act → World → Prop} {a : Act} {w : World} {l : List Oper} (n : Nat) (hm : P.follows .mixedOrders = true) (hB : Region.lexTailB .any l.toArray n = true) (hC : C w.drew)
    (h : wpQuiet P l.toArray C (fun a' => ∀ w', C w' → wpList P l.toArray Q (l.drop n) a' w') (l.take n) a) : (Code.region id l.toArray true).wp P Q a w := by
  simp only [Region.lexTailB, Bool.and_eq_true, decide_eq_true_eq] at hB
  obtain ⟨⟨⟨⟨hsel, hn⟩, hs⟩, hc⟩, hlex⟩ := hB
  have hn' : n < l.length := by simpa using hn
  have ht : (l.take n).length = n := by simp; omega
  have hd : (l.drop n).length = l.toArray.size - n := by simp
  have inv : HeadInv .any l.toArray n (Array.replicate l.toArray.size false) :=
    ⟨by simp, fun j oj _ hl => absurd hl (by rw [getD_replicate_false]; decide), fun t _ ht => getD_in (by simpa using ht) (getD_replicate_false _ _)⟩
  have H := hdQ_lex (C := C) (md := .any) (g := l.toArray.size - n) hsel hs hc hn (l.take n) 0 _ a (fun j hj => by
    have : j < n := by omega
    simp [this]) (by simpa using ht) inv (by rw [ht]; exact hlex) h
  refine wp_region_any hm ?_
  have R := hdQ_any (Q := Q) (g := l.toArray.size - n) (fun s a' w' hw' hL => by
    have := wpAny_of_seq (md := .any) (Q' := Q) (l.drop n) n s a' w' (fun j => by simp [List.getElem?_drop]) (by rw [hd]; exact hL.1) (hL.2 w' hw')
    rwa [hd] at this) _ _ _ w.drew hC H
  have e : n + (l.toArray.size - n) = l.toArray.size := by simp; omega
  rw [ht, e] at R
  exact R
end

/-- The same, where the first n operations read, and their callees read or make memory. -/
theorem region_ext_tail {id : Nat} {Q : Exit → Act → World → Prop} {a : Act} {w : World} {l : List Oper} (n : Nat) (hm : Tryd.prog.follows .mixedOrders = true) (hB : Region.lexTailB .any l.toArray n = true)
    (h : wpQuiet Tryd.prog l.toArray (fun w' => ∃ t : Ext w, w' = t.w') (fun a' => ∀ w', (∃ t : Ext w, w' = t.w') → wpList Tryd.prog l.toArray Q (l.drop n) a' w') (l.take n) a) : (Code.region id l.toArray true).wp Tryd.prog Q a w :=
  wp_region_quiet_tail (C := fun w' => ∃ t : Ext w, w' = t.w') n hm hB ⟨⟨w.drew, (Below.refl _ _).drew⟩, rfl⟩ h
end
section
open Go.RowKit Go
/-! ### Parts of a block: by value, copied, cleared -/
theorem addr_add (g o j : Nat) : (⟨g, o, none⟩ : Addr).add j = ⟨g, o + j, none⟩ := by unfold Addr.add; split <;> simp_all
theorem part_load {w : World} {T e : TypeId} {n : Nat} (g off : Nat) (cs : List Value) (hu : Tryd.prog.underlying T = some (.array n e)) (hi : (Tryd.prog.info? T).map (·.size) = some cs.length) (hc : ∀ j v, cs[j]? = some v → w.cell? ⟨g, off + j, none⟩ = some v) :
    (Instr.loadAt T (.pointer (some ⟨g, off, none⟩))).run Tryd.prog w = .ok (.agg cs.toArray) w := by
  have hl := run_loadCells_list (P := Tryd.prog) (w := w) ⟨g, off, none⟩ cs (fun j v hv => by rw [addr_add]; exact hc j v hv)
  simp only [Instr.loadAt, Instr.sureAddr, Sem.run_bind, Sem.run_pure, Result.andThen]
  cases hq : Tryd.prog.info? T with
  | none => simp [hq] at hi
  | some i =>
    have hs : i.size = cs.length := by simpa [hq] using hi
    have ha : (isAgg T).run Tryd.prog w = .ok true w := by
      unfold isAgg
      rw [Sem.run_bind, run_underlying hu w]
      simp
    simp [loadVar, ha, sizeOf, typeInfo, hq, hs, hl]
theorem part_store {w : World} {T t : TypeId} (g off : Nat) (cur cs : List Value) (hg : w.heap[g]? = some (.cells cur.toArray t (0, 0))) (hi : (Tryd.prog.info? T).map (·.size) = some cs.length) (hf : off + cs.length ≤ cur.length) (h1 : ∀ v ∈ cs, v.oneCell' = true) :
    (Instr.storeAt T (.pointer (some ⟨g, off, none⟩)) (.agg cs.toArray)).run Tryd.prog w = .ok () (w.setRow g (splice cur off cs).toArray) := by
  have hst := run_storeCells_at (P := Tryd.prog) g off t cs 0 cur.toArray w hg (by simpa using hf) h1
  simp only [Nat.add_zero, List.append_assoc] at hst
  simp only [Instr.storeAt, Instr.sureAddr, Sem.run_bind, Sem.run_pure, Result.andThen]
  cases hq : Tryd.prog.info? T with
  | none => simp [hq] at hi
  | some i =>
    have hs : cs.length = i.size := by simp [hq] at hi; omega
    simp [storeVar, sizeOf, typeInfo, hq, Value.cells, hs, hst, splice]
/-- A part of a block by value, as a step of a region that draws. -/
theorem qstep_load {C : World → Prop} {ops : Array Oper} {o : Oper} {a : Act} {K : Act → Prop} {T e : TypeId} {n : Nat} {p : Operand} (hgd : o.guard = none) (ho : o.op = .load T p) (g off : Nat) (cs : List Value)
    (hp : a.eval p = .pointer (some ⟨g, off, none⟩)) (hu : Tryd.prog.underlying T = some (.array n e)) (hi : (Tryd.prog.info? T).map (·.size) = some cs.length) (hc : ∀ w, C w → ∀ j v, cs[j]? = some v → w.cell? ⟨g, off + j, none⟩ = some v)
    (h : K (a.put o.dst (.agg cs.toArray))) : if Region.wanted o (yielded ops a.tmps) = true then o.quiet Tryd.prog a C K else K (a.put o.dst undef) := by
  have hw : Region.wanted o (yielded ops a.tmps) = true := by simp [Region.wanted, hgd]
  rw [if_pos hw]
  refine ⟨.agg cs.toArray, fun w hC => ?_, h⟩
  unfold Oper.quietAt execOp
  simp only [ho, Sem.run_bind, hp, part_load g off cs hu hi (hc w hC), Result.andThen_ok]
  exact ⟨rfl, rfl⟩
theorem wpList_storePart {ops : Array Oper} {rest : List Oper} {o : Oper} {a : Act} {Q : Exit → Act → World → Prop} {w : World} {T : TypeId} {p x : Operand} (hgd : o.guard = none) (ho : o.op = .store T p x) (g off : Nat) (cur cs : List Value) (t : TypeId)
    (hp : a.eval p = .pointer (some ⟨g, off, none⟩)) (hx : a.eval x = .agg cs.toArray) (hg : w.heap[g]? = some (.cells cur.toArray t (0, 0))) (hi : (Tryd.prog.info? T).map (·.size) = some cs.length) (hf : off + cs.length ≤ cur.length) (h1 : ∀ v ∈ cs, v.oneCell' = true)
    (h : ∀ w', Hid (w'.heap[g]? = some (.cells (splice cur off cs).toArray t (0, 0))) → Hid (Kp (fun q => q = g) w w') → wpList Tryd.prog ops Q rest (a.put o.dst undef) w') : wpList Tryd.prog ops Q (o :: rest) a w := by
  refine wpList_plain hgd fun K hK => ?_
  unfold Oper.wp execOp
  simp only [ho, Sem.run_bind, hp, hx, part_store g off cur cs hg hi hf h1, Result.andThen_ok]
  exact hK _ _ (h _ (row_same hg) (row_kp _ _ _))
theorem wpList_copyPart {ops : Array Oper} {rest : List Oper} {o : Oper} {a : Act} {Q : Exit → Act → World → Prop} {w : World} (hgd : o.guard = none) (d s : Operand)
    (ho : o.op = .call { callee := .builtin .copy, args := #[d, s], argTypes := #[22, 22] }) (g off dLen dCap : Nat) (hd : a.eval d = .slice (some ⟨g, off, none⟩) dLen dCap) (xs : List Nat) (v : Value) (hs : a.eval s = v) (hb : BSl w v xs)
    (cur : List Value) (t : TypeId) (hg : w.heap[g]? = some (.cells cur.toArray t (0, 0))) (ys : List Nat) (k : Nat) (hk : ys.length = k) (hy : ys = xs.take dLen) (hf : off + ys.length ≤ cur.length)
    (h : ∀ w', Hid (w'.heap[g]? = some (.cells (splice cur off (bv ys)).toArray t (0, 0))) → Hid (Kp (fun q => q = g) w w') → wpList Tryd.prog ops Q rest (a.put o.dst (.int .i64 (k : Nat))) w') : wpList Tryd.prog ops Q (o :: rest) a w := by
  subst hk
  obtain ⟨⟨a', cap, rfl, hn, hc⟩, hmax, hby⟩ := hb
  have hsz : (Tryd.prog.info? 5).map (·.size) = some 1 := by
    have h5 := Tryd.info5
    cases hq : Tryd.prog.info? 5 with
    | none => simp [hq] at h5
    | some i => simp [hq] at h5 ⊢; exact h5.2.1
  have hl : ys.length = Nat.min xs.length dLen := by subst hy; simp [Nat.min_comm]
  by_cases h0 : ys.length = 0
  · refine wpList_copy_nothing hgd d s _ _ ho 5 Tryd.underlying22 hsz _ _ _ _ _ _ hd hs (by omega) ?_
    have e0 : ys = [] := List.eq_nil_of_length_eq_zero h0
    have h2 := h w (by show _ = _; subst e0; simpa [splice, bv] using hg) (Kp.refl _ _)
    rw [h0] at h2
    exact h2
  · rcases hc with hc | ⟨b, o', rfl, hc⟩
    · subst hc; subst hy; simp at h0
    have hlb : (bv ys).length = ys.length := bv_len ys
    refine wpList_copy_own hgd d s _ _ ho 5 Tryd.underlying22 hsz g off dLen dCap ⟨b, o', none⟩ _ _ hd hs cur.toArray t hg (bv ys) (by rw [hlb]; exact hl) (fun j v hv => ?_) (by rw [hlb]; simpa using hf) (bv_one ys) ?_
    · have hj : j < ys.length := by
        rw [← hlb]
        exact (List.getElem?_eq_some_iff.1 hv).1
      rw [bv_get hj] at hv
      have e : ys.getD j 0 = xs.getD j 0 := by
        subst hy
        simp only [List.getD_eq_getElem?_getD, List.getElem?_take]
        rw [if_pos (by simp at hj; omega)]
      rw [addr_add, hc j (by have := Nat.min_le_left xs.length dLen; have : ys.length ≤ xs.length := by rw [hl]; exact this
                             omega), ← e]
      exact hv
    · have h2 := h (w.setRow g (splice cur off (bv ys)).toArray) (row_same hg) (row_kp _ _ _)
      simpa [splice, hlb, goInt] using h2
theorem wpList_clearPart {ops : Array Oper} {rest : List Oper} {o : Oper} {a : Act} {Q : Exit → Act → World → Prop} {w : World} (hgd : o.guard = none) (s : Operand)
    (ho : o.op = .call { callee := .builtin .clear, args := #[s], argTypes := #[22] }) (g off n c : Nat) (hs : a.eval s = .slice (some ⟨g, off, none⟩) n c) (hn : 0 < n)
    (cur : List Value) (t : TypeId) (hg : w.heap[g]? = some (.cells cur.toArray t (0, 0))) (hf : off + n ≤ cur.length)
    (h : ∀ w', Hid (w'.heap[g]? = some (.cells (splice cur off (bv (List.replicate n 0))).toArray t (0, 0))) → Hid (Kp (fun q => q = g) w w') → wpList Tryd.prog ops Q rest (a.put o.dst (.tuple #[])) w') : wpList Tryd.prog ops Q (o :: rest) a w := by
  refine wpList_plain hgd fun K hK => ?_
  have hz : (∀ w, (zeroValue 5).run Tryd.prog w = .ok (.int .u8 0) w) := by
    have h5 := Tryd.info5
    intro w
    cases hq : Tryd.prog.info? 5 with
    | none => simp [hq] at h5
    | some i => simp [hq] at h5; simp [zeroValue, typeInfo, hq, h5.1]
  have hst := run_storeCells_at (P := Tryd.prog) g off t (bv (List.replicate n 0)) 0 cur.toArray w hg (by simpa [bv_len] using hf) (bv_one _)
  simp only [Nat.add_zero, List.append_assoc] at hst
  have hzc : (Builtin.zeroCells (Value.int .u8 0).cells n).toList = bv (List.replicate n 0) := by
    simp [Builtin.zeroCells, Value.cells, bv]
    apply List.ext_getElem
    · simp
    · intro i h1 h2
      simp [Nat.mod_one]
  have hrun : (Builtin.clear_ #[22] o.type #[.slice (some ⟨g, off, none⟩) n c]).run Tryd.prog w = .ok (.tuple #[]) (w.setRow g (splice cur off (bv (List.replicate n 0))).toArray) := by
    obtain ⟨m, rfl⟩ : ∃ m, n = m + 1 := ⟨n - 1, by omega⟩
    simp [Builtin.clear_, run_underlying Tryd.underlying22, hz, hzc, hst, splice]
  unfold Oper.wp
  simp [execOp, ho, resolve, invoke, builtin, hs, hrun, Result.andThen]
  exact hK _ _ (h _ (row_same hg) (row_kp _ _ _))
end
section
open Go.RowKit Go
/-! ### The state over pieces -/
theorem wrd_take (l : List Nat) (p : Nat) (q : Nat) (h : q + 4 ≤ 64) : wrd ((l.drop p).take 64) q = wrd l (p + q) := by
  unfold wrd
  have g : ∀ j, j < 64 → ((l.drop p).take 64).getD j 0 = l.getD (p + j) 0 := by
    intro j hj
    simp [List.getD, hj]
  rw [g q (by omega), g (q + 1) (by omega), g (q + 2) (by omega), g (q + 3) (by omega)]
  rfl
theorem wl_take (l : List Nat) (p : Nat) : ∀ n, wl ((l.drop p).take 64) 0 n = wl l p n
  | 0 => rfl
  | n + 1 => by
    rw [wl, wl, wl_take l p n]
    by_cases h : n < 16
    · rw [if_pos h, if_pos h, Nat.zero_add, wrd_take l p (4 * n) (by omega)]
    · rw [if_neg h, if_neg h]
theorem rl_take (l : List Nat) (p : Nat) (s : List Nat) : ∀ n, rl ((l.drop p).take 64) 0 s n = rl l p s n
  | 0 => rfl
  | n + 1 => by rw [rl, rl, rl_take l p s n, wl_take]
theorem cmp_take (l : List Nat) (p : Nat) (s : List Nat) : cmp ((l.drop p).take 64) 0 s = cmp l p s := by
  unfold cmp
  rw [rl_take]
theorem abs_app (xs ys s : List Nat) : ∀ n, 64 * n ≤ xs.length → abs (xs ++ ys) s n = abs xs s n
  | 0, _ => rfl
  | n + 1, h => by
    rw [abs, abs, abs_app xs ys s n (by omega), ← cmp_take, ← cmp_take xs]
    congr 1
    rw [List.drop_append_of_le_length (by omega), List.take_append_of_le_length (by simp; omega)]
/-! ### The cells of a hash, by parts -/
theorem hc_rest {s r : List Nat} {c off : Nat} {ys : List Nat} (hs : s.length = 8) (hr : off + ys.length ≤ r.length) : splice (hc s r c) (8 + off) (bv ys) = hc s (splice r off ys) c := by
  have e8 : (wv s).length = 8 := by rw [wv_len, hs]
  have eb : (bv r).length = r.length := bv_len r
  have ey : (bv ys).length = ys.length := bv_len ys
  unfold splice hc
  rw [List.take_append, List.drop_append, e8, ey]
  have a1 : (wv s).take (8 + off) = wv s := List.take_of_length_le (by omega)
  have a2 : (wv s).drop (8 + off + ys.length) = [] := List.drop_eq_nil_of_le (by omega)
  have a3 : 8 + off - 8 = off := by omega
  have a4 : 8 + off + ys.length - 8 = off + ys.length := by omega
  rw [a1, a2, a3, a4, List.take_append_of_le_length (by omega), List.drop_append_of_le_length (by omega)]
  simp [bv, List.map_take, List.map_drop]
theorem hc_state {s s' r : List Nat} {c : Nat} (hs : s.length = 8) (hs' : s'.length = 8) : splice (hc s r c) 0 (wv s') = hc s' r c := by
  have e8 : (wv s).length = 8 := by rw [wv_len, hs]
  have e9 : (wv s').length = 8 := by rw [wv_len, hs']
  unfold splice hc
  rw [e9, List.take_zero, List.nil_append, List.drop_append, e8]
  have a2 : (wv s).drop (0 + 8) = [] := List.drop_eq_nil_of_le (by omega)
  rw [a2]
  simp
theorem hc_count {s r : List Nat} {c c' : Nat} (hs : s.length = 8) (hr : r.length = 64) : (hc s r c).toArray.setIfInBounds 72 (.int .u64 ((c' : Nat) : Int)) = (hc s r c').toArray := by
  have e8 : (wv s).length = 8 := by rw [wv_len, hs]
  have e6 : (bv r).length = 64 := by rw [bv_len, hr]
  unfold hc
  rw [List.setIfInBounds_toArray, List.set_append_right _ _ (by omega), List.set_append_right _ _ (by omega), e8, e6]
  rfl
theorem hc_getc {s r : List Nat} {c : Nat} (hs : s.length = 8) (hr : r.length = 64) : (hc s r c).toArray[72]? = some (.int .u64 ((c : Nat) : Int)) := by
  have e8 : (wv s).length = 8 := by rw [wv_len, hs]
  have e6 : (bv r).length = 64 := by rw [bv_len, hr]
  unfold hc
  rw [List.getElem?_toArray, List.getElem?_append_right (by omega), List.getElem?_append_right (by omega), e8, e6]
  rfl
theorem hc_gets {s r : List Nat} {c j : Nat} {v : Value} (h : (wv s)[j]? = some v) : (hc s r c).toArray[j]? = some v := by
  have hj := (List.getElem?_eq_some_iff.1 h).1
  unfold hc
  rw [List.getElem?_toArray, List.getElem?_append_left hj]
  exact h
theorem hc_getr {s r : List Nat} {c j : Nat} (hs : s.length = 8) (hj : j < r.length) : (hc s r c).toArray[8 + j]? = some (.int .u8 ((r.getD j 0 : Nat) : Int)) := by
  have e8 : (wv s).length = 8 := by rw [wv_len, hs]
  unfold hc
  rw [List.getElem?_toArray, List.getElem?_append_right (by omega), e8, List.getElem?_append_left (by rw [bv_len]; omega)]
  have e : 8 + j - 8 = j := by omega
  rw [e]
  exact bv_get hj
/-- The part of a hash's block that holds bytes, as a slice. -/
theorem bsl_rest {w : World} {g : Nat} {s r : List Nat} {c : Nat} {t : TypeId} (h : w.heap[g]? = some (.cells (hc s r c).toArray t (0, 0))) (hs : s.length = 8) (hr : r.length = 64) (hb : ∀ x ∈ r, x < 256) : BSl w (.slice (some ⟨g, 8, none⟩) 64 64) r := by
  refine ⟨⟨_, 64, by rw [hr], ⟨by omega, fun h => by cases h⟩, .inr ⟨g, 8, rfl, fun j hj => ?_⟩⟩, by omega, hb⟩
  exact blk_cell h (hc_getr hs hj)
end
section
open Go.RowKit Go
theorem tl_byte {xs : List Nat} (h : ∀ x ∈ xs, x < 256) : ∀ x ∈ tl xs, x < 256 := fun x hx => h x (List.mem_of_mem_drop hx)
theorem fillz_byte {xs : List Nat} (h : ∀ x ∈ xs, x < 256) : ∀ x ∈ fillz xs, x < 256 := fun x hx => by
  rcases List.mem_append.1 hx with hx | hx
  · exact h x hx
  · rw [List.eq_of_mem_replicate hx]; decide
theorem bsl_nil (w : World) (p : Addr) (c : Nat) : BSl w (.slice (some p) 0 c) [] := ⟨⟨_, c, rfl, ⟨Nat.zero_le _, fun h => by cases h⟩, .inl rfl⟩, by simp, by simp⟩
theorem Kp.bsl0 {S : Nat → Prop} {w w' : World} (h : Kp S w w') {v : Value} {xs : List Nat} (hb : BSl w v xs) (hs : xs ≠ [] → ∀ k, v.ownBlock = some k → ¬ S k) : BSl w' v xs := by
  by_cases h0 : xs = []
  · subst h0
    obtain ⟨⟨a, cap, rfl, hn, _⟩, hmax, hy⟩ := hb
    exact ⟨⟨a, cap, rfl, hn, .inl rfl⟩, hmax, hy⟩
  · exact h.bsl hb (hs h0)
theorem drop_ne {l : List Nat} {a b : Nat} (hab : a ≤ b) (h : l.drop b ≠ []) : l.drop a ≠ [] := fun e => h (by
  have := List.drop_eq_nil_iff.1 e
  exact List.drop_eq_nil_of_le (by omega))
theorem fillz_splice (l ys : List Nat) (H : Nat) (h : l.length = H) (hf : H + ys.length ≤ 64) : fillz (l ++ ys) = splice (fillz l) H ys := by
  subst h
  unfold fillz splice
  rw [List.take_left' rfl, List.drop_append, List.drop_eq_nil_of_le (by omega), List.nil_append, List.drop_replicate, List.append_assoc]
  have e : 64 - (l ++ ys).length = 64 - l.length - (l.length + ys.length - l.length) := by simp; omega
  rw [e]
theorem fillz_full (l ys : List Nat) (H : Nat) (h : l.length = H) (hf : H + ys.length = 64) : splice (fillz l) H ys = l ++ ys := by
  rw [← fillz_splice l ys H h (by omega)]
  unfold fillz
  have e : 64 - (l ++ ys).length = 0 := by simp; omega
  rw [e]
  simp

theorem fillz_end (R T : List Nat) (L : Nat) (hT : T.length = L) (hR : R.length = 64) (hL : L ≤ 64) : splice (splice R 0 T) L (List.replicate (64 - L) 0) = fillz T := by
  subst hT
  unfold splice fillz
  simp only [List.take_zero, List.nil_append, List.length_replicate, List.take_left' rfl]
  rw [List.drop_eq_nil_of_le (by simp; omega)]
  simp
end
section
open Go.RowKit Go
theorem wpList_loadAll {ops : Array Oper} {rest : List Oper} {o : Oper} {a : Act} {Q : Exit → Act → World → Prop} {w : World} {T : TypeId} {p : Operand} (hgd : o.guard = none) (ho : o.op = .load T p) (g : Nat) (cs : Array Value) (t : TypeId) {fs : Array Field}
    (hp : a.eval p = .pointer (some ⟨g, 0, none⟩)) (hg : w.heap[g]? = some (.cells cs t (0, 0))) (hu : Tryd.prog.underlying T = some (.struct fs)) (hi : (Tryd.prog.info? T).map (·.size) = some cs.size)
    (h : wpList Tryd.prog ops Q rest (a.put o.dst (.agg cs)) w) : wpList Tryd.prog ops Q (o :: rest) a w := by
  refine wpList_plain hgd fun K hK => ?_
  unfold Oper.wp execOp
  have hr : (Instr.loadAt T (.pointer (some ⟨g, 0, none⟩))).run Tryd.prog w = .ok (.agg cs) w := by
    simp only [Instr.loadAt, Instr.sureAddr, Sem.run_bind, Sem.run_pure, Result.andThen]
    exact run_loadVar_row (P := Tryd.prog) w g t T cs (0, 0) _ hg hu rfl hi
  simp only [ho, Sem.run_bind, hp, hr, Result.andThen_ok]
  exact hK _ _ h
theorem wpList_loadPart {ops : Array Oper} {rest : List Oper} {o : Oper} {a : Act} {Q : Exit → Act → World → Prop} {w : World} {T e : TypeId} {n : Nat} {p : Operand} (hgd : o.guard = none) (ho : o.op = .load T p) (g off : Nat) (cs : List Value)
    (hp : a.eval p = .pointer (some ⟨g, off, none⟩)) (hu : Tryd.prog.underlying T = some (.array n e)) (hi : (Tryd.prog.info? T).map (·.size) = some cs.length) (hc : ∀ j v, cs[j]? = some v → w.cell? ⟨g, off + j, none⟩ = some v)
    (h : wpList Tryd.prog ops Q rest (a.put o.dst (.agg cs.toArray)) w) : wpList Tryd.prog ops Q (o :: rest) a w := by
  refine wpList_plain hgd fun K hK => ?_
  unfold Oper.wp execOp
  simp only [ho, Sem.run_bind, hp, part_load g off cs hu hi hc, Result.andThen_ok]
  exact hK _ _ h
theorem alloc2_new (w : World) (o1 o2 : Obj) : ((w.alloc o1).alloc o2).heap[w.heap.size + 1]? = some o2 := by
  have h := heap_alloc_new (w.alloc o1) o2
  have e : (w.alloc o1).heap.size = w.heap.size + 1 := by simp
  rwa [e] at h
theorem endg_byte (n : Nat) : ∀ x ∈ endg n, x < 256 := by
  intro x hx
  unfold endg at hx
  rcases List.mem_append.1 hx with hx | hx
  · rcases List.mem_append.1 hx with hx | hx
    · simp at hx; omega
    · rw [List.eq_of_mem_replicate hx]; decide
  · exact beb_byte _ _ _ hx
theorem endg_len (n : Nat) : (endg n).length ≤ 73 := by
  unfold endg
  have := zer_lt n
  simp [beb_len]
  omega
theorem hc_one (s r : List Nat) (c : Nat) : (hc s r c).toArray.all (·.oneCell') = true := by
  rw [Array.all_eq_true_iff_forall_mem]
  intro u hu
  have hu' : u ∈ hc s r c := by simpa using hu
  unfold hc at hu'
  rcases List.mem_append.1 hu' with h | h
  · exact wv_one _ u h
  · rcases List.mem_append.1 h with h | h
    · exact bv_one _ u h
    · simp at h; subst h; rfl
end
section
open Go.RowKit Go
theorem own_lt {w : World} {v : Value} {xs : List Nat} (h : BSl w v xs) (h0 : xs ≠ []) {k : Nat} (hk : v.ownBlock = some k) : k < w.heap.size := by
  obtain ⟨⟨a, cap, rfl, hn, hc⟩, hmax, hb⟩ := h
  rcases hc with hc | ⟨b, off, rfl, hc⟩
  · exact absurd hc h0
  · simp [Value.ownBlock] at hk
    subst hk
    have h1 := hc 0 (List.length_pos_iff.2 h0)
    by_cases hlt : b < w.heap.size
    · exact hlt
    · exfalso
      have e : w.heap[b]? = none := Array.getElem?_eq_none (by omega)
      simp [World.cell?, e] at h1
end
section
open Go.RowKit Go
set_option maxRecDepth 1000000 in
theorem clone_any (w : World) (v : Value) (xs : List Nat) (h1 : BSl w v xs) (hlen : xs.length ≤ 140737488351232) :
    Calls Tryd.prog 22 #[v] w fun e w' => ∃ v', e = .returned v' ∧ w'.ownsRow w.heap.size 5 1 v' xs.length (bv xs) ∧ Below w.heap.size w w' := by
  have H1 := hide h1
  have HL := hide hlen
  obtain ⟨⟨a, cap, rfl, hn, hc⟩, hmax, hb⟩ := h1
  have he := Lib.run_eql_slice_nil (P := Tryd.prog) w 22 5 a xs.length cap 0 0 Tryd.underlying22
  cases a with
  | none =>
    rcases hc with rfl | ⟨b, off, h, _⟩
    · simp only [List.length_nil] at he ⊢
      clear hn hb hmax
      go_enter Tryd.func22, Tryd.ntmps22
      go_wp2_with fail
      go_ret
      exact ⟨_, rfl, World.ownsRow_nil _ _ _ _, Below.refl _ _⟩
    · cases h
  | some ad =>
    clear hn hc hb hlen
    go_enter Tryd.func22, Tryd.ntmps22
    have HO : Hid ((w.alloc (.cells #[] 5)).ownsRow w.heap.size 5 1 (.slice (some ⟨w.heap.size, 0, none⟩) 0 0) 0 (bv [])) := own_make (cs := []) rfl (by unfold maxLen; decide)
    have HS := hide (H1.out.move (keep_alloc w (.cells #[] 5)))
    go_wp2_with (at_builtin; refine append_bsl rfl _ _ rfl w.heap.size _ 0 [] rfl HO.out _ xs rfl HS.out ?b1 ?b2 ?_)
    case b1 => have := HL.out; omega
    case b2 => simp
    intro v2 w2 ho2 hg2
    have hlo := fun g (h : _ = some g) => (HO.out.lt g h).1
    have HB2 : Hid (Below w.heap.size w w2) := ((Below.refl _ _).alloc (Nat.le_refl _) _).grown hg2 (by simp) (fun g hg => hlo g hg)
    have HO2 := hide ho2
    clear ho2 hg2 hlo
    go_wp2_with fail
    go_ret
    exact ⟨v2, rfl, by simpa using HO2.out, HB2.out⟩
end
section
open Go.RowKit
theorem lay_byte (m : Nat) (h : m < 9223372036854775808) : bits .or .u8 (bits .and .u64 (m : Int) 127 % 256) 128 = ((m % 128 + 128 : Nat) : Int) := by
  have h1 := u64_and_nat m 127 (by omega) (by omega)
  have h2 : m &&& 127 = m % 128 := Nat.and_two_pow_sub_one_eq_mod m 7
  rw [h2] at h1
  have h3 : bits .and .u64 (m : Int) 127 = ((m % 128 : Nat) : Int) := h1
  rw [h3]
  have e : ((m % 128 : Nat) : Int) % 256 = ((m % 128 : Nat) : Int) := by omega
  rw [e, u8_or128_right _ (by omega) (by omega)]
  omega
theorem pow_lid (f : Nat) (h : f ≤ 8) : 128 ^ (f + 1) ≤ 9223372036854775808 := by
  have h2 : 128 ^ (f + 1) ≤ 128 ^ 9 := Nat.pow_le_pow_right (by decide) (by omega)
  exact h2
theorem make9 (w : World) : (Instr.makeSlice 22 (.int .i64 0) (.int .i64 9)).run Tryd.prog w = .ok (.slice (some ⟨w.heap.size, 0, none⟩) 0 9) (w.alloc (.cells #[.int .u8 0, .int .u8 0, .int .u8 0, .int .u8 0, .int .u8 0, .int .u8 0, .int .u8 0, .int .u8 0, .int .u8 0] 5)) := by kernel_rfl
end
section
open Go.RowKit Go
/-- What fits tells. -/
def dfit (h n : Nat) : Nat := if h ≠ 18 ∧ h ≠ 0 then 30 else if (h = 18 ∧ n ≠ 32) ∨ (h = 0 ∧ 64 < n) then 31 else 0

set_option maxRecDepth 1000000 in
theorem fits_any (w : World) (h n : Nat) (hh : h < 18446744073709551616) (hn : n < 18446744073709551616) :
    Calls Tryd.prog 49 #[.int .u64 (h : Nat), .int .u64 (n : Nat)] w fun e w' => e = .returned (.int .i64 (dfit h n : Nat)) ∧ w' = w := by
  by_cases h18 : h = 18
  · subst h18
    by_cases hn32 : n = 32
    · subst hn32
      go_enter Tryd.func49, Tryd.ntmps49
      go_wp2_with fail
      go_ret
      exact ⟨rfl, rfl⟩
    · have e : dfit 18 n = 31 := by simp [dfit, hn32]
      rw [e]
      have g : ((n : Int) != 32) = true := bne_iff_ne.2 (by omega)
      go_enter Tryd.func49, Tryd.ntmps49
      go_wp2_with fail
      go_ret
      exact ⟨rfl, rfl⟩
  · by_cases h0 : h = 0
    · subst h0
      by_cases hn64 : 64 < n
      · have e : dfit 0 n = 31 := by simp [dfit, hn64]
        rw [e]
        have g : (64 : Int) < (n : Int) := by omega
        go_enter Tryd.func49, Tryd.ntmps49
        go_wp2_with fail
        go_ret
        exact ⟨rfl, rfl⟩
      · have e : dfit 0 n = 0 := by simp [dfit, hn64]
        rw [e]
        have g : ¬ (64 : Int) < (n : Int) := by omega
        go_enter Tryd.func49, Tryd.ntmps49
        go_wp2_with fail
        go_ret
        exact ⟨rfl, rfl⟩
    · have e : dfit h n = 30 := by simp [dfit, h18, h0]
      rw [e]
      have g1 : ((h : Int) != 18) = true := bne_iff_ne.2 (by omega)
      have g2 : ((h : Int) != 0) = true := bne_iff_ne.2 (by omega)
      go_enter Tryd.func49, Tryd.ntmps49
      go_wp2_with fail
      go_ret
      exact ⟨rfl, rfl⟩

set_option maxRecDepth 1000000 in
theorem number_any (w : World) (v : Value) (xs : List Nat) (hsl : BSl w v xs) :
    Calls Tryd.prog 48 #[v] w fun e w' => e = .returned (dnumR (dnum xs)) ∧ w' = w := by
  have HV := hide hsl.vread
  clear hsl
  have HE : Hid (dnum xs = if (rd 0 0 xs).2.2 = 0 then rd 0 0 xs else (0, 0, if (rd 0 0 xs).2.2 = 10 then 32 else 33)) := rfl
  generalize rd 0 0 xs = r at *
  obtain ⟨n, u, E⟩ := r
  simp only [] at HV HE
  go_enter Tryd.func48, Tryd.ntmps48
  go_wp2_with fail
  refine HV.out.mono ?_
  rintro e w' ⟨rfl, rfl⟩
  by_cases h0 : E = 0
  · subst h0
    have e : dnum xs = (n, u, 0) := by rw [HE.out, if_pos rfl]
    go_wp2_with fail
    go_ret3
    exact ⟨by rw [e]; rfl, rfl⟩
  · have g0 : ((E : Int) == 0) = false := beq_eq_false_iff_ne.2 (by omega)
    by_cases h1 : E = 10
    · subst h1
      have e : dnum xs = (0, 0, 32) := by rw [HE.out, if_neg (by omega), if_pos rfl]
      go_wp2_with fail
      go_ret3
      exact ⟨by rw [e]; rfl, rfl⟩
    · have g1 : ((E : Int) == 10) = false := beq_eq_false_iff_ne.2 (by omega)
      have e : dnum xs = (0, 0, 33) := by rw [HE.out, if_neg h0, if_neg h1]
      go_wp2_with fail
      go_ret3
      exact ⟨by rw [e]; rfl, rfl⟩
end
section
open Go.RowKit
theorem own_below {w w' : World} {B base : Nat} {e : TypeId} {size : Nat} {v : Value} {n : Nat} {xs : List Value} (h : w.ownsRow base e size v n xs) (hb : Below w.heap.size w w') (_hB : B = B) : w'.ownsRow base e size v n xs :=
  (Kp.of_below (S := fun _ => False) hb).owns h (fun _ _ hf => hf)

/-- What Lend gave, with its marks behind it. -/
structure Lnt (w : World) (base g cap : Nat) (xs : List Nat) : Prop where
  own : w.ownsRow base 5 1 (.slice (some ⟨g, 0, none⟩) (xs.length + 70) cap) (xs.length + 70) (bv (xs ++ marks))
  byte : ∀ x ∈ xs, x < 256
  len : xs.length ≤ 140737488351232

theorem Lnt.bsl {w : World} {base g cap : Nat} {xs : List Nat} (h : Lnt w base g cap xs) : BSl w (.slice (some ⟨g, 0, none⟩) xs.length cap) xs := BSl.lent h.own rfl h.byte

theorem Lnt.cap {w : World} {base g cap : Nat} {xs : List Nat} (h : Lnt w base g cap xs) : xs.length + 70 ≤ cap := by
  rcases h.own.2 with ⟨hv, _⟩ | ⟨g', cap', cur, hv, _, _, h1, _⟩
  · cases hv
  · injection hv with _ _ e; subst e; exact h1

theorem Lnt.mark {w : World} {base g cap : Nat} {xs : List Nat} (h : Lnt w base g cap xs) (i : Nat) (hi : i < 70) : w.cell? ⟨g, xs.length + i, none⟩ = some (.int .u8 (165 - (i : Int))) := by
  have hl : xs.length + i < (xs ++ marks).length := by simp [marks]; omega
  have := (own_cell h.own (j := xs.length + i) (bv_get hl)).1
  rw [this]
  have e : (xs ++ marks).getD (xs.length + i) 0 = 165 - i := by
    simp [List.getD, marks, hi]
  rw [e]
  congr 2
  omega

theorem into_set (xs ys : List Nat) (k : Nat) (hx : k < xs.length) (hy : k < ys.length) : (bv (ys.take k ++ xs.drop k ++ marks)).set k (.int .u8 ((ys.getD k 0 : Nat) : Int)) = bv (ys.take (k + 1) ++ xs.drop (k + 1) ++ marks) := by
  have e1 : ys.take k ++ xs.drop k ++ marks = ys.take k ++ (xs[k] :: (xs.drop (k + 1) ++ marks)) := by rw [List.drop_eq_getElem_cons hx, List.append_assoc, List.cons_append]
  have e2 : ys.take (k + 1) ++ xs.drop (k + 1) ++ marks = ys.take k ++ (ys[k] :: (xs.drop (k + 1) ++ marks)) := by rw [List.take_succ_eq_append_getElem hy]; simp only [List.append_assoc, List.cons_append, List.nil_append]
  have hl2 : (bv (ys.take k)).length = k := by rw [bv_len, List.length_take]; omega
  have hb : ∀ (z : Nat) (l : List Nat), bv (z :: l) = Value.int .u8 ((z : Nat) : Int) :: bv l := fun _ _ => rfl
  rw [e1, e2, bv_app, bv_app, List.set_append_right (h := by omega), hl2, Nat.sub_self, hb, hb, List.set_cons_zero]
  simp [List.getD, hy]

theorem keepG {wr w1 wi : World} {g : Nat} (hb : Below wr.heap.size wr w1) (hk : Kp (fun q => q = g) w1 wi) (hg : wr.heap.size ≤ g) : ∀ p u, wr.cell? p = some u → wi.cell? p = some u := fun p u h =>
  hk.cell (keep_below hb p u h) (by have := World.block_lt_of_cell? wr p h; omega)

theorem Lnt.kp {w w' : World} {base g cap : Nat} {xs : List Nat} {S : Nat → Prop} (h : Lnt w base g cap xs) (hk : Kp S w w') (hs : ¬ S g) : Lnt w' base g cap xs :=
  ⟨hk.owns h.own (fun q hq => by simp [Value.ownBlock] at hq; subst hq; exact hs), h.byte, h.len⟩
end
section
open Go.RowKit Go
theorem dlay_fit (h : Nat) (d : List Nat) : dlay h d = if dfit h d.length = 0 then (h :: d.length :: d, 0) else ([], dfit h d.length) := by
  unfold dlay dfit
  by_cases h1 : h ≠ 18 ∧ h ≠ 0
  · rw [if_pos h1, if_pos h1]; rfl
  · rw [if_neg h1, if_neg h1]
    by_cases h2 : (h = 18 ∧ d.length ≠ 32) ∨ (h = 0 ∧ 64 < d.length)
    · rw [if_pos h2, if_pos h2]; rfl
    · rw [if_neg h2, if_neg h2]; rfl
theorem dfit_ok {h n : Nat} (e : dfit h n = 0) : (h = 18 ∨ h = 0) ∧ n ≤ 64 := by
  unfold dfit at e
  by_cases h1 : h ≠ 18 ∧ h ≠ 0
  · rw [if_pos h1] at e; cases e
  · rw [if_neg h1] at e
    by_cases h2 : (h = 18 ∧ n ≠ 32) ∨ (h = 0 ∧ 64 < n)
    · rw [if_pos h2] at e; cases e
    · omega
theorem dfit_lt (h n : Nat) : dfit h n < 32 := by
  unfold dfit
  split
  · decide
  · split <;> decide
end
section
open Go.RowKit Go
theorem dread_fit {xs : List Nat} {hn u n m : Nat} (h : dnum xs = (hn, u, 0)) (h2 : dnum (xs.drop u) = (n, m, 0)) :
    (dfit hn n ≠ 0 → dread xs = (0, [], 0, dfit hn n)) ∧ (dfit hn n = 0 → (xs.length - (u + m) < n → dread xs = (0, [], 0, 32)) ∧ (¬ xs.length - (u + m) < n → dread xs = (hn, (xs.drop (u + m)).take n, u + m + n, 0))) := by
  have K := (dread_rest h).2 n m h2
  unfold dfit
  by_cases h1 : hn ≠ 18 ∧ hn ≠ 0
  · rw [if_pos h1]
    exact ⟨fun _ => K.1 h1, fun h => by cases h⟩
  · rw [if_neg h1]
    have K2 := K.2 h1
    by_cases h3 : (hn = 18 ∧ n ≠ 32) ∨ (hn = 0 ∧ 64 < n)
    · rw [if_pos h3]
      exact ⟨fun _ => K2.1 h3, fun h => by cases h⟩
    · rw [if_neg h3]
      exact ⟨fun h => absurd rfl h, fun _ => K2.2 h3⟩

set_option maxRecDepth 1000000 in
set_option maxHeartbeats 4000000 in
theorem dread_any (w : World) (v : Value) (xs : List Nat) (hsl : BSl w v xs) :
    Calls Tryd.prog 46 #[v] w fun e w' => ∃ v', e = .returned (.tuple #[.int .u64 ((dread xs).1 : Nat), v', .int .i64 ((dread xs).2.2.1 : Nat), .int .i64 ((dread xs).2.2.2 : Nat)]) ∧ w'.ownsRow w.heap.size 5 1 v' (dread xs).2.1.length (bv (dread xs).2.1) ∧ Below w.heap.size w w' := by
  have HSL := hide hsl
  have HRB := hide (dnum_bound xs)
  have HRX := hide (dnum_bad xs)
  have HD1 := hide (@dread_one xs)
  have HD2 : Hid (∀ hn u : Nat, dnum xs = (hn, u, 0) → _) := fun hn u h => dread_rest (xs := xs) (hn := hn) (u := u) h
  have HD3 : Hid (∀ hn u n m : Nat, dnum xs = (hn, u, 0) → dnum (xs.drop u) = (n, m, 0) → _) := fun hn u n m h h2 => dread_fit (xs := xs) (hn := hn) (u := u) (n := n) (m := m) h h2
  obtain ⟨⟨a, cap, rfl, hn, hc⟩, hmax, hb⟩ := hsl
  have hcap := hn.1
  clear hn hc hb
  go_enter Tryd.func46, Tryd.ntmps46
  go_wp2_with fail
  refine (number_any _ _ xs HSL.out).mono ?_
  rintro e w1 ⟨rfl, rfl⟩
  by_cases hr : (dnum xs).2.2 = 0
  · have hrb := HRB.out hr
    obtain ⟨hn, u, re, hR⟩ : ∃ hn u re, dnum xs = (hn, u, re) := ⟨_, _, _, rfl⟩
    rw [hR] at hr hrb
    simp only at hr hrb
    subst hr
    obtain ⟨hhn, hu, hu9⟩ := hrb
    have HH := hide (HD2.out hn u hR).1
    have HRR := hide hR
    rw [hR]
    clear HD1 HD2 HRX HRB
    obtain ⟨⟨a', cap', hv, hn1, hc⟩, hmax1, hb1⟩ := HSL.out
    injection hv with hv1 hv2 hv3
    subst hv1
    subst hv3
    rcases hc with hc | ⟨b, off, rfl, hc⟩
    · subst hc
      rw [dnum_nil] at hR
      injection hR with _ hR
      injection hR with _ hR
      cases hR
    clear hn1 hc hb1 hv2 hR
    simp only [dnumR]
    by_cases hcu : cap = u
    · have hxu : xs.drop u = [] := List.drop_of_length_le (by omega)
      have HE : Hid (dread xs = (0, [], 0, 32)) := by
        have h := HH.out
        rw [hxu, dnum_nil] at h
        exact h (by simp)
      have HSD : Hid (BSl w1 (.slice (some ⟨b, off, none⟩) 0 0) []) := bsl_nil _ _ _
      have hul : xs.length = u := by omega
      rw [hul] at HSL
      clear hxu HH hhn
      subst hcu
      go_wp2_with fail
      refine (number_any _ _ [] HSD.out).mono ?_
      rintro e w2 ⟨rfl, rfl⟩
      clear HSD HSL
      rw [dnum_nil]
      simp only [dnumR]
      go_wp2
      refine bodyPost_ret (results_four rfl _ _ _) rfl ⟨_, by rw [HE.out]; rfl, by rw [HE.out]; exact World.ownsRow_nil _ _ _ _, Below.refl _ _⟩
    · have hcu' : ¬ u = cap := fun e => hcu e.symm
      have huc : (u : Int) ≤ (xs.length : Int) := by omega
      have HSD := hide (HSL.out.drop u hu)
      go_wp2_with fail
      refine (number_any _ _ (xs.drop u) HSD.out).mono ?_
      rintro e w2 ⟨rfl, rfl⟩
      have HQB := hide (dnum_bound (xs.drop u))
      have HQX := hide (dnum_bad (xs.drop u))
      obtain ⟨n, m, qe, hQ⟩ : ∃ n m qe, dnum (xs.drop u) = (n, m, qe) := ⟨_, _, _, rfl⟩
      rw [hQ] at HQB HQX HH ⊢
      simp only [dnumR] at HQB HQX HH ⊢
      by_cases hq : qe = 0
      · subst hq
        have hqb := HQB.out rfl
        rw [List.length_drop] at hqb
        obtain ⟨hqn, hqm, hqm9⟩ := hqb
        have HK := hide (HD3.out hn u n m HRR.out hQ)
        have HFK := hide (dfit_ok (h := hn) (n := n))
        have HFL := hide (dfit_lt hn n)
        clear HQB HQX HH hQ HRR HD3
        go_wp2_with fail
        refine (fits_any _ hn n (by omega) (by omega)).mono ?_
        rintro e w3 ⟨rfl, rfl⟩
        generalize dfit hn n = f at *
        by_cases hf : f = 0
        · subst hf
          have hfk := HFK.out rfl
          have HK2 := hide (HK.out.2 rfl)
          have hn64 : n ≤ 64 := hfk.2
          clear HK HFK HFL hfk
          by_cases hs : xs.length - (u + m) < n
          · have HE : Hid (dread xs = (0, [], 0, 32)) := HK2.out.1 hs
            have hs' : (xs.length : Int) < (u : Int) + (m : Int) + (n : Int) := by omega
            go_wp2_with fail
            refine bodyPost_ret (results_four rfl _ _ _) rfl ⟨_, by rw [HE.out]; rfl, by rw [HE.out]; exact World.ownsRow_nil _ _ _ _, Below.refl _ _⟩
          · have HE : Hid (dread xs = (hn, (xs.drop (u + m)).take n, u + m + n, 0)) := HK2.out.2 hs
            have hs' : ¬ (xs.length : Int) < (u : Int) + (m : Int) + (n : Int) := by omega
            have hum : u + m ≤ xs.length := by omega
            by_cases hn0 : n = 0
            · subst hn0
              rw [List.take_zero] at HE
              go_wp2_with fail
              refine (clone_any _ _ [] (bsl_nil _ _ _) (by simp)).mono ?_
              rintro e w4 ⟨v4, rfl, ho4, hb4⟩
              have HO4 := hide ho4
              have HB4 := hide hb4
              clear ho4 hb4
              go_wp2_with fail
              refine bodyPost_ret (results_four rfl _ _ _) rfl ⟨v4, by rw [HE.out]; rfl, by rw [HE.out]; exact HO4.out, HB4.out⟩
            · have HTL : Hid (((xs.drop (u + m)).take n).length = n) := by
                show _ = _
                rw [List.length_take, List.length_drop]
                omega
              have HVS : Hid (BSl w3 (.slice (some ⟨b, off + (u + m), none⟩) n n) ((xs.drop (u + m)).take n)) := (HSL.out.drop (u + m) hum).take3 n (by rw [List.length_drop]; omega)
              generalize (xs.drop (u + m)).take n = D at *
              have hne : ¬ u + m + n = u + m := by omega
              go_wp2_with fail
              refine (clone_any _ _ D HVS.out (by rw [HTL.out]; omega)).mono ?_
              rintro e w4 ⟨v4, rfl, ho4, hb4⟩
              have HO4 := hide ho4
              have HB4 := hide hb4
              clear ho4 hb4
              go_wp2_with fail
              refine bodyPost_ret (results_four rfl _ _ _) rfl ⟨v4, by rw [HE.out]; rfl, by rw [HE.out]; exact HO4.out, HB4.out⟩
        · have g : ((f : Int) != 0) = true := bne_iff_ne.2 (by omega)
          have HE : Hid (dread xs = (0, [], 0, f)) := HK.out.1 hf
          have hf32 := HFL.out
          go_wp2_with fail
          refine bodyPost_ret (results_four rfl _ _ _) rfl ⟨_, by rw [HE.out]; rfl, by rw [HE.out]; exact World.ownsRow_nil _ _ _ _, Below.refl _ _⟩
      · have g : ((qe : Int) != 0) = true := bne_iff_ne.2 (by omega)
        have HE : Hid (dread xs = (0, [], 0, qe)) := HH.out hq
        have hq3 := HQX.out hq
        go_wp2_with fail
        refine bodyPost_ret (results_four rfl _ _ _) rfl ⟨_, by rw [HE.out]; rfl, by rw [HE.out]; exact World.ownsRow_nil _ _ _ _, Below.refl _ _⟩
  · have HE := hide (HD1.out hr)
    have hbad := HRX.out hr
    obtain ⟨hn, u, re, hR⟩ : ∃ hn u re, dnum xs = (hn, u, re) := ⟨_, _, _, rfl⟩
    rw [hR] at HE hr hbad ⊢
    simp only [dnumR] at HE hr hbad ⊢
    have g : ((re : Int) != 0) = true := bne_iff_ne.2 (by omega)
    go_wp2_with fail
    refine bodyPost_ret (results_four rfl _ _ _) rfl ⟨_, by rw [HE.out]; rfl, by rw [HE.out]; exact World.ownsRow_nil _ _ _ _, Below.refl _ _⟩
end
section
open Go.RowKit Go
/-! ### What is laid is read; what is read is laid -/
theorem dnum_small {n : Nat} (h : n < 128) (r : List Nat) : dnum (n :: r) = (n, 1, 0) := by
  have e : rd 0 0 (n :: r) = (n, 1, 0) := by
    rw [rd]
    have h1 : ¬ 128 ≤ n := by omega
    simp [h1]
    omega
  unfold dnum
  rw [e]
  rfl
theorem dread_laid {h : Nat} {d ms : List Nat} (hk : (h = 18 ∧ d.length = 32) ∨ (h = 0 ∧ d.length ≤ 64)) : dread (h :: d.length :: d ++ ms) = (h, d, 2 + d.length, 0) := by
  have e1 : dnum (h :: d.length :: d ++ ms) = (h, 1, 0) := dnum_small (by omega) _
  have e2 : dnum ((h :: d.length :: d ++ ms).drop 1) = (d.length, 1, 0) := dnum_small (by omega) _
  have f : dfit h d.length = 0 := by
    unfold dfit
    rw [if_neg (by omega), if_neg (by omega)]
  have K := ((dread_fit e1 e2).2 f).2 (by simp)
  rw [K]
  simp
theorem dread_cut {h : Nat} {d : List Nat} (hk : (h = 18 ∧ d.length = 32) ∨ (h = 0 ∧ d.length ≤ 64)) (k : Nat) (hlt : k < 2 + d.length) : dread ((h :: d.length :: d).take k) = (0, [], 0, 32) := by
  match k, hlt with
  | 0, _ =>
    have e : (dnum ([] : List Nat)).2.2 ≠ 0 := by rw [dnum_nil]; decide
    have := dread_one e
    rw [dnum_nil] at this
    simpa using this
  | 1, _ =>
    have e1 : dnum [h] = (h, 1, 0) := dnum_small (by omega) _
    have e2 : (dnum ([h].drop 1)).2.2 ≠ 0 := by simp [dnum_nil]
    have := (dread_rest e1).1 e2
    simpa [dnum_nil] using this
  | k + 2, hlt =>
    have e0 : (h :: d.length :: d).take (k + 2) = h :: d.length :: d.take k := rfl
    rw [e0]
    have e1 : dnum (h :: d.length :: d.take k) = (h, 1, 0) := dnum_small (by omega) _
    have e2 : dnum ((h :: d.length :: d.take k).drop 1) = (d.length, 1, 0) := dnum_small (by omega) _
    have f : dfit h d.length = 0 := by
      unfold dfit
      rw [if_neg (by omega), if_neg (by omega)]
    exact ((dread_fit e1 e2).2 f).1 (by simp; omega)
theorem rd_small : ∀ (xs : List Nat) (k m : Nat), 1 ≤ k → (rd k m xs).2.2 = 0 → 128 ^ k ≤ (rd k m xs).1
  | [], k, m, _, h => by
    rw [rd] at h
    split at h <;> simp at h
  | x :: r, k, m, hk, h => by
    rw [rd] at h ⊢
    by_cases h9 : k = 9
    · rw [if_pos h9] at h; simp at h
    · rw [if_neg h9] at h ⊢
      by_cases h1 : 128 ≤ x
      · rw [if_pos h1] at h ⊢
        have := rd_small r (k + 1) _ (by omega) h
        have e : 128 ^ (k + 1) = 128 * 128 ^ k := by rw [Nat.pow_succ, Nat.mul_comm]
        have hp : 0 < 128 ^ k := Nat.pow_pos (by decide)
        omega
      · rw [if_neg h1] at h ⊢
        by_cases h0 : x = 0 ∧ 0 < k
        · rw [if_pos h0] at h; simp at h
        · rw [if_neg h0]
          simp only
          have hx : 1 ≤ x % 128 := by omega
          have : 1 * 128 ^ k ≤ x % 128 * 128 ^ k := Nat.mul_le_mul_right _ hx
          omega
theorem dnum_form {xs : List Nat} {n u : Nat} (h : dnum xs = (n, u, 0)) (hn : n < 128) : u = 1 ∧ ∃ r, xs = n :: r := by
  have h0 : (rd 0 0 xs).2.2 = 0 := by
    by_cases e : (rd 0 0 xs).2.2 = 0
    · exact e
    · unfold dnum at h
      rw [if_neg e] at h
      injection h with _ h
      injection h with _ h
      split at h <;> cases h
  have hr : rd 0 0 xs = (n, u, 0) := by
    unfold dnum at h
    rw [if_pos h0] at h
    exact h
  cases xs with
  | nil => rw [rd] at hr; simp at hr
  | cons x r =>
    rw [rd] at hr
    simp only [if_neg (show ¬ (0 : Nat) = 9 by decide)] at hr
    by_cases h1 : 128 ≤ x
    · rw [if_pos h1] at hr
      have h2 := rd_small r 1 (0 + x % 128 * 128 ^ 0) (by omega) (by rw [hr])
      rw [hr] at h2
      simp at h2
      omega
    · rw [if_neg h1, if_neg (by omega)] at hr
      injection hr with e1 e2
      injection e2 with e2 _
      simp at e1
      refine ⟨e2.symm, r, ?_⟩
      rw [← e1, Nat.mod_eq_of_lt (by omega)]
theorem dread_back {xs : List Nat} (h : (dread xs).2.2.2 = 0) : (dread xs).2.2.1 ≤ xs.length ∧ dlay (dread xs).1 (dread xs).2.1 = (xs.take (dread xs).2.2.1, 0) ∧ (dread xs).1 < 128 := by
  by_cases h1 : (dnum xs).2.2 = 0
  · obtain ⟨hn, u, re, hR⟩ : ∃ hn u re, dnum xs = (hn, u, re) := ⟨_, _, _, rfl⟩
    rw [hR] at h1
    simp only at h1
    subst h1
    by_cases h2 : (dnum (xs.drop u)).2.2 = 0
    · obtain ⟨n, m, qe, hQ⟩ : ∃ n m qe, dnum (xs.drop u) = (n, m, qe) := ⟨_, _, _, rfl⟩
      rw [hQ] at h2
      simp only at h2
      subst h2
      have K := dread_fit hR hQ
      by_cases hf : dfit hn n = 0
      · have hk := dfit_ok hf
        have K2 := K.2 hf
        by_cases hs : xs.length - (u + m) < n
        · rw [K2.1 hs] at h; cases h
        · have E := K2.2 hs
          obtain ⟨hu, r, hx⟩ := dnum_form hR (by omega)
          subst hu
          subst hx
          have hQ' : dnum r = (n, m, 0) := hQ
          obtain ⟨hm, r2, hr⟩ := dnum_form hQ' (by omega)
          subst hm
          subst hr
          rw [E]
          have hlen : n ≤ r2.length := by simp at hs; omega
          have e : ((hn :: n :: r2).drop (1 + 1)).take n = r2.take n := rfl
          have et : (hn :: n :: r2).take (1 + 1 + n) = hn :: n :: r2.take n := by
            have : 1 + 1 + n = n + 1 + 1 := by omega
            rw [this]
            rfl
          refine ⟨by simp; omega, ?_, by simp only; omega⟩
          simp only
          rw [e, et, dlay_fit]
          have el : (r2.take n).length = n := by simp; omega
          rw [el, if_pos hf]
      · rw [K.1 hf] at h; exact absurd h hf
    · rw [(dread_rest hR).1 h2] at h; exact absurd h h2
  · rw [dread_one h1] at h; exact absurd h h1
theorem dlay_ok {h : Nat} {d : List Nat} (hk : (h = 18 ∧ d.length = 32) ∨ (h = 0 ∧ d.length ≤ 64)) : dlay h d = (h :: d.length :: d, 0) := by
  unfold dlay
  rw [if_neg (by omega), if_neg (by omega)]
theorem dlay_long {d : List Nat} (hd : 64 < d.length) : dlay 0 d = ([], 31) := by
  unfold dlay
  rw [if_neg (by omega), if_pos (by omega)]
end
section
open Go.RowKit Go
/-- What is laid is read. -/
theorem rd_digs : ∀ (f n k m : Nat) (r : List Nat), k + f = 9 → n < 128 ^ f → (k = 0 ∨ 0 < n) → rd k m (digs f n ++ r) = (m + n * 128 ^ k, k + (digs f n).length, 0)
  | 0, n, k, m, r, hk, hn, h0 => by
    simp at hn
    omega
  | f + 1, n, k, m, r, hk, hn, h0 => by
    by_cases h : n < 128
    · rw [digs_small h]
      simp only [List.cons_append, List.nil_append, List.length_singleton]
      unfold rd
      rw [if_neg (by omega), if_neg (by omega), if_neg (by omega), Nat.mod_eq_of_lt h]
    · have hge : 128 ≤ n := by omega
      rw [digs_big hge, List.cons_append]
      unfold rd
      rw [if_neg (by omega), if_pos (by omega), rd_digs f (n / 128) (k + 1) _ r (by omega) (by rw [Nat.pow_succ] at hn; exact Nat.div_lt_of_lt_mul (by omega)) (.inr (Nat.div_pos hge (by decide)))]
      have e1 : (n % 128 + 128) % 128 = n % 128 := by omega
      have e2 : n % 128 * 128 ^ k + n / 128 * 128 ^ (k + 1) = n * 128 ^ k := by
        rw [Nat.pow_succ, Nat.mul_comm (128 ^ k) 128, ← Nat.mul_assoc, ← Nat.add_mul]
        congr 1
        omega
      rw [e1, List.length_cons, Nat.add_assoc, e2]
      congr 2
      omega
/-- What is read was laid so. -/
theorem rd_back : ∀ (xs : List Nat) (f k m v u : Nat), k + f = 9 → (∀ x ∈ xs, x < 256) → rd k m xs = (v, u, 0) → ∃ n, v = m + n * 128 ^ k ∧ n < 128 ^ f ∧ (0 < k → 0 < n) ∧ k ≤ u ∧ u - k ≤ xs.length ∧ digs f n = xs.take (u - k)
  | [], f, k, m, v, u, hk, _, h => by
    unfold rd at h
    split at h <;> simp at h
  | x :: r, f, k, m, v, u, hk, hb, h => by
    have hx := hb x (by simp)
    unfold rd at h
    split at h
    · simp at h
    · rename_i h9
      obtain ⟨g, rfl⟩ : ∃ g, f = g + 1 := ⟨f - 1, by omega⟩
      split at h
      · rename_i h128
        obtain ⟨n, hv, hn, hp, hu, hl, hd⟩ := rd_back r g (k + 1) _ v u (by omega) (fun y hy => hb y (List.mem_cons_of_mem _ hy)) h
        have hp := hp (by omega)
        refine ⟨x % 128 + n * 128, ?_, ?_, fun _ => by omega, by omega, by simp; omega, ?_⟩
        · rw [hv, Nat.pow_succ, Nat.add_mul, Nat.add_assoc]
          congr 2
          rw [Nat.mul_comm (128 ^ k) 128, Nat.mul_assoc]
        · rw [Nat.pow_succ]
          have : (n + 1) * 128 ≤ 128 ^ g * 128 := Nat.mul_le_mul_right _ hn
          omega
        · rw [digs_big (by omega)]
          have e1 : (x % 128 + n * 128) % 128 + 128 = x := by omega
          have e2 : (x % 128 + n * 128) / 128 = n := by omega
          rw [e1, e2, hd]
          have e3 : u - k = u - (k + 1) + 1 := by omega
          rw [e3, List.take_succ_cons]
      · split at h
        · simp at h
        · rename_i h128 hz
          simp only [Prod.mk.injEq] at h
          refine ⟨x, ?_, ?_, fun hk0 => by omega, by omega, by simp; omega, ?_⟩
          · rw [← h.1, Nat.mod_eq_of_lt (by omega)]
          · rw [Nat.pow_succ]
            have : 1 ≤ 128 ^ g := Nat.pow_pos (by decide)
            omega
          · rw [digs_small (by omega)]
            have e3 : u - k = 1 := by omega
            rw [e3]
            simp
theorem dnum_digs {n : Nat} (h : n < 9223372036854775808) (r : List Nat) : dnum (digs 9 n ++ r) = (n, (digs 9 n).length, 0) := by
  have e := rd_digs 9 n 0 0 r rfl (by have : (128 : Nat) ^ 9 = 9223372036854775808 := by decide
                                      omega) (.inl rfl)
  rw [Nat.pow_zero, Nat.mul_one, Nat.zero_add, Nat.zero_add] at e
  unfold dnum
  rw [e]
  simp
theorem dnum_back {xs : List Nat} {n u : Nat} (hb : ∀ x ∈ xs, x < 256) (h : dnum xs = (n, u, 0)) : n < 9223372036854775808 ∧ u ≤ xs.length ∧ digs 9 n = xs.take u := by
  unfold dnum at h
  split at h
  · obtain ⟨m, hv, hm, _, _, hl, hd⟩ := rd_back xs 9 0 0 n u rfl hb h
    have e : (128 : Nat) ^ 9 = 9223372036854775808 := by decide
    rw [Nat.pow_zero, Nat.mul_one, Nat.zero_add] at hv
    subst hv
    exact ⟨by omega, by omega, by simpa using hd⟩
  · simp only [Prod.mk.injEq] at h
    have := h.2.2
    split at this <;> omega

/-- A link. -/
structure Lk where
  v : Int
  c : Nat
  h : Nat
  d : List Nat
def Lk.none : Lk := ⟨0, 0, 0, []⟩
/-- A digest that its hash may have. -/
def okd (h : Nat) (d : List Nat) : Prop := (h = 18 ∧ d.length = 32) ∨ (h = 0 ∧ d.length ≤ 64)
instance (h : Nat) (d : List Nat) : Decidable (okd h d) := inferInstanceAs (Decidable (_ ∨ _))
/-- A link that may be. -/
def lok (l : Lk) : Prop := (l.v = 0 ∧ l.c = 112 ∧ l.h = 18 ∧ l.d.length = 32) ∨ (l.v = 1 ∧ l.c < 9223372036854775808 ∧ okd l.h l.d)
instance (l : Lk) : Decidable (lok l) := inferInstanceAs (Decidable (_ ∨ _))
theorem lok_okd {l : Lk} (h : lok l) : okd l.h l.d := by
  rcases h with ⟨_, _, h1, h2⟩ | ⟨_, _, h⟩
  · exact .inl ⟨h1, h2⟩
  · exact h
theorem dlay_okd {h : Nat} {d : List Nat} : (dlay h d).2 = 0 ↔ okd h d := by
  unfold dlay okd
  split
  · simp
    omega
  · split
    · simp
      omega
    · simp
      omega
/-- A link's bytes (P4.4). -/
def lbytes (l : Lk) : List Nat := if l.v = 0 then l.h :: l.d.length :: l.d else 1 :: digs 9 l.c ++ (l.h :: l.d.length :: l.d)
/-- What digest.Read's error is here. -/
def lerr (e : Nat) : Nat := if e = 32 ∨ e = 33 then 42 else 43
/-- Row 3 of P4.5. -/
def lthird (v : Int) (c at' : Nat) (b : List Nat) : Lk × Nat × Nat := if (dread (b.drop at')).2.2.2 = 0 then (⟨v, c, (dread (b.drop at')).1, (dread (b.drop at')).2.1⟩, at' + (dread (b.drop at')).2.2.1, 0) else (Lk.none, 0, lerr (dread (b.drop at')).2.2.2)
/-- The link at the front (P4.5). -/
def lfirst (b : List Nat) : Lk × Nat × Nat :=
  if b.head? = some 18 then lthird 0 112 0 b
  else if (dnum b).2.2 ≠ 0 then (Lk.none, 0, 42) else if (dnum b).1 ≠ 1 then (Lk.none, 0, 41)
  else if (dnum (b.drop (dnum b).2.1)).2.2 ≠ 0 then (Lk.none, 0, 42)
  else lthird 1 (dnum (b.drop (dnum b).2.1)).1 ((dnum b).2.1 + (dnum (b.drop (dnum b).2.1)).2.1) b
/-- The link of bytes (P4.6). -/
def lparse (b : List Nat) : Lk × Nat := if (lfirst b).2.2 ≠ 0 then (Lk.none, (lfirst b).2.2) else if (lfirst b).2.1 < b.length then (Lk.none, 44) else ((lfirst b).1, 0)
theorem lfirst_bytes {l : Lk} (h : lok l) (ms : List Nat) : lfirst (lbytes l ++ ms) = (l, (lbytes l).length, 0) := by
  obtain ⟨v, c, hh, d⟩ := l
  have hk := lok_okd h
  simp only at hk
  have hr := dread_laid (ms := ms) hk
  rcases h with ⟨h1, h2, h3, h4⟩ | ⟨h1, h2, _⟩
  · simp only at h1 h2 h3 h4
    subst h1
    subst h2
    subst h3
    unfold lfirst lbytes
    simp only [if_true, List.cons_append, List.head?_cons]
    unfold lthird
    simp only [List.cons_append] at hr
    rw [List.drop_zero, hr]
    simp
    omega
  · simp only at h1 h2
    subst h1
    have e1 : lbytes ⟨1, c, hh, d⟩ = 1 :: (digs 9 c ++ (hh :: d.length :: d)) := rfl
    rw [e1]
    have n1 : dnum (1 :: (digs 9 c ++ (hh :: d.length :: d)) ++ ms) = (1, 1, 0) := by
      rw [List.cons_append]
      exact dnum_small (by decide) _
    have n2 : dnum ((1 :: (digs 9 c ++ (hh :: d.length :: d)) ++ ms).drop 1) = (c, (digs 9 c).length, 0) := by
      rw [List.cons_append, List.drop_succ_cons, List.drop_zero, List.append_assoc]
      exact dnum_digs h2 _
    have n3 : (1 :: (digs 9 c ++ (hh :: d.length :: d)) ++ ms).drop (1 + (digs 9 c).length) = hh :: d.length :: d ++ ms := by
      rw [List.cons_append, Nat.add_comm, List.drop_succ_cons, List.append_assoc, List.drop_append_of_le_length (Nat.le_refl _), List.drop_length, List.nil_append]
    unfold lfirst
    rw [if_neg (by simp), n1]
    simp only [ne_eq, not_true_eq_false, if_false]
    rw [n2]
    simp only [not_true_eq_false, if_false]
    unfold lthird
    rw [n3, hr]
    simp
    omega
theorem lparse_bytes {l : Lk} (h : lok l) : lparse (lbytes l) = (l, 0) := by
  have e := lfirst_bytes h []
  rw [List.append_nil] at e
  unfold lparse
  rw [e]
  simp
theorem lparse_left {l : Lk} (h : lok l) (x : Nat) : lparse (lbytes l ++ [x]) = (Lk.none, 44) := by
  have e := lfirst_bytes h [x]
  unfold lparse
  rw [e]
  simp
end
section
open Go.ChangeShapes Go.WideShapes Go.ChangeAt Go.RowKit Go.Deep
theorem Tryd.own : ownKnob Tryd.prog.godebug = none := by kernel_rfl

theorem Tryd.laidOut : laidOutB Tryd.prog = true := by kernel_rfl

theorem Tryd.cells5 : Tryd.prog.cellsOf 5 = 1 := by kernel_rfl

theorem Tryd.cells_bytes : Tryd.prog.cellsOf 22 = 1 := by kernel_rfl

theorem Tryd.bytes5 : Tryd.prog.bytesOf 5 = 1 := by kernel_rfl

theorem wf_u8 {n : Int} (h : (Lit.int .u8 n).wf = true) : 0 ≤ n ∧ n ≤ 255 := bounds_u8 h

/-- A row of bytes that was read as data, as BSl says it. -/
theorem bsl_of_row {w : World} (A : Option Addr) (L C : Nat) (Z : List Int) (hl : L ≤ C) (hm : C ≤ maxLen) (hz : Z.length = C) (hwf : ∀ n ∈ Z, (Lit.int .u8 n).wf = true) (hn : A = none → C = 0)
    (hc : ∀ a', A = some a' → ∀ c, c < C → w.cell? (a'.add c) = some (.int .u8 (Z.getD c 0))) : BSl w (.slice A L C) ((Z.take L).map Int.toNat) := by
  have hlen : ((Z.take L).map Int.toNat).length = L := by simp; omega
  refine ⟨⟨A, C, by rw [hlen], ⟨by rw [hlen]; exact hl, hn⟩, ?_⟩, by rw [hlen]; unfold maxLen at hm; omega, ?_⟩
  · by_cases h0 : L = 0
    · left; subst h0; simp
    · right
      cases A with
      | none => have := hn rfl; omega
      | some a =>
        obtain ⟨b, off, spot⟩ := a
        have h1 := hc _ rfl 0 (by omega)
        have hspot : spot = none := by simpa [Addr.add] using World.cell?_spot h1
        subst hspot
        refine ⟨b, off, rfl, fun j hj => ?_⟩
        rw [hlen] at hj
        have h2 := hc _ rfl j (by omega)
        have hadd : (⟨b, off, none⟩ : Addr).add j = ⟨b, off + j, none⟩ := by unfold Addr.add; split <;> simp_all
        rw [hadd] at h2
        rw [h2]
        have hjz : j < Z.length := by omega
        have hb := wf_u8 (hwf Z[j] (List.getElem_mem hjz))
        simp [List.getD, hj, hjz]
        omega
  · intro x hx
    simp only [List.mem_map] at hx
    obtain ⟨n, hn', rfl⟩ := hx
    have := wf_u8 (hwf n (List.mem_of_mem_take hn'))
    omega

/-- What a row weighs, inside a slice of rows. -/
theorem weights_all {H : Type} {P : Program} {e : TypeId} {d : DataW H} : ∀ {l : List (DataW H)}, d ∈ l → ∀ n ∈ d.weights P e, n ∈ DataW.weightsAll P e l
  | [], h, _, _ => by cases h
  | x :: r, h, n, hn => by
    simp only [DataW.weightsAll, List.mem_append]
    rcases List.mem_cons.1 h with h | h
    · subst h; exact .inl hn
    · exact .inr (weights_all h n hn)

theorem row_weight {H : Type} (a' : Addr) (L C : Nat) (Z : List Int) (hz : Z.length = C) : C ∈ (intRow (H := H) .u8 (some a') L Z).weights Tryd.prog 22 := by
  have e : (intRow (H := H) .u8 (some a') L Z) = .slice (lits .u8 (Z.take L)) (lits .u8 (Z.drop L)) := rfl
  rw [e]
  simp only [DataW.weights, Tryd.underlying22, Tryd.bytes5]
  refine List.mem_cons.2 (.inl ?_)
  simp [lits]
  omega
end
section
open Go.ChangeShapes Go.WideShapes Go.ChangeAt Go.RowKit Go.Deep Go.Joins
/-- A slice of rows of bytes, all within the reach. -/
structure RowsIn (w : World) (v : Value) (len : Nat) : Prop where
  form : ∃ a cap, v = .slice a len cap ∧ len ≤ cap ∧ (len = 0 ∨ ∃ b off, a = some ⟨b, off, none⟩ ∧ ∀ i, i < len → ∃ u xs, w.cell? ⟨b, off + i, none⟩ = some u ∧ BSl w u xs ∧ xs.length ≤ 140737488351232)
  max : len ≤ 9223372036854775807
end
section
open Go.RowKit Go
/-- A string's bytes. -/
def sl (s : ByteArray) : List Nat := s.data.toList.map UInt8.toNat
theorem sl_byte (s : ByteArray) : ∀ x ∈ sl s, x < 256 := fun x hx => by
  obtain ⟨u, _, rfl⟩ := List.mem_map.1 hx
  exact u.toNat_lt
theorem sl_len (s : ByteArray) : (sl s).length = s.size := by
  unfold sl
  rw [List.length_map, Array.length_toList]
  rfl
theorem sl_get (s : ByteArray) (j : Nat) : (sl s).getD j 0 = (s.data.toList.getD j 0).toNat := by
  simp only [sl, List.getD, List.getElem?_map]
  cases s.data.toList[j]? <;> simp
/-- '[]byte(s)' of a string that is no constant. -/
theorem conv_sb (w : World) (s : ByteArray) : (convert 9 22 (.string s)).run Tryd.prog w = .ok (.slice (some ⟨w.heap.size, 0, none⟩) s.size (grownCap w s.size 0 5)) (Lib.bytesWorld w 5 s) := Lib.run_convert_string_bytes w 9 22 5 s Tryd.underlying9 Tryd.underlying22 Tryd.underlying5
theorem conv_sb_below (w : World) (s : ByteArray) : Below w.heap.size w (Lib.bytesWorld w 5 s) :=
  ⟨rfl, rfl, rfl, by rw [Lib.bytesWorld_size]; omega, fun k hk => Lib.bytesWorld_at_old w 5 s k hk⟩
theorem conv_sb_bsl (w : World) (s : ByteArray) (hs : s.size ≤ 9223372036854775807) : BSl (Lib.bytesWorld w 5 s) (.slice (some ⟨w.heap.size, 0, none⟩) s.size (grownCap w s.size 0 5)) (sl s) := by
  refine ⟨⟨_, _, by rw [sl_len], ⟨by rw [sl_len]; exact grownCap_ge w s.size 0 5, fun h => by cases h⟩, .inr ⟨w.heap.size, 0, rfl, fun j hj => ?_⟩⟩, by rw [sl_len]; exact hs, sl_byte s⟩
  rw [sl_len] at hj
  rw [Nat.zero_add, Lib.bytesWorld_cell w 5 s j hj, sl_get]
end
section
open Go.RowKit Go
theorem lthird_back {v : Int} {c a n : Nat} {b : List Nat} {l : Lk} (h : lthird v c a b = (l, n, 0)) : okd l.h l.d ∧ l.v = v ∧ l.c = c ∧ a ≤ n ∧ n - a ≤ (b.drop a).length ∧ l.h :: l.d.length :: l.d = (b.drop a).take (n - a) := by
  unfold lthird at h
  split at h
  · rename_i h0
    simp only [Prod.mk.injEq] at h
    obtain ⟨h1, h2, _⟩ := h
    have hb := dread_back h0
    have hk : okd (dread (b.drop a)).1 (dread (b.drop a)).2.1 := dlay_okd.1 (by rw [hb.2.1])
    have hd := dlay_ok hk
    rw [hd] at hb
    subst h1
    have e : n - a = (dread (b.drop a)).2.2.1 := by omega
    refine ⟨hk, rfl, rfl, by omega, by omega, ?_⟩
    rw [e]
    exact congrArg Prod.fst hb.2.1
  · rename_i h0
    simp only [Prod.mk.injEq] at h
    have := h.2.2
    unfold lerr at this
    split at this <;> omega
theorem lfirst_back {b : List Nat} {l : Lk} {n : Nat} (hb : ∀ x ∈ b, x < 256) (h : lfirst b = (l, n, 0)) : lok l ∧ n ≤ b.length ∧ lbytes l = b.take n := by
  unfold lfirst at h
  split at h
  · rename_i h18
    obtain ⟨hk, hv, hc, _, hn, he⟩ := lthird_back h
    rw [List.drop_zero, Nat.sub_zero] at hn he
    have hh : l.h = 18 := by
      cases b with
      | nil => simp at h18
      | cons x b =>
        simp at h18
        subst h18
        cases n with
        | zero => simp at he
        | succ n =>
          rw [List.take_succ_cons] at he
          injection he
    have hd : l.d.length = 32 := by
      rcases hk with h1 | h1
      · exact h1.2
      · omega
    refine ⟨.inl ⟨hv, hc, hh, hd⟩, hn, ?_⟩
    unfold lbytes
    rw [if_pos hv]
    exact he
  · split at h
    · simp at h
    · rename_i hn1
      split at h
      · simp at h
      · rename_i hv1
        split at h
        · simp at h
        · rename_i hn2
          generalize hd1 : dnum b = r1 at *
          obtain ⟨v1, u1, e1⟩ := r1
          simp only [ne_eq, Decidable.not_not] at hn1 hv1 hn2 h
          subst hn1
          subst hv1
          generalize hd2 : dnum (b.drop u1) = r2 at *
          obtain ⟨c2, u2, e2⟩ := r2
          simp only at hn2 h
          subst hn2
          have d1 := dnum_back hb hd1
          have d2 := dnum_back (fun x hx => hb x (List.mem_of_mem_drop hx)) hd2
          obtain ⟨hk, hv, hc, ha, hn, he⟩ := lthird_back h
          have f1 : u1 = 1 := by
            have := congrArg List.length d1.2.2
            rw [digs_small (by decide), List.length_take] at this
            simp at this
            omega
          rw [List.length_drop] at d2 hn
          refine ⟨.inr ⟨hv, by rw [hc]; exact d2.1, hk⟩, by omega, ?_⟩
          unfold lbytes
          rw [if_neg (by rw [hv]; decide), hc, he, d2.2.2]
          have g1 : [1] = b.take u1 := by rw [← d1.2.2, digs_small (by decide)]
          have g2 : (1 : Nat) :: (b.drop u1).take u2 = b.take (u1 + u2) := by
            rw [List.take_add, ← g1]
            rfl
          rw [g2]
          have g3 : b.take n = b.take ((u1 + u2) + (n - (u1 + u2))) := by
            congr 1
            omega
          rw [g3, List.take_add (i := u1 + u2)]
theorem lparse_back {b : List Nat} {l : Lk} (hb : ∀ x ∈ b, x < 256) (h : lparse b = (l, 0)) : lok l ∧ lbytes l = b := by
  unfold lparse at h
  split at h
  · rename_i h0
    simp only [Prod.mk.injEq] at h
    exact absurd h.2 h0
  · split at h
    · simp at h
    · rename_i h0 h1
      simp only [Prod.mk.injEq, and_true] at h
      simp only [ne_eq, Decidable.not_not] at h0
      have e : lfirst b = (l, (lfirst b).2.1, 0) := by
        rw [← h, ← h0]
      obtain ⟨h2, h3, h4⟩ := lfirst_back hb e
      refine ⟨h2, ?_⟩
      rw [h4, List.take_of_length_le (by omega)]
/-- No link's bytes are the beginning of another's. -/
theorem lbytes_free {l m : Lk} (hl : lok l) (hm : lok m) {r : List Nat} (h : lbytes l ++ r = lbytes m) : l = m ∧ r = [] := by
  have e1 := lfirst_bytes hl r
  have e2 := lfirst_bytes hm []
  rw [List.append_nil] at e2
  rw [h, e2] at e1
  simp only [Prod.mk.injEq, and_true] at e1
  refine ⟨e1.1.symm, ?_⟩
  have := congrArg List.length h
  rw [List.length_append, e1.2] at this
  exact List.eq_nil_of_length_eq_zero (by omega)
theorem lbytes_inj {l m : Lk} (hl : lok l) (hm : lok m) (h : lbytes l = lbytes m) : l = m := (lbytes_free hl hm (r := []) (by rw [List.append_nil]; exact h)).1
theorem lbytes_len {l : Lk} (h : lok l) : (lbytes l).length ≤ 76 := by
  have hk := lok_okd h
  have hd := digs_len 9 l.c
  unfold lbytes
  unfold okd at hk
  split
  · simp
    omega
  · simp
    omega
end
section
open Go.RowKit Go
/-- The digits of the bases. -/
def d16 : List Nat := [48, 49, 50, 51, 52, 53, 54, 55, 56, 57, 97, 98, 99, 100, 101, 102]
def d32 : List Nat := [97, 98, 99, 100, 101, 102, 103, 104, 105, 106, 107, 108, 109, 110, 111, 112, 113, 114, 115, 116, 117, 118, 119, 120, 121, 122, 50, 51, 52, 53, 54, 55]
def d58 : List Nat := [49, 50, 51, 52, 53, 54, 55, 56, 57, 65, 66, 67, 68, 69, 70, 71, 72, 74, 75, 76, 77, 78, 80, 81, 82, 83, 84, 85, 86, 87, 88, 89, 90, 97, 98, 99, 100, 101, 102, 103, 104, 105, 106, 107, 109, 110, 111, 112, 113, 114, 115, 116, 117, 118, 119, 120, 121, 122]
/-- What a digit stands for. -/
def look : List Nat → Nat → Option Nat
  | [], _ => none
  | x :: t, c => if x = c then some 0 else (look t c).map (· + 1)
theorem look_get : ∀ {t : List Nat} {c i : Nat}, look t c = some i → i < t.length ∧ t.getD i 0 = c
  | [], _, _, h => by simp [look] at h
  | x :: t, c, i, h => by
    unfold look at h
    split at h
    · rename_i hx
      injection h with h
      subst h
      subst hx
      simp
    · obtain ⟨j, hj, rfl⟩ := Option.map_eq_some_iff.1 h
      have := look_get hj
      simp
      exact ⟨this.1, by simpa using this.2⟩
theorem look16 : ∀ i, i < 16 → look d16 (d16.getD i 0) = some i := by decide
theorem look32 : ∀ i, i < 32 → look d32 (d32.getD i 0) = some i := by decide
theorem look58 : ∀ i, i < 58 → look d58 (d58.getD i 0) = some i := by decide
/-- What all digits stand for. -/
def looks (t : List Nat) : List Nat → Option (List Nat)
  | [] => some []
  | c :: s => (look t c).bind fun i => (looks t s).map (i :: ·)
theorem looks_map {t : List Nat} (ht : ∀ i, i < t.length → look t (t.getD i 0) = some i) : ∀ {l : List Nat}, (∀ i ∈ l, i < t.length) → looks t (l.map (t.getD · 0)) = some l
  | [], _ => rfl
  | i :: l, h => by
    rw [List.map_cons, looks, ht i (h i (by simp)), Option.bind_some, looks_map ht (fun j hj => h j (List.mem_cons_of_mem _ hj))]
    rfl
theorem looks_back {t : List Nat} : ∀ {s l : List Nat}, looks t s = some l → l.map (t.getD · 0) = s ∧ ∀ i ∈ l, i < t.length
  | [], l, h => by
    simp [looks] at h
    subst h
    simp
  | c :: s, l, h => by
    unfold looks at h
    obtain ⟨i, hi, h⟩ := Option.bind_eq_some_iff.1 h
    obtain ⟨m, hm, rfl⟩ := Option.map_eq_some_iff.1 h
    have h1 := look_get hi
    have h2 := looks_back hm
    refine ⟨by rw [List.map_cons, h1.2, h2.1], fun j hj => ?_⟩
    rcases List.mem_cons.1 hj with e | e
    · subst e
      exact h1.1
    · exact h2.2 j e
theorem grp_lt {w : Nat} (hw : 0 < w) : ∀ (k : Nat) (l : List Nat), l.length ≤ k → (∀ d ∈ l, d < 2) → ∀ x ∈ grp w l, x < 2 ^ w
  | 0, l, hk, _, x, hx => by
    rw [grp_short (by omega)] at hx
    simp at hx
  | k + 1, l, hk, hd, x, hx => by
    rw [grp] at hx
    split at hx
    · simp at hx
    · rename_i h
      rcases List.mem_cons.1 hx with e | e
      · subst e
        have := valB_lt (b := 2) (by decide) (l := l.take w) (fun d h => hd d (List.mem_of_mem_take h))
        rwa [List.length_take, Nat.min_eq_left (by omega)] at this
      · exact grp_lt hw k (l.drop w) (by rw [List.length_drop]; omega) (fun d h => hd d (List.mem_of_mem_drop h)) x e
theorem encW_lt {w : Nat} (hw : 0 < w) (b : List Nat) : ∀ x ∈ encW w b, x < 2 ^ w := grp_lt hw _ _ (Nat.le_refl _) (fun d hd => by
  rcases List.mem_append.1 hd with h | h
  · exact flat_lt 8 b d h
  · have := List.eq_of_mem_replicate h
    omega)
theorem decW_lt (w : Nat) (b : List Nat) : ∀ x ∈ decW w b, x < 256 := grp_lt (w := 8) (by decide) _ _ (Nat.le_refl _) (flat_lt w b)
/-- Bytes in a base: 16, 32, 58. -/
def of16 (b : List Nat) : List Nat := (encW 4 b).map (d16.getD · 0)
def of32 (b : List Nat) : List Nat := (encW 5 b).map (d32.getD · 0)
def of58 (b : List Nat) : List Nat := (conv 256 58 b).map (d58.getD · 0)
/-- The bytes of a text in a base; none: it is none there. -/
def in16 (s : List Nat) : Option (List Nat) := (looks d16 s).bind fun l => if of16 (decW 4 l) = s then some (decW 4 l) else none
def in32 (s : List Nat) : Option (List Nat) := (looks d32 s).bind fun l => if of32 (decW 5 l) = s then some (decW 5 l) else none
def in58 (s : List Nat) : Option (List Nat) := (looks d58 s).map (conv 58 256)
theorem in16_of {b : List Nat} (hb : ∀ x ∈ b, x < 256) : in16 (of16 b) = some b := by
  unfold in16
  have h : looks d16 (of16 b) = some (encW 4 b) := looks_map (t := d16) look16 (encW_lt (by decide) b)
  rw [h, Option.bind_some, dec_enc (by decide) (by decide) hb, if_pos rfl]
theorem in32_of {b : List Nat} (hb : ∀ x ∈ b, x < 256) : in32 (of32 b) = some b := by
  unfold in32
  have h : looks d32 (of32 b) = some (encW 5 b) := looks_map (t := d32) look32 (encW_lt (by decide) b)
  rw [h, Option.bind_some, dec_enc (by decide) (by decide) hb, if_pos rfl]
theorem in58_of {b : List Nat} (hb : ∀ x ∈ b, x < 256) : in58 (of58 b) = some b := by
  unfold in58
  have h : looks d58 (of58 b) = some (conv 256 58 b) := looks_map (t := d58) look58 (conv_lt (by decide) b)
  rw [h, Option.map_some, conv_conv (by decide) (by decide) hb]
theorem of16_in {s b : List Nat} (h : in16 s = some b) : of16 b = s ∧ ∀ x ∈ b, x < 256 := by
  unfold in16 at h
  obtain ⟨l, hl, h⟩ := Option.bind_eq_some_iff.1 h
  split at h
  · injection h with h
    subst h
    exact ⟨by assumption, decW_lt 4 l⟩
  · cases h
theorem of32_in {s b : List Nat} (h : in32 s = some b) : of32 b = s ∧ ∀ x ∈ b, x < 256 := by
  unfold in32 at h
  obtain ⟨l, hl, h⟩ := Option.bind_eq_some_iff.1 h
  split at h
  · injection h with h
    subst h
    exact ⟨by assumption, decW_lt 5 l⟩
  · cases h
theorem of58_in {s b : List Nat} (h : in58 s = some b) : of58 b = s ∧ ∀ x ∈ b, x < 256 := by
  unfold in58 at h
  obtain ⟨l, hl, rfl⟩ := Option.map_eq_some_iff.1 h
  have h2 := looks_back hl
  refine ⟨?_, conv_lt (by decide) l⟩
  unfold of58
  rw [conv_conv (a := 58) (b := 256) (by decide) (by decide) h2.2]
  exact h2.1
/-- A link's texts (P4.8). -/
def ltextin (l : Lk) (base : Nat) : List Nat := if base = 1 then 102 :: of16 (lbytes l) else if base = 2 then 98 :: of32 (lbytes l) else 122 :: of58 (lbytes l)
def ltext (l : Lk) : List Nat := if l.v = 0 then of58 (lbytes l) else ltextin l 2
/-- The bytes that a text is, and the version that it wants. -/
def ltake : List Nat → Option (Int × List Nat)
  | 81 :: s => (in58 (81 :: s)).map fun b => (0, b)
  | 102 :: s => (in16 s).map fun b => (1, b)
  | 98 :: s => (in32 s).map fun b => (1, b)
  | 122 :: s => (in58 s).map fun b => (1, b)
  | _ => none
/-- The link of a text (P4.9). -/
def lparsetext (s : List Nat) : Lk × Nat :=
  if 153 < s.length then (Lk.none, 46)
  else if s.head? ≠ some 81 ∧ s.head? ≠ some 102 ∧ s.head? ≠ some 98 ∧ s.head? ≠ some 122 then (Lk.none, 45)
  else match ltake s with
    | none => (Lk.none, 46)
    | some (v, b) => if (lparse b).2 ≠ 0 then (Lk.none, (lparse b).2) else if (lparse b).1.v ≠ v then (Lk.none, 41) else ((lparse b).1, 0)
theorem lbytes_byte {l : Lk} (h : lok l) (hd : ∀ x ∈ l.d, x < 256) : ∀ x ∈ lbytes l, x < 256 := by
  have hk := lok_okd h
  have hdg : ∀ (f n : Nat), ∀ x ∈ digs f n, x < 256 := by
    intro f
    induction f with
    | zero => intro n x hx; simp [digs] at hx
    | succ f ih =>
      intro n x hx
      unfold digs at hx
      split at hx
      · simp at hx
        omega
      · rcases List.mem_cons.1 hx with e | e
        · omega
        · exact ih _ x e
  have hrow : ∀ x ∈ l.h :: l.d.length :: l.d, x < 256 := fun x hx => by
    unfold okd at hk
    simp only [List.mem_cons] at hx
    rcases hx with e | e | e
    · omega
    · omega
    · exact hd x e
  intro x hx
  unfold lbytes at hx
  split at hx
  · exact hrow x hx
  · rcases List.mem_append.1 hx with e | e
    · rcases List.mem_cons.1 e with e | e
      · omega
      · exact hdg 9 l.c x e
    · exact hrow x e
/-- A number's highest digit. -/
theorem digB_first {b q : Nat} (hb : 2 ≤ b) (hq : 0 < q) (hqb : q < b) : ∀ (k n : Nat), q * b ^ k ≤ n → n < (q + 1) * b ^ k → (digB b n).head? = some q
  | 0, n, h1, h2 => by
    rw [Nat.pow_zero, Nat.mul_one] at h1 h2
    have e : n = q := by omega
    subst e
    rw [digB_pos hb hq, Nat.div_eq_of_lt hqb, digB_zero, Nat.mod_eq_of_lt hqb]
    rfl
  | k + 1, n, h1, h2 => by
    have hp : 0 < b ^ k := Nat.pow_pos (by omega)
    have hm : 0 < q * b ^ k := Nat.mul_pos hq hp
    rw [Nat.pow_succ, ← Nat.mul_assoc] at h1 h2
    have h3 : q * b ^ k ≤ n / b := (Nat.le_div_iff_mul_le (by omega)).2 h1
    have h4 : n / b < (q + 1) * b ^ k := Nat.div_lt_of_lt_mul (by rw [Nat.mul_comm]; exact h2)
    have hn : 0 < n := Nat.lt_of_lt_of_le (Nat.mul_pos hm (by omega)) h1
    have ih := digB_first hb hq hqb k (n / b) h3 h4
    rw [digB_pos hb hn]
    cases hd : digB b (n / b) with
    | nil => rw [hd] at ih; simp at ih
    | cons x l => rw [hd] at ih; simpa using ih
theorem of58_old {l : Lk} (h : lok l) (hv : l.v = 0) (hd : ∀ x ∈ l.d, x < 256) : ∃ s, of58 (lbytes l) = 81 :: s := by
  rcases h with ⟨_, _, h3, h4⟩ | ⟨h1, _⟩
  · have e : lbytes l = 18 :: 32 :: l.d := by unfold lbytes; rw [if_pos hv, h3, h4]
    have hval : valB 256 (18 :: 32 :: l.d) = 18 * 256 ^ 33 + (32 * 256 ^ 32 + valB 256 l.d) := by
      rw [valB_cons, valB_cons, List.length_cons, h4]
    have hlt := valB_lt (b := 256) (by decide) hd
    rw [h4] at hlt
    have hf := digB_first (b := 58) (q := 23) (by decide) (by decide) (by decide) 45 (18 * 256 ^ 33 + (32 * 256 ^ 32 + valB 256 l.d))
      (Nat.le_trans (show 23 * 58 ^ 45 ≤ 18 * 256 ^ 33 + 32 * 256 ^ 32 by decide) (by omega)) (Nat.lt_of_lt_of_le (show _ < 18 * 256 ^ 33 + 33 * 256 ^ 32 by omega) (show 18 * 256 ^ 33 + 33 * 256 ^ 32 ≤ (23 + 1) * 58 ^ 45 by decide))
    unfold of58 conv
    rw [e]
    have t1 : (18 :: 32 :: l.d).takeWhile (· == 0) = [] := by simp
    have t2 : (18 :: 32 :: l.d).dropWhile (· == 0) = 18 :: 32 :: l.d := by simp
    rw [t1, t2, hval]
    cases hg : digB 58 (18 * 256 ^ 33 + (32 * 256 ^ 32 + valB 256 l.d)) with
    | nil => rw [hg] at hf; simp at hf
    | cons x m =>
      rw [hg] at hf
      simp at hf
      subst hf
      exact ⟨m.map (d58.getD · 0), rfl⟩
  · rw [hv] at h1
    cases h1
end
section
open Go.RowKit Go
theorem grp_len {w : Nat} (hw : 0 < w) : ∀ (k : Nat) (l : List Nat), l.length ≤ k → (grp w l).length = l.length / w
  | 0, l, hk => by
    rw [grp_short (by omega), Nat.div_eq_of_lt (by omega)]
    rfl
  | k + 1, l, hk => by
    rw [grp]
    split
    · rw [Nat.div_eq_of_lt (by omega)]
      rfl
    · rename_i h
      rw [List.length_cons, grp_len hw k (l.drop w) (by rw [List.length_drop]; omega), List.length_drop]
      have : l.length = l.length - w + w := by omega
      rw [this, Nat.add_sub_cancel, Nat.add_div_right _ hw]
theorem of16_len (b : List Nat) : (of16 b).length = 2 * b.length := by
  unfold of16 encW
  rw [List.length_map, grp_len (by decide) _ _ (Nat.le_refl _), List.length_append, flat_len, List.length_replicate]
  omega
theorem of32_len (b : List Nat) : (of32 b).length ≤ 2 * b.length := by
  unfold of32 encW
  rw [List.length_map, grp_len (by decide) _ _ (Nat.le_refl _), List.length_append, flat_len, List.length_replicate]
  omega
theorem digB_len {b : Nat} (hb : 2 ≤ b) : ∀ (k n : Nat), n < b ^ k → (digB b n).length ≤ k
  | 0, n, h => by
    rw [Nat.pow_zero] at h
    have e : n = 0 := by omega
    subst e
    rw [digB_zero]
    simp
  | k + 1, n, h => by
    by_cases hn : n = 0
    · subst hn
      rw [digB_zero]
      simp
    · rw [digB_pos hb (by omega), List.length_append, List.length_singleton]
      have := digB_len hb k (n / b) (Nat.div_lt_of_lt_mul (by rw [Nat.pow_succ, Nat.mul_comm] at h; exact h))
      omega
theorem of58_len {b : List Nat} (hb : ∀ x ∈ b, x < 256) : (of58 b).length ≤ 2 * b.length := by
  unfold of58 conv
  rw [List.length_map, List.length_append, List.length_replicate]
  have hd : ∀ x ∈ b.dropWhile (· == 0), x < 256 := fun x hx => hb x ((List.dropWhile_suffix _).subset hx)
  have hlt := valB_lt (b := 256) (by decide) hd
  have hp : (256 : Nat) ^ (b.dropWhile (· == 0)).length ≤ 58 ^ (2 * (b.dropWhile (· == 0)).length) := by
    rw [Nat.pow_mul]
    exact Nat.pow_le_pow_left (by decide) _
  have h1 := digB_len (b := 58) (by decide) _ _ (Nat.lt_of_lt_of_le hlt hp)
  have h2 := congrArg List.length (List.takeWhile_append_dropWhile (p := (· == 0)) (l := b))
  rw [List.length_append] at h2
  omega
theorem ltextin_len {l : Lk} (h : lok l) (hd : ∀ x ∈ l.d, x < 256) (base : Nat) : (ltextin l base).length ≤ 153 := by
  have h1 := lbytes_len h
  have h2 := of16_len (lbytes l)
  have h3 := of32_len (lbytes l)
  have h4 := of58_len (lbytes_byte h hd)
  unfold ltextin
  split
  · simp
    omega
  · split
    · simp
      omega
    · simp
      omega
theorem ltext_len {l : Lk} (h : lok l) (hd : ∀ x ∈ l.d, x < 256) : (ltext l).length ≤ 153 := by
  have h1 := lbytes_len h
  have h4 := of58_len (lbytes_byte h hd)
  unfold ltext
  split
  · omega
  · exact ltextin_len h hd 2
theorem lparsetext_in {l : Lk} (h : lok l) (hd : ∀ x ∈ l.d, x < 256) (hv : l.v = 1) (base : Nat) : lparsetext (ltextin l base) = (l, 0) := by
  have hb := lbytes_byte h hd
  have hl := ltextin_len h hd base
  have hp := lparse_bytes h
  unfold lparsetext
  rw [if_neg (by omega)]
  have ht : ltake (ltextin l base) = some (1, lbytes l) ∧ ((ltextin l base).head? = some 102 ∨ (ltextin l base).head? = some 98 ∨ (ltextin l base).head? = some 122) := by
    unfold ltextin
    split
    · exact ⟨by show (in16 _).map _ = _; rw [in16_of hb]; rfl, .inl rfl⟩
    · split
      · exact ⟨by show (in32 _).map _ = _; rw [in32_of hb]; rfl, .inr (.inl rfl)⟩
      · exact ⟨by show (in58 _).map _ = _; rw [in58_of hb]; rfl, .inr (.inr rfl)⟩
  rw [if_neg (by rcases ht.2 with e | e | e <;> simp [e]), ht.1]
  simp only [hp]
  simp [hv]
theorem lparsetext_text {l : Lk} (h : lok l) (hd : ∀ x ∈ l.d, x < 256) : lparsetext (ltext l) = (l, 0) := by
  by_cases hv : l.v = 0
  · have hb := lbytes_byte h hd
    have hl := ltext_len h hd
    have hp := lparse_bytes h
    obtain ⟨s, hs⟩ := of58_old h hv hd
    have e : ltext l = 81 :: s := by unfold ltext; rw [if_pos hv]; exact hs
    have hi := in58_of hb
    rw [hs] at hi
    unfold lparsetext
    rw [if_neg (by omega), e, if_neg (by simp)]
    have ht : ltake (81 :: s) = some (0, lbytes l) := by show (in58 (81 :: s)).map _ = _; rw [hi]; rfl
    rw [ht]
    simp only [hp]
    simp [hv]
  · have hv1 : l.v = 1 := by
      rcases h with h | h
      · exact absurd h.1 hv
      · exact h.1
    unfold ltext
    rw [if_neg hv]
    exact lparsetext_in h hd hv1 2
/-- What is read of a text has just that text, or one of its texts in a base. -/
theorem lparsetext_back {s : List Nat} {l : Lk} (h : lparsetext s = (l, 0)) : lok l ∧ (∀ x ∈ l.d, x < 256) ∧ (s = ltext l ∨ (l.v = 1 ∧ ∃ base, 1 ≤ base ∧ base ≤ 3 ∧ s = ltextin l base)) := by
  unfold lparsetext at h
  split at h
  · simp at h
  · split at h
    · simp at h
    · rename_i hne
      cases ht : ltake s with
      | none => rw [ht] at h; simp at h
      | some p =>
        obtain ⟨v, b⟩ := p
        rw [ht] at h
        simp only at h
        split at h
        · rename_i h0
          simp only [Prod.mk.injEq] at h
          exact absurd h.2 h0
        · split at h
          · simp at h
          · rename_i h0 hv
            simp only [Prod.mk.injEq, and_true] at h
            simp only [ne_eq, Decidable.not_not] at h0 hv
            rw [h] at hv
            have hp : lparse b = (l, 0) := by rw [← h, ← h0]
            have key : ∀ {t : List Nat}, (∀ x ∈ b, x < 256) → lok l ∧ lbytes l = b := fun hb => lparse_back hb hp
            have dby : (∀ x ∈ b, x < 256) → lbytes l = b → ∀ x ∈ l.d, x < 256 := fun hb e x hx => hb x (by
              rw [← e]
              unfold lbytes
              split
              · simp [hx]
              · simp [hx])
            unfold ltake at ht
            split at ht
            · rename_i s'
              obtain ⟨b', hb', e⟩ := Option.map_eq_some_iff.1 ht
              simp only [Prod.mk.injEq] at e
              obtain ⟨e1, e2⟩ := e
              subst e2
              have g := of58_in hb'
              have k := key (t := []) g.2
              refine ⟨k.1, dby g.2 k.2, .inl ?_⟩
              unfold ltext
              rw [if_pos (by rw [hv, ← e1]), k.2]
              exact g.1.symm
            · rename_i s'
              obtain ⟨b', hb', e⟩ := Option.map_eq_some_iff.1 ht
              simp only [Prod.mk.injEq] at e
              obtain ⟨e1, e2⟩ := e
              subst e2
              have g := of16_in hb'
              have k := key (t := []) g.2
              refine ⟨k.1, dby g.2 k.2, .inr ⟨by rw [hv, ← e1], 1, by decide, by decide, ?_⟩⟩
              unfold ltextin
              rw [if_pos rfl, k.2, g.1]
            · rename_i s'
              obtain ⟨b', hb', e⟩ := Option.map_eq_some_iff.1 ht
              simp only [Prod.mk.injEq] at e
              obtain ⟨e1, e2⟩ := e
              subst e2
              have g := of32_in hb'
              have k := key (t := []) g.2
              refine ⟨k.1, dby g.2 k.2, .inr ⟨by rw [hv, ← e1], 2, by decide, by decide, ?_⟩⟩
              unfold ltextin
              rw [if_neg (by decide), if_pos rfl, k.2, g.1]
            · rename_i s'
              obtain ⟨b', hb', e⟩ := Option.map_eq_some_iff.1 ht
              simp only [Prod.mk.injEq] at e
              obtain ⟨e1, e2⟩ := e
              subst e2
              have g := of58_in hb'
              have k := key (t := []) g.2
              refine ⟨k.1, dby g.2 k.2, .inr ⟨by rw [hv, ← e1], 3, by decide, by decide, ?_⟩⟩
              unfold ltextin
              rw [if_neg (by decide), if_neg (by decide), k.2, g.1]
            · cases ht
theorem ltext_inj {l m : Lk} (hl : lok l) (hm : lok m) (dl : ∀ x ∈ l.d, x < 256) (dm : ∀ x ∈ m.d, x < 256) (h : ltext l = ltext m) : l = m := by
  have e1 := lparsetext_text hl dl
  have e2 := lparsetext_text hm dm
  rw [h, e2] at e1
  simp only [Prod.mk.injEq, and_true] at e1
  exact e1.symm
end
section
open Go.RowKit Go
theorem below_alloc4 (w : World) (o : Obj) : Below w.heap.size w (w.alloc o) := (Below.refl _ _).alloc (Nat.le_refl _) _
end
section
open Go.RowKit Go
theorem digs_ge {k n : Nat} (hk : k < 9) (hn : 128 ≤ n) : digs (9 - k) n = (n % 128 + 128) :: digs (9 - (k + 1)) (n / 128) := by
  obtain ⟨f, hf⟩ : ∃ f, 9 - k = f + 1 := ⟨8 - k, by omega⟩
  rw [hf, digs_big hn]
  congr 2
  omega
theorem digs_lt {k n : Nat} (hk : k < 9) (hn : n < 128) : digs (9 - k) n = [n] := by
  obtain ⟨f, hf⟩ : ∃ f, 9 - k = f + 1 := ⟨8 - k, by omega⟩
  rw [hf, digs_small hn]
end
section
open Go.RowKit Go
theorem lit_row4 (w : World) (B x : Nat) (hB : B ≤ w.heap.size) : (w.alloc (.cells #[.int .u8 ((x : Nat) : Int)] 5)).ownsRow B 5 1 (.slice (some ⟨w.heap.size, 0, none⟩) 1 1) 1 (bv [x]) :=
  ⟨rfl, .inr ⟨w.heap.size, 1, _, rfl, hB, heap_alloc_new w _, Nat.le_refl _, by unfold maxLen; omega, rfl, rfl⟩⟩
theorem own_mono4 {w : World} {b b' : Nat} {v : Value} {n : Nat} {xs : List Value} (h : w.ownsRow b 5 1 v n xs) (hb : b' ≤ b) : w.ownsRow b' 5 1 v n xs := by
  refine ⟨h.1, ?_⟩
  rcases h.2 with h1 | ⟨g, cap, cur, e, hg, r⟩
  · exact .inl h1
  · exact .inr ⟨g, cap, cur, e, Nat.le_trans hb hg, r⟩
theorem own_below4 {w w' : World} {b : Nat} {v : Value} {n : Nat} {xs : List Value} (h : w.ownsRow b 5 1 v n xs) (hb : Below w.heap.size w w') : w'.ownsRow b 5 1 v n xs := (Kp.of_below (S := fun _ => False) hb).owns h (fun _ _ e => e)
end
section
open Go.RowKit Go
/-- A link as a value. -/
def lkv (l : Lk) : Value := .agg #[.int .i64 l.v, .int .u64 (l.c : Nat), .int .u64 (l.h : Nat), .string (nstr l.d)]
end
section
open Go.RowKit Go
set_option maxRecDepth 1000000 in
/-- b[k:] of bytes. -/
theorem wpList_drop {ops : Array Oper} {rest : List Oper} {o : Oper} {a : Act} {Q : Exit → Act → World → Prop} {w : World} (hgd : o.guard = none) (x y : Nat) (ho : o.op = .slice 22 (.tmp x) (some (.tmp y)) none none)
    (v : Value) (xs : List Nat) (k : Nat) (hx : a.eval (.tmp x) = v) (hy : a.eval (.tmp y) = .int .i64 (k : Nat)) (hb : BSl w v xs) (hk : k ≤ xs.length)
    (h : ∀ ad n c, BSl w (.slice ad n c) (xs.drop k) → n = xs.length - k → wpList Tryd.prog ops Q rest (a.put o.dst (.slice ad n c)) w) : wpList Tryd.prog ops Q (o :: rest) a w := by
  have HB := hide hb
  obtain ⟨⟨ad, cap, rfl, hn, hc⟩, hmax, hby⟩ := hb
  have hcap := hn.1
  have hx2 : a.tmps[x]?.getD undef = .slice ad xs.length cap := by simpa [Act.eval] using hx
  have hy2 : a.tmps[y]?.getD undef = .int .i64 (k : Nat) := by simpa [Act.eval] using hy
  refine wpList_plain hgd fun K hK => ?_
  have HK := hide hK
  have HH := hide h
  obtain ⟨dst, op, ty, pos, after, guard⟩ := o
  simp only at ho hgd
  subst ho
  have hki : (k : Int) ≤ (xs.length : Int) := by omega
  have hkc : (k : Int) ≤ (cap : Int) := by omega
  clear hK h hgd hx hy
  cases ad with
  | none =>
    have hc0 := hn.2 rfl
    have hx0 : xs.length = 0 := by omega
    have hk0 : k = 0 := by omega
    subst hk0
    have hxe : xs = [] := List.eq_nil_of_length_eq_zero hx0
    subst hxe
    subst hc0
    go_simp
    exact HK.out _ _ (HH.out none 0 0 ⟨⟨none, 0, rfl, ⟨Nat.le_refl _, fun _ => rfl⟩, .inl rfl⟩, by simp, by simp⟩ rfl)
  | some ad =>
    have HC := hide hc
    clear hc hn
    by_cases hkk : k = cap
    · have hxk : xs.length = k := by omega
      have hdr : xs.drop k = [] := List.drop_of_length_le (by omega)
      subst hkk
      rw [hxk] at hx2 hki
      go_simp
      exact HK.out _ _ (HH.out (some ad) 0 0 (by rw [hdr]; exact ⟨⟨some ad, 0, rfl, ⟨Nat.le_refl _, fun e => by cases e⟩, .inl rfl⟩, by simp, by simp⟩) (by omega))
    · have hkl : (k : Int) < (cap : Int) := by omega
      have hkk2 : ¬ cap = k := fun e => hkk e.symm
      go_simp
      refine HK.out _ _ (HH.out (some (ad.add k)) (xs.length - k) (cap - k) ?_ rfl)
      have hlen : (xs.drop k).length = xs.length - k := List.length_drop
      refine ⟨⟨some (ad.add k), cap - k, by rw [hlen], ⟨by rw [hlen]; omega, fun e => by cases e⟩, ?_⟩, by rw [hlen]; omega, fun z hz => hby z (List.mem_of_mem_drop hz)⟩
      rcases HC.out with hx0 | ⟨b, off, e, hcell⟩
      · left
        rw [hx0]
        simp
      · right
        injection e with e
        subst e
        have hadd : (⟨b, off, none⟩ : Addr).add k = ⟨b, off + k, none⟩ := by unfold Addr.add; split <;> simp_all
        rw [hadd]
        refine ⟨b, off + k, rfl, fun j hj => ?_⟩
        rw [hlen] at hj
        have h2 := hcell (k + j) (by omega)
        rw [← Nat.add_assoc] at h2
        rw [h2]
        simp [List.getD, List.getElem?_drop]
end
section
open Go.RowKit Go
/-- No link, as cells. -/
def zlk : Array Value := #[.int .i64 0, .int .u64 0, .int .u64 0, .string ⟨#[]⟩]
theorem info61 : (Tryd.prog.info? 36).map (·.size) = some 4 := by kernel_rfl
/-- What First has in hand: the result's block and the link's. -/
structure Fq (w wx : World) (R L : Nat) (lv : Array Value) : Prop where
  r : wx.heap[R]? = some (.cells zlk 36 (0, 0))
  l : wx.heap[L]? = some (.cells lv 36 (0, 0))
  b : Below w.heap.size w wx
  rb : w.heap.size ≤ R
  lb : w.heap.size ≤ L
  ne : R ≠ L
theorem Fq.below {w wx wy : World} {R L : Nat} {lv : Array Value} (h : Fq w wx R L lv) (hb : Below wx.heap.size wx wy) : Fq w wy R L lv :=
  ⟨(hb.block R (blk_lt h.r)).trans h.r, (hb.block L (blk_lt h.l)).trans h.l, h.b.trans (hb.mono h.b.size), h.rb, h.lb, h.ne⟩
theorem Fq.set {w wx : World} {R L : Nat} {lv : Array Value} (h : Fq w wx R L lv) (j : Nat) (v : Value) : Fq w (wx.setCell ⟨L, j, none⟩ v) R L (lv.setIfInBounds j v) := by
  have hk : Kp (fun q => q = L) wx (wx.setCell ⟨L, j, none⟩ v) := (Kp.refl _ _).setCell _ _ (fun _ => rfl)
  have lb := h.lb
  exact ⟨(hk.block R (blk_lt h.r) h.ne).trans h.r, blk_set j v h.l, h.b.trans (hk.below h.b.size (fun q e => by omega)), h.rb, h.lb, h.ne⟩
theorem results_c3 {fn : Func} {p u q : Tmp} {ty : TypeId} (h : fn.results = #[.cell p ty, .tmp u, .tmp q]) (tmps : Array Value) (P : Program) (w : World) :
    (results fn tmps).run P w = ((asAddr (tmps.getD p undef)).run P w).andThen fun a w₁ => ((loadVar ty a).run P w₁).andThen fun v w₂ => .ok (.tuple #[v, tmps.getD u undef, tmps.getD q undef]) w₂ := by
  simp only [results, h]
  simp [Sem.run_bind, Result.andThen]
/-- No link is laid where none is. -/
theorem wpList_zero {ops : Array Oper} {rest : List Oper} {o : Oper} {a : Act} {Q : Exit → Act → World → Prop} {w : World} {p x : Operand} (hgd : o.guard = none) (ho : o.op = .store 36 p x) (g : Nat)
    (hp : a.eval p = .pointer (some ⟨g, 0, none⟩)) (hx : a.eval x = .agg zlk) (hg : w.heap[g]? = some (.cells zlk 36 (0, 0))) (h : wpList Tryd.prog ops Q rest (a.put o.dst undef) w) : wpList Tryd.prog ops Q (o :: rest) a w := by
  refine wpList_storeRow hgd ho g zlk zlk 36 hp hx hg info61 rfl (by kernel_rfl) ?_
  rw [setRow_self w g zlk 36 (0, 0) hg]
  exact h
end
section
open Go.RowKit Go
theorem dread_bytes4 {xs : List Nat} (h : ∀ x ∈ xs, x < 256) : ∀ x ∈ (dread xs).2.1, x < 256 := by
  intro x hx
  unfold dread at hx
  repeat' split at hx
  all_goals first | (simp at hx; done) | exact h x (List.mem_of_mem_drop (List.mem_of_mem_take hx))
end
section
open Go.RowKit Go

end
section
open Go.RowKit Go

end
section
open Go.RowKit Go
/-- Which stands ahead, where they differ. -/
def blt : List Nat → List Nat → Bool
  | x :: r, y :: q => if x = y then blt r q else decide (x < y)
  | _, _ => false
theorem blt_drop {x y : List Nat} {i : Nat} (hx : i < x.length) (hy : i < y.length) : blt (x.drop i) (y.drop i) = if x.getD i 0 = y.getD i 0 then blt (x.drop (i + 1)) (y.drop (i + 1)) else decide (x.getD i 0 < y.getD i 0) := by
  rw [List.drop_eq_getElem_cons hx, List.drop_eq_getElem_cons hy]
  simp [blt, List.getD, hx, hy]
theorem blt_end {x y : List Nat} {i : Nat} (h : ¬ i < x.length ∨ ¬ i < y.length) : blt (x.drop i) (y.drop i) = false := by
  rcases h with h | h
  · rw [List.drop_of_length_le (by omega)]
    rfl
  · rw [List.drop_of_length_le (l := y) (by omega)]
    cases x.drop i <;> rfl
theorem bsl_cell {w : World} {a : Option Addr} {n cap : Nat} {xs : List Nat} (h : BSl w (.slice a n cap) xs) {i : Nat} (hi : i < xs.length) : ∃ b off, a = some ⟨b, off, none⟩ ∧ w.cell? ⟨b, off + i, none⟩ = some (.int .u8 ((xs.getD i 0 : Nat) : Int)) := by
  obtain ⟨⟨a', cap', e, _, hc⟩, _, _⟩ := h
  injection e with e1 e2 e3
  subst e1
  rcases hc with hc | ⟨b, off, ha, hc⟩
  · rw [hc] at hi
    simp at hi
  · exact ⟨b, off, ha, hc i hi⟩
/-- The bytes that Bytes tells. -/
def lb (v : Int) (c h : Nat) (s : ByteArray) : List Nat := if lok ⟨v, c, h, sl s⟩ then lbytes ⟨v, c, h, sl s⟩ else []
theorem lb_byte (v : Int) (c h : Nat) (s : ByteArray) : ∀ x ∈ lb v c h s, x < 256 := by
  unfold lb
  split
  · rename_i hl
    exact lbytes_byte hl (sl_byte s)
  · simp
theorem lb_len (v : Int) (c h : Nat) (s : ByteArray) : (lb v c h s).length ≤ 76 := by
  unfold lb
  split
  · rename_i hl
    exact lbytes_len hl
  · simp
end
section
open Go.RowKit Go
theorem sl_nstr {xs : List Nat} (h : ∀ x ∈ xs, x < 256) : sl (nstr xs) = xs := by
  have key : ∀ l : List Nat, (∀ x ∈ l, x < 256) → (nstr l).data.toList.map UInt8.toNat = l := by
    intro l hl
    simp only [nstr, strOfNums_data, List.map_map]
    conv => rhs; rw [← List.map_id l]
    apply List.map_congr_left
    intro x hx
    have := hl x hx
    simp; omega
  exact key xs h
/-- The link of a block (P4.2). -/
def lof (c : Nat) (b : List Nat) : Lk × Nat := if c < 9223372036854775808 then (⟨1, c, 18, sha b⟩, 0) else (Lk.none, 40)
end
section
open Go.RowKit Go
/-- The number that digits make, the first one the lowest. -/
def valL (b : Nat) : List Nat → Nat
  | [] => 0
  | d :: l => d + b * valL b l
theorem valL_rev (b : Nat) : ∀ l, valL b l = valB b l.reverse
  | [] => rfl
  | d :: l => by
    rw [valL, valL_rev b l, List.reverse_cons, valB_snoc, Nat.mul_comm]
    omega
theorem valL_app (b : Nat) : ∀ l m, valL b (l ++ m) = valL b l + b ^ l.length * valL b m
  | [], m => by simp [valL]
  | d :: l, m => by
    rw [List.cons_append, valL, valL_app b l m, valL, List.length_cons, Nat.pow_succ, Nat.mul_add, Nat.mul_comm (b ^ l.length) b, Nat.mul_assoc]
    omega
theorem valL_lt {b : Nat} (hb : 0 < b) {l : List Nat} (h : ∀ d ∈ l, d < b) : valL b l < b ^ l.length := by
  rw [valL_rev, ← List.length_reverse]
  exact valB_lt hb (fun d hd => h d (List.mem_reverse.1 hd))
theorem valL_digB {b : Nat} (hb : 2 ≤ b) {l : List Nat} (h : ∀ d ∈ l, d < b) (h0 : l = [] ∨ b ^ (l.length - 1) ≤ valL b l) : l.reverse = digB b (valL b l) := by
  rw [valL_rev]
  symm
  refine digB_valB hb _ _ rfl (fun d hd => h d (List.mem_reverse.1 hd)) ?_
  rcases h0 with rfl | h0
  · simp
  · intro e
    cases hl : l with
    | nil => rw [hl] at e; simp at e
    | cons x m =>
      obtain ⟨l0, d, hld⟩ : ∃ l0 d, l = l0 ++ [d] := ⟨l.dropLast, l.getLast (by rw [hl]; simp), (List.dropLast_concat_getLast (by rw [hl]; simp)).symm⟩
      rw [hld] at e h0 h
      rw [List.reverse_append] at e
      simp at e
      subst e
      rw [valL_app] at h0
      have := valL_lt (b := b) (by omega) (l := l0) (fun d hd => h d (by simp [hd]))
      simp [valL] at h0
      omega
theorem valB_zeros (b : Nat) (d : List Nat) : ∀ z, valB b (List.replicate z 0 ++ d) = valB b d
  | 0 => by simp
  | z + 1 => by rw [List.replicate_succ, List.cons_append, valB_cons, Nat.zero_mul, Nat.zero_add, valB_zeros b d z]
theorem conv_val (a b : Nat) (l : List Nat) : conv a b l = List.replicate (l.takeWhile (· == 0)).length 0 ++ digB b (valB a l) := by
  unfold conv
  congr 2
  have h := valB_zeros a (l.dropWhile (· == 0)) (l.takeWhile (· == 0)).length
  rw [← zeros_take, List.takeWhile_append_dropWhile] at h
  exact h.symm
theorem tw_snoc {b : Nat} (hb : 0 < b) (n : Nat) : ∀ p : List Nat, ((p ++ [n]).takeWhile (· == 0)).length = if valB b (p ++ [n]) = 0 then (p.takeWhile (· == 0)).length + 1 else (p.takeWhile (· == 0)).length
  | [] => by
    have e : valB b [n] = n := by rw [valB_cons]; simp [valB]
    rw [List.nil_append, e]
    by_cases h : n = 0
    · subst h
      simp
    · simp [h]
  | x :: p => by
    rw [List.cons_append, valB_cons]
    by_cases h : x = 0
    · subst h
      have ih := tw_snoc hb n p
      rw [Nat.zero_mul, Nat.zero_add]
      simp only [List.takeWhile_cons, beq_self_eq_true, if_true, List.length_cons, ih]
      split <;> rfl
    · have hp : 0 < x * b ^ (p ++ [n]).length := Nat.mul_pos (by omega) (Nat.pow_pos hb)
      rw [if_neg (by omega)]
      simp [h]

/-- What regroup has in hand: the digits told, the bits that wait. -/
structure Rg (tt : Nat) (B out R : List Nat) : Prop where
  e : B = out.flatMap (bitsW tt) ++ R
  o : ∀ x ∈ out, x < 2 ^ tt
  r : ∀ x ∈ R, x < 2
theorem Rg.start (tt : Nat) : Rg tt [] [] [] := ⟨rfl, by simp, by simp⟩
theorem Rg.more {tt f n : Nat} {B out R : List Nat} (h : Rg tt B out R) : Rg tt (B ++ bitsW f n) out (R ++ bitsW f n) :=
  ⟨by rw [h.e, List.append_assoc], h.o, fun x hx => by
    rcases List.mem_append.1 hx with hx | hx
    · exact h.r x hx
    · exact bitsW_lt f n x hx⟩
theorem Rg.take {tt : Nat} {B out R : List Nat} (h : Rg tt B out R) (hl : tt ≤ R.length) : Rg tt B (out ++ [valB 2 (R.take tt)]) (R.drop tt) := by
  have hl2 : (R.take tt).length = tt := by rw [List.length_take]; omega
  have hb : ∀ x ∈ R.take tt, x < 2 := fun x hx => h.r x (List.mem_of_mem_take hx)
  refine ⟨?_, ?_, fun x hx => h.r x (List.mem_of_mem_drop hx)⟩
  · have e := bitsW_valB (R.take tt) hb
    rw [hl2] at e
    rw [List.flatMap_append, List.flatMap_singleton, e, List.append_assoc, List.take_append_drop]
    exact h.e
  · intro x hx
    rcases List.mem_append.1 hx with hx | hx
    · exact h.o x hx
    · simp only [List.mem_singleton] at hx
      subst hx
      have := valB_lt (b := 2) (by decide) hb
      rwa [hl2] at this
theorem Rg.grp {tt : Nat} {B out R : List Nat} (h : Rg tt B out R) (hw : 0 < tt) (hl : R.length < tt) : out = grp tt B := by
  rw [h.e]
  exact (grp_bits hw hl h.o).symm
theorem rest_shift {R : List Nat} {tt : Nat} (h : ∀ x ∈ R, x < 2) : valB 2 R / 2 ^ (R.length - tt) = valB 2 (R.take tt) ∧ valB 2 R % 2 ^ (R.length - tt) = valB 2 (R.drop tt) := by
  have hd : (R.drop tt).length = R.length - tt := List.length_drop
  have hv := valB_lt (b := 2) (by decide) (l := R.drop tt) (fun x hx => h x (List.mem_of_mem_drop hx))
  have e := valB_app 2 (R.take tt) (R.drop tt)
  rw [List.take_append_drop] at e
  rw [hd] at hv e
  rw [e, Nat.mul_comm]
  exact ⟨by rw [Nat.mul_add_div (Nat.pow_pos (by decide)), Nat.div_eq_of_lt hv, Nat.add_zero], by rw [Nat.mul_add_mod, Nat.mod_eq_of_lt hv]⟩
theorem rest_more {R : List Nat} {f n : Nat} (hn : n < 2 ^ f) : valB 2 (R ++ bitsW f n) = valB 2 R * 2 ^ f + n := by
  rw [valB_app, bitsW_len, valB_bitsW, Nat.mod_eq_of_lt hn]
/-- The last digit, filled. -/
theorem encW_rg {w : Nat} (hw : 0 < w) {b out R : List Nat} (h : Rg w (b.flatMap (bitsW 8)) out R) (hl : R.length < w) : encW w b = out ++ (if R = [] then [] else [valB 2 R * 2 ^ (w - R.length)]) := by
  have hlen := congrArg List.length h.e
  rw [flat_len, List.length_append, flat_len] at hlen
  have hm : b.length * 8 % w = R.length := by rw [hlen, Nat.mul_comm, Nat.mul_add_mod, Nat.mod_eq_of_lt hl]
  have hfl : ∀ (o : List Nat) (z : List Nat), (∀ x ∈ o, x < 2 ^ w) → grp w (o.flatMap (bitsW w) ++ z) = o ++ grp w z := by
    intro o
    induction o with
    | nil => intro z _; rfl
    | cons x o ih => intro z ho; rw [List.flatMap_cons, List.append_assoc, grp_app hw (bitsW_len w x), valB_bitsW, Nat.mod_eq_of_lt (ho x (by simp)), ih z (fun y hy => ho y (List.mem_cons_of_mem _ hy)), List.cons_append]
  unfold encW
  rw [hm, h.e, List.append_assoc, hfl _ _ h.o]
  congr 1
  by_cases h0 : R = []
  · subst h0
    rw [if_pos rfl, List.length_nil, Nat.sub_zero, Nat.mod_self]
    exact grp_short (by simpa using hw)
  · have hp : 0 < R.length := List.length_pos_iff.2 h0
    rw [if_neg h0, Nat.mod_eq_of_lt (by omega)]
    have hr : (R ++ List.replicate (w - R.length) 0).length = w := by rw [List.length_append, List.length_replicate]; omega
    have e := grp_app hw hr []
    rw [List.append_nil] at e
    rw [e, grp_short (by simpa using hw), valB_app, List.length_replicate]
    congr 1
    have hz := valB_zeros 2 [] (w - R.length)
    rw [List.append_nil] at hz
    rw [hz]
    rfl
theorem valB2_zero : ∀ {R : List Nat}, (∀ x ∈ R, x < 2) → valB 2 R = 0 → R = List.replicate R.length 0
  | [], _, _ => rfl
  | x :: R, h, h0 => by
    rw [valB_cons] at h0
    have hx : x = 0 := by
      rcases Nat.eq_zero_or_pos x with e | e
      · exact e
      · have := Nat.mul_pos e (Nat.pow_pos (n := R.length) (show 0 < 2 by decide))
        omega
    subst hx
    rw [List.length_cons, List.replicate_succ, ← valB2_zero (fun y hy => h y (List.mem_cons_of_mem _ hy)) (by omega)]
/-- Digits are the digits of the bytes that they make just if no whole one is left and the bits that are left are 0. -/
theorem enc_dec {w : Nat} (hw : 0 < w) {l out R : List Nat} (hd : ∀ x ∈ l, x < 2 ^ w) (h : Rg 8 (l.flatMap (bitsW w)) out R) (hl : R.length < 8) : encW w out = l ↔ R.length < w ∧ valB 2 R = 0 := by
  have hlen := congrArg List.length h.e
  rw [flat_len, List.length_append, flat_len] at hlen
  have hp : (w - out.length * 8 % w) % w < w := Nat.mod_lt _ hw
  constructor
  · intro e
    have hd2 := congrArg (List.flatMap (bitsW w)) e
    unfold encW at hd2
    have hdiv : (out.length * 8 + (w - out.length * 8 % w) % w) % w = 0 := by
      have h1 := Nat.mod_lt (out.length * 8) hw
      by_cases h0 : out.length * 8 % w = 0
      · rw [h0, Nat.sub_zero, Nat.mod_self, Nat.add_zero]
        exact h0
      · rw [Nat.mod_eq_of_lt (a := w - out.length * 8 % w) (by omega)]
        have h2 := Nat.div_add_mod (out.length * 8) w
        have e : out.length * 8 + (w - out.length * 8 % w) = w * (out.length * 8 / w + 1) := by rw [Nat.mul_add, Nat.mul_one]; omega
        rw [e]
        exact Nat.mul_mod_right _ _
    obtain ⟨k, hk⟩ := Nat.dvd_of_mod_eq_zero hdiv
    rw [bits_grp hw k _ (by rw [List.length_append, flat_len, List.length_replicate, hk, Nat.mul_comm]) (fun d hd => by
      rcases List.mem_append.1 hd with h | h
      · exact flat_lt 8 out d h
      · have := List.eq_of_mem_replicate h
        omega), h.e] at hd2
    have hR := List.append_cancel_left hd2
    rw [← hR, List.length_replicate]
    have hz := valB_zeros 2 [] ((w - out.length * 8 % w) % w)
    rw [List.append_nil] at hz
    exact ⟨hp, hz⟩
  · rintro ⟨h1, h2⟩
    have hR := valB2_zero h.r h2
    have hpad : (w - out.length * 8 % w) % w = R.length := by
      have h3 := Nat.mod_lt (out.length * 8) hw
      have h4 := Nat.div_add_mod (out.length * 8) w
      have h5 : (out.length * 8 % w + R.length) % w = 0 := by
        have : (out.length * 8 + R.length) % w = 0 := by rw [← hlen]; exact Nat.mul_mod_left _ _
        rw [← h4, Nat.add_assoc, Nat.mul_add_mod] at this
        exact this
      generalize out.length * 8 % w = m at *
      rcases Nat.eq_zero_or_pos m with e | e
      · subst e
        rw [Nat.zero_add, Nat.mod_eq_of_lt h1] at h5
        rw [Nat.sub_zero, Nat.mod_self, h5]
      · have h6 : m + R.length < 2 * w := by omega
        have h7 : m + R.length = w := by
          rcases Nat.lt_or_ge (m + R.length) w with h | h
          · rw [Nat.mod_eq_of_lt h] at h5
            omega
          · rw [Nat.mod_eq_sub_mod h, Nat.mod_eq_of_lt (by omega)] at h5
            omega
        rw [Nat.mod_eq_of_lt (by omega)]
        omega
    unfold encW
    rw [hpad, ← hR, ← h.e]
    have := grp_bits hw (z := []) (by simpa using hw) hd
    rwa [List.append_nil] at this
end
section
open Go.RowKit Go
theorem nstr_sl (s : ByteArray) : nstr (sl s) = s := by
  obtain ⟨⟨l⟩⟩ := s
  have e : nstr (sl ⟨⟨l⟩⟩) = ⟨(nstr (sl ⟨⟨l⟩⟩)).data⟩ := rfl
  rw [e]
  congr 1
  apply Array.ext'
  simp only [nstr, sl, strOfNums_data, List.map_map]
  conv => rhs; rw [← List.map_id l]
  apply List.map_congr_left
  intro x _
  simp
theorem nstr_size {xs : List Nat} (h : ∀ x ∈ xs, x < 256) : (nstr xs).size = xs.length := by rw [← sl_len, sl_nstr h]
/-- A link's cells. -/
def lcs (l : Lk) : Array Value := #[.int .i64 l.v, .int .u64 (l.c : Nat), .int .u64 (l.h : Nat), .string (nstr l.d)]
theorem lkv_lcs (l : Lk) : lkv l = .agg (lcs l) := rfl
/-- A link that the program can hold. -/
structure Lkb (l : Lk) : Prop where
  c : l.c < 18446744073709551616
  h : l.h < 18446744073709551616
  d : ∀ x ∈ l.d, x < 256
  n : l.d.length ≤ 9223372036854775807
theorem Lkb.size {l : Lk} (h : Lkb l) : (nstr l.d).size = l.d.length := nstr_size h.d
theorem lk_ext {a b : Lk} : a = b ↔ a.v = b.v ∧ a.c = b.c ∧ a.h = b.h ∧ a.d = b.d := by
  constructor
  · rintro rfl
    exact ⟨rfl, rfl, rfl, rfl⟩
  · obtain ⟨_, _, _, _⟩ := a
    obtain ⟨_, _, _, _⟩ := b
    rintro ⟨h1, h2, h3, h4⟩
    simp only at h1 h2 h3 h4
    subst h1 h2 h3 h4
    rfl
instance : DecidableEq Lk := fun a b => decidable_of_iff _ (lk_ext (a := a) (b := b)).symm
theorem eqlk (w : World) {a b : Lk} (ha : ∀ x ∈ a.d, x < 256) (hb : ∀ x ∈ b.d, x < 256) : (Op.equalIn 10000 36 (.agg (lcs a)) (.agg (lcs b))).run Tryd.prog w = .ok (decide (a = b)) w := by
  have u3 := Tryd.underlying3
  have u9 := Tryd.underlying9
  have u33 := Tryd.underlying34
  have a3 := Tryd.isAgg3
  have a9 := Tryd.isAgg9
  have a33 := Tryd.isAgg34
  have z3 := Tryd.sizeOf3
  have z9 := Tryd.sizeOf9
  have z33 := Tryd.sizeOf34
  have hS : Tryd.prog.underlying 36 = some (.struct (Tryd.prog.fieldsOf 36)) := by kernel_rfl
  have hp : Tryd.prog.stoodInHeld 36 = false := by kernel_rfl
  have hs : ((nstr a.d).toList == (nstr b.d).toList) = decide (a.d = b.d) := by
    by_cases h : a.d = b.d
    · rw [h]; simp
    · rw [beq_eq_false_iff_ne.2 (fun e => h (nstr_inj ha hb e))]; simp [h]
  have hr : decide (a = b) = (decide (a.v = b.v) && (decide (a.c = b.c) && (decide (a.h = b.h) && decide (a.d = b.d)))) := by
    rw [Bool.eq_iff_iff]
    simp [lk_ext]
  rw [hr]
  unfold lcs
  rw [show (10000 : Nat) = 9999 + 1 from rfl, run_equalIn_agg w 9999 36 _ _ hS hp]
  simp only [Program.fieldsOf, Tryd.underlying36]
  go_simp
  by_cases h1 : a.v = b.v <;> by_cases h2 : a.c = b.c <;> by_cases h3 : a.h = b.h <;> by_cases h4 : a.d = b.d <;> first | (simp [h1, h2, h3, h4]; done) | (simp [h1, h2, h3, h4]; omega)

theorem eqg : Tryd.prog.eqGuardType Tryd.prog.depth 36 = false := by kernel_rfl
/-- A whole struct by value, as a step of a region that draws. -/
theorem qstep_link {C : World → Prop} {ops : Array Oper} {o : Oper} {a : Act} {K : Act → Prop} {p : Operand} (hgd : Region.wanted o (yielded ops a.tmps) = true) (ho : o.op = .load 36 p) (g : Nat) (cs : Array Value)
    (hp : a.eval p = .pointer (some ⟨g, 0, none⟩)) (hn : cs.size = 4) (hc : ∀ w, C w → w.heap[g]? = some (.cells cs 36 (0, 0)))
    (h : K (a.put o.dst (.agg cs))) : if Region.wanted o (yielded ops a.tmps) = true then o.quiet Tryd.prog a C K else K (a.put o.dst undef) := by
  rw [if_pos hgd]
  refine ⟨.agg cs, fun w hC => ?_, h⟩
  have hr : (Instr.loadAt 36 (.pointer (some ⟨g, 0, none⟩))).run Tryd.prog w = .ok (.agg cs) w := by
    simp only [Instr.loadAt, Instr.sureAddr, Sem.run_bind, Sem.run_pure, Result.andThen]
    exact run_loadVar_row (P := Tryd.prog) w g 36 36 cs (0, 0) _ (hc w hC) Tryd.underlying36 rfl (by rw [hn]; exact info61)
  unfold Oper.quietAt execOp
  simp only [ho, Sem.run_bind, hp, hr, Result.andThen_ok]
  exact ⟨rfl, rfl⟩

theorem wpList_wanted {P : Program} {ops : Array Oper} {Q : Exit → Act → World → Prop} {a : Act} {w : World} {rest : List Oper} {o : Oper} (hw : Region.wanted o (yielded ops a.tmps) = true)
    (h : ∀ K : Act → World → Prop, (∀ a w, wpList P ops Q rest a w → K a w) → o.wp P a w K Q) : wpList P ops Q (o :: rest) a w := wpList_step fun K hK => by rw [if_pos hw]; exact h K hK
/-- Two links held against each other. -/
theorem exec_eqlk {o : Oper} {a : Act} {x y : Operand} {T2 : TypeId} {A B : Array Value} {r : Bool} {w : World} (ho : o.op = .binOp .eql 36 x y T2) (hx : a.eval x = .agg A) (hy : a.eval y = .agg B) (he : (Op.equalIn 10000 36 (.agg A) (.agg B)).run Tryd.prog w = .ok r w) : (execOp a.eval o).run Tryd.prog w = .ok (.value (.bool r)) w := by
  unfold execOp
  simp only [ho, Sem.run_bind, hx, hy, run_eqGuard_agg w _ 36 x y A B eqg, run_eql_struct, he, Result.andThen_ok]
  rfl
theorem exec_nelk {o : Oper} {a : Act} {x y : Operand} {T2 : TypeId} {A B : Array Value} {r : Bool} {w : World} (ho : o.op = .binOp .neq 36 x y T2) (hx : a.eval x = .agg A) (hy : a.eval y = .agg B) (he : (Op.equalIn 10000 36 (.agg A) (.agg B)).run Tryd.prog w = .ok r w) : (execOp a.eval o).run Tryd.prog w = .ok (.value (.bool (!r))) w := by
  unfold execOp
  simp only [ho, Sem.run_bind, hx, hy, run_eqGuard_agg w _ 36 x y A B eqg, run_neq_struct, he, Result.andThen_ok]
  rfl
theorem qstep_eqlk {C : World → Prop} {ops : Array Oper} {o : Oper} {a : Act} {K : Act → Prop} {x y : Operand} {T2 : TypeId} (hgd : Region.wanted o (yielded ops a.tmps) = true) (ho : o.op = .binOp .eql 36 x y T2) (A B : Array Value) (r : Bool)
    (hx : a.eval x = .agg A) (hy : a.eval y = .agg B) (he : ∀ w, C w → (Op.equalIn 10000 36 (.agg A) (.agg B)).run Tryd.prog w = .ok r w)
    (h : K (a.put o.dst (.bool r))) : if Region.wanted o (yielded ops a.tmps) = true then o.quiet Tryd.prog a C K else K (a.put o.dst undef) := by
  rw [if_pos hgd]
  refine ⟨.bool r, fun w hC => ?_, h⟩
  unfold Oper.quietAt
  rw [exec_eqlk ho hx hy (he w hC)]
  exact ⟨rfl, rfl⟩
theorem wpList_eqlk {ops : Array Oper} {rest : List Oper} {o : Oper} {a : Act} {Q : Exit → Act → World → Prop} {w : World} {x y : Operand} {T2 : TypeId} (hgd : Region.wanted o (yielded ops a.tmps) = true) (ho : o.op = .binOp .eql 36 x y T2) (A B : Array Value) (r : Bool)
    (hx : a.eval x = .agg A) (hy : a.eval y = .agg B) (he : (Op.equalIn 10000 36 (.agg A) (.agg B)).run Tryd.prog w = .ok r w) (h : wpList Tryd.prog ops Q rest (a.put o.dst (.bool r)) w) : wpList Tryd.prog ops Q (o :: rest) a w := by
  refine wpList_wanted hgd fun K hK => ?_
  unfold Oper.wp
  rw [exec_eqlk ho hx hy he]
  exact hK _ _ h
theorem wpList_nelk {ops : Array Oper} {rest : List Oper} {o : Oper} {a : Act} {Q : Exit → Act → World → Prop} {w : World} {x y : Operand} {T2 : TypeId} (hgd : Region.wanted o (yielded ops a.tmps) = true) (ho : o.op = .binOp .neq 36 x y T2) (A B : Array Value) (r : Bool)
    (hx : a.eval x = .agg A) (hy : a.eval y = .agg B) (he : (Op.equalIn 10000 36 (.agg A) (.agg B)).run Tryd.prog w = .ok r w) (h : wpList Tryd.prog ops Q rest (a.put o.dst (.bool (!r))) w) : wpList Tryd.prog ops Q (o :: rest) a w := by
  refine wpList_wanted hgd fun K hK => ?_
  unfold Oper.wp
  rw [exec_nelk ho hx hy he]
  exact hK _ _ h
theorem wpList_loadLk {ops : Array Oper} {rest : List Oper} {o : Oper} {a : Act} {Q : Exit → Act → World → Prop} {w : World} {p : Operand} (hgd : Region.wanted o (yielded ops a.tmps) = true) (ho : o.op = .load 36 p) (g : Nat) (cs : Array Value)
    (hp : a.eval p = .pointer (some ⟨g, 0, none⟩)) (hn : cs.size = 4) (hg : w.heap[g]? = some (.cells cs 36 (0, 0))) (h : wpList Tryd.prog ops Q rest (a.put o.dst (.agg cs)) w) : wpList Tryd.prog ops Q (o :: rest) a w := by
  refine wpList_wanted hgd fun K hK => ?_
  unfold Oper.wp execOp
  have hr : (Instr.loadAt 36 (.pointer (some ⟨g, 0, none⟩))).run Tryd.prog w = .ok (.agg cs) w := by
    simp only [Instr.loadAt, Instr.sureAddr, Sem.run_bind, Sem.run_pure, Result.andThen]
    exact run_loadVar_row (P := Tryd.prog) w g 36 36 cs (0, 0) _ hg Tryd.underlying36 rfl (by rw [hn]; exact info61)
  simp only [ho, Sem.run_bind, hp, hr, Result.andThen_ok]
  exact hK _ _ h

set_option maxRecDepth 1000000 in
theorem old_any (w : World) (s : ByteArray) : Calls Tryd.prog 42 #[.string s] w fun e w' => e = .returned (.agg #[.int .i64 0, .int .u64 112, .int .u64 18, .string s]) ∧ Below w.heap.size w w' := by
  go_enter Tryd.func42, Tryd.ntmps42
  go_wp2_with fail
  exact bodyPost_ret (v := .agg #[.int .i64 0, .int .u64 112, .int .u64 18, .string s]) ((results_one (p := 2) (ty := 36) rfl _ _ _).trans (by go_simp; first | done | rfl)) rfl ⟨rfl, below_alloc4 w _⟩
end
section
open Go.ChangeShapes Go.WideShapes Go.ChangeAt Go.RowKit Go.Deep Go.Joins Go
/-- A value, plainly: kind, flag, sign, number, a float's bits, text, bytes, link, keys, items. -/
inductive Tv where
  | mk (k : Int) (f g : Bool) (n b : Nat) (s : ByteArray) (y : List Nat) (l : Lk) (ks : List ByteArray) (is : List Tv)
def Tv.k : Tv → Int | .mk k _ _ _ _ _ _ _ _ _ => k
def Tv.f : Tv → Bool | .mk _ f _ _ _ _ _ _ _ _ => f
def Tv.g : Tv → Bool | .mk _ _ g _ _ _ _ _ _ _ => g
def Tv.n : Tv → Nat | .mk _ _ _ n _ _ _ _ _ _ => n
def Tv.b : Tv → Nat | .mk _ _ _ _ b _ _ _ _ _ => b
def Tv.s : Tv → ByteArray | .mk _ _ _ _ _ s _ _ _ _ => s
def Tv.y : Tv → List Nat | .mk _ _ _ _ _ _ y _ _ _ => y
def Tv.l : Tv → Lk | .mk _ _ _ _ _ _ _ l _ _ => l
def Tv.ks : Tv → List ByteArray | .mk _ _ _ _ _ _ _ _ ks _ => ks
def Tv.is : Tv → List Tv | .mk _ _ _ _ _ _ _ _ _ is => is
theorem Tv.is_lt {t u : Tv} (h : u ∈ t.is) : SizeOf.sizeOf u < SizeOf.sizeOf t := by
  obtain ⟨k, f, g, n, b, s, y, l, ks, is⟩ := t
  have h1 := List.sizeOf_lt_of_mem h
  simp only [Tv.is] at h1
  simp only [Tv.mk.sizeOf_spec]
  omega
/-- A value's cells. -/
def vcs (t : Tv) (vy vk vi : Value) : Array Value :=
  #[.int .i64 t.k, .bool t.f, .bool t.g, .int .u64 (t.n : Nat), .int .u64 (t.b : Nat), .string t.s, vy, .int .i64 t.l.v, .int .u64 (t.l.c : Nat), .int .u64 (t.l.h : Nat), .string (nstr t.l.d), vk, vi]
/-- A slice of strings, plainly. -/
structure SSl (w : World) (v : Value) (ks : List ByteArray) : Prop where
  form : ∃ a cap, v = .slice a ks.length cap ∧ (ks.length ≤ cap ∧ (a = none → cap = 0)) ∧ (ks = [] ∨ ∃ b off, a = some ⟨b, off, none⟩ ∧ ∀ j s, ks[j]? = some s → w.cell? ⟨b, off + j, none⟩ = some (.string s))
  max : ks.length ≤ 140737488351232
  size : ∀ s ∈ ks, s.size ≤ 140737488351232
theorem SSl.move {w w' : World} {v : Value} {ks : List ByteArray} (h : SSl w v ks) (hm : ∀ p u, w.cell? p = some u → w'.cell? p = some u) : SSl w' v ks := by
  obtain ⟨⟨a, c, hv, hn, hc⟩, h1, h2⟩ := h
  refine ⟨⟨a, c, hv, hn, ?_⟩, h1, h2⟩
  rcases hc with hc | ⟨b, off, ha, hc⟩
  · exact .inl hc
  · exact .inr ⟨b, off, ha, fun j s hj => hm _ _ (hc j s hj)⟩
/-- A value in memory: these cells read as this value. -/
inductive Tin (w : World) : Tv → Array Value → Prop
  | mk (t : Tv) (vy vk : Value) (a : Option Addr) (cap : Nat) (cs : Nat → Array Value) (hn : t.n < 18446744073709551616) (hb : t.b < 18446744073709551616) (hs : t.s.size ≤ 140737488351232) (hy : BSl w vy t.y) (hyl : t.y.length ≤ 140737488351232) (hl : Lkb t.l) (hld : t.l.d.length ≤ 140737488351232) (hk : SSl w vk t.ks)
      (hc : t.is.length ≤ cap ∧ (a = none → cap = 0)) (hm : t.is.length ≤ 140737488351232) (hi : ∀ i u, t.is[i]? = some u → Tin w u (cs i))
      (ha : t.is = [] ∨ ∃ b off, a = some ⟨b, off, none⟩ ∧ ∀ i, i < t.is.length → ∀ j u, (cs i)[j]? = some u → w.cell? ⟨b, off + i * 13 + j, none⟩ = some u) : Tin w t (vcs t vy vk (.slice a t.is.length cap))
theorem Tin.move {w w' : World} {t : Tv} {cs : Array Value} (h : Tin w t cs) (hm : ∀ p u, w.cell? p = some u → w'.cell? p = some u) : Tin w' t cs := by
  induction h with
  | mk t vy vk a cap cs hn hb hs hy hyl hl hld hk hc hmm hi ha ih =>
    refine Tin.mk t vy vk a cap cs hn hb hs (hy.move hm) hyl hl hld (hk.move hm) hc hmm ih ?_
    rcases ha with ha | ⟨b, off, e, ha⟩
    · exact .inl ha
    · exact .inr ⟨b, off, e, fun i hi j u hu => hm _ _ (ha i hi j u hu)⟩
/-- A slice of values. -/
structure VSl (w : World) (v : Value) (is : List Tv) : Prop where
  form : ∃ a cap, v = .slice a is.length cap ∧ (is.length ≤ cap ∧ (a = none → cap = 0)) ∧ (is = [] ∨ ∃ b off, a = some ⟨b, off, none⟩ ∧ ∀ i t, is[i]? = some t → ∃ cs, Tin w t cs ∧ ∀ j u, cs[j]? = some u → w.cell? ⟨b, off + i * 13 + j, none⟩ = some u)
  max : is.length ≤ 140737488351232
theorem VSl.move {w w' : World} {v : Value} {is : List Tv} (h : VSl w v is) (hm : ∀ p u, w.cell? p = some u → w'.cell? p = some u) : VSl w' v is := by
  obtain ⟨⟨a, c, hv, hn, hc⟩, h1⟩ := h
  refine ⟨⟨a, c, hv, hn, ?_⟩, h1⟩
  rcases hc with hc | ⟨b, off, ha, hc⟩
  · exact .inl hc
  · exact .inr ⟨b, off, ha, fun i t hi => by
      obtain ⟨cs, h1, h2⟩ := hc i t hi
      exact ⟨cs, h1.move hm, fun j u hu => hm _ _ (h2 j u hu)⟩⟩
/-- The bounds of a value's own fields. -/
structure Tbd (t : Tv) : Prop where
  n : t.n < 18446744073709551616
  b : t.b < 18446744073709551616
  s : t.s.size ≤ 140737488351232
  y : t.y.length ≤ 140737488351232
  l : Lkb t.l
  d : t.l.d.length ≤ 140737488351232
/-- A value's parts. -/
theorem Tin.parts {w : World} {t : Tv} {c : Array Value} (h : Tin w t c) : ∃ vy vk vi, c = vcs t vy vk vi ∧ BSl w vy t.y ∧ SSl w vk t.ks ∧ VSl w vi t.is ∧ Tbd t := by
  cases h with
  | mk _ vy vk a cap cs hn hb hs hy hyl hl hld hk hc hm hi ha =>
    refine ⟨vy, vk, _, rfl, hy, hk, ⟨⟨a, cap, rfl, hc, ?_⟩, hm⟩, ⟨hn, hb, hs, hyl, hl, hld⟩⟩
    rcases ha with ha | ⟨b, off, e, ha⟩
    · exact .inl ha
    · refine .inr ⟨b, off, e, fun i t' hi' => ⟨cs i, hi i t' hi', fun j u hu => ha i ?_ j u hu⟩⟩
      exact (List.getElem?_eq_some_iff.1 hi').1
theorem Tin.of {w : World} {t : Tv} {vy vk vi : Value} (hy : BSl w vy t.y) (hk : SSl w vk t.ks) (hv : VSl w vi t.is) (h : Tbd t) : Tin w t (vcs t vy vk vi) := by
  obtain ⟨hn, hb, hs, hyl, hl, hld⟩ := h
  obtain ⟨⟨a, cap, rfl, hc, ha⟩, hm⟩ := hv
  rcases ha with ha | ⟨b, off, e, ha⟩
  · exact Tin.mk t vy vk a cap (fun _ => #[]) hn hb hs hy hyl hl hld hk hc hm (fun i u hu => by rw [ha] at hu; simp at hu) (.inl ha)
  · have hx : ∀ i, ∃ cs : Array Value, ∀ t', t.is[i]? = some t' → Tin w t' cs ∧ ∀ j u, cs[j]? = some u → w.cell? ⟨b, off + i * 13 + j, none⟩ = some u := fun i => by
      cases hi : t.is[i]? with
      | none => exact ⟨#[], fun t' h => by cases h⟩
      | some t' =>
        obtain ⟨cs, h1, h2⟩ := ha i t' hi
        exact ⟨cs, fun t'' h => by injection h with h; subst h; exact ⟨h1, h2⟩⟩
    refine Tin.mk t vy vk a cap (fun i => Classical.choose (hx i)) hn hb hs hy hyl hl hld hk hc hm (fun i u hu => (Classical.choose_spec (hx i) u hu).1) (.inr ⟨b, off, e, fun i hi j u hu => ?_⟩)
    exact (Classical.choose_spec (hx i) t.is[i] (List.getElem?_eq_getElem hi)).2 j u hu
end
section
open Go.RowKit Go
mutual
/-- How many parts a value has. -/
def tmuch : Tv → Nat
  | .mk _ _ _ _ _ s y l ks is => 1 + ks.length + y.length / 64 + s.size / 64 + l.d.length / 64 + (ks.map fun k => k.size / 64).sum + tmuchL is
def tmuchL : List Tv → Nat
  | [] => 0
  | t :: r => tmuch t + tmuchL r
end
mutual
/-- A value's depth. -/
def tdepth : Tv → Nat
  | .mk k _ _ _ _ _ _ _ _ is => if k = 8 ∨ k = 9 then tdepthL is + 1 else 0
def tdepthL : List Tv → Nat
  | [] => 0
  | t :: r => max (tdepth t) (tdepthL r)
end
theorem tmuchL_app : ∀ (a b : List Tv), tmuchL (a ++ b) = tmuchL a + tmuchL b
  | [], b => by simp [tmuchL]
  | t :: a, b => by rw [List.cons_append, tmuchL, tmuchL, tmuchL_app a b]; omega
theorem tdepthL_app : ∀ (a b : List Tv), tdepthL (a ++ b) = max (tdepthL a) (tdepthL b)
  | [], b => by simp [tdepthL]
  | t :: a, b => by rw [List.cons_append, tdepthL, tdepthL, tdepthL_app a b]; omega
theorem tdepthL_mem : ∀ {l : List Tv} {t : Tv}, t ∈ l → tdepth t ≤ tdepthL l
  | [], _, h => by cases h
  | u :: r, t, h => by
    rw [tdepthL]
    rcases List.mem_cons.1 h with h | h
    · subst h
      omega
    · have := tdepthL_mem h
      omega
theorem tdepth_eq (t : Tv) : tdepth t = if t.k = 8 ∨ t.k = 9 then tdepthL t.is + 1 else 0 := by
  obtain ⟨k, f, g, n, b, s, y, l, ks, is⟩ := t
  rw [tdepth]
  rfl
theorem tmuch_eq (t : Tv) : tmuch t = 1 + t.ks.length + t.y.length / 64 + t.s.size / 64 + t.l.d.length / 64 + (t.ks.map fun k => k.size / 64).sum + tmuchL t.is := by
  obtain ⟨k, f, g, n, b, s, y, l, ks, is⟩ := t
  rw [tmuch]
  rfl
theorem takeT (l : List Tv) (k : Nat) (t : Tv) (h : l[k]? = some t) : l.take (k + 1) = l.take k ++ [t] := by
  have hk := (List.getElem?_eq_some_iff.1 h).1
  rw [List.take_succ_eq_append_getElem hk]
  rw [List.getElem?_eq_getElem hk] at h
  injection h with h
  rw [h]
theorem infoV : (Tryd.prog.info? 40).map (·.size) = some 13 := by kernel_rfl
theorem vcs_size (t : Tv) (vy vk vi : Value) : (vcs t vy vk vi).size = 13 := rfl
/-- A value somewhere in a block. -/
theorem load_val {w : World} (g o : Nat) (cs : Array Value) (hn : cs.size = 13) (hc : ∀ j u, cs[j]? = some u → w.cell? ⟨g, o + j, none⟩ = some u) : (Instr.loadAt 40 (.pointer (some ⟨g, o, none⟩))).run Tryd.prog w = .ok (.agg cs) w := by
  have hl := run_loadCells_list (P := Tryd.prog) (w := w) ⟨g, o, none⟩ cs.toList (fun j v hv => by rw [addr_add]; exact hc j v (by simpa using hv))
  have hi := infoV
  simp only [Instr.loadAt, Instr.sureAddr, Sem.run_bind, Sem.run_pure, Result.andThen]
  cases hq : Tryd.prog.info? 40 with
  | none => simp [hq] at hi
  | some i =>
    have hs : i.size = 13 := by simpa [hq] using hi
    have hn2 : cs.toList.length = 13 := by simpa using hn
    rw [hn2] at hl
    have ha : (isAgg 40).run Tryd.prog w = .ok true w := by
      unfold isAgg
      rw [Sem.run_bind, run_underlying Tryd.underlying40 w]
      simp
    simp [loadVar, ha, sizeOf, typeInfo, hq, hs, hl]
theorem wpList_valAt {ops : Array Oper} {rest : List Oper} {o : Oper} {a : Act} {Q : Exit → Act → World → Prop} {w : World} {p : Operand} (hgd : Region.wanted o (yielded ops a.tmps) = true) (ho : o.op = .load 40 p) (g off : Nat) (cs : Array Value)
    (hp : a.eval p = .pointer (some ⟨g, off, none⟩)) (hn : cs.size = 13) (hc : ∀ j u, cs[j]? = some u → w.cell? ⟨g, off + j, none⟩ = some u)
    (h : wpList Tryd.prog ops Q rest (a.put o.dst (.agg cs)) w) : wpList Tryd.prog ops Q (o :: rest) a w := by
  refine wpList_wanted hgd fun K hK => ?_
  unfold Oper.wp execOp
  simp only [ho, Sem.run_bind, hp, load_val g off cs hn hc, Result.andThen_ok]
  exact hK _ _ h
end
section
open Go.RowKit Go
/-- Which digit each byte is, counted from 1, by the first k digits. -/
def plt (t : List Nat) : Nat → List Nat
  | 0 => List.replicate 256 0
  | k + 1 => (plt t k).set (t.getD k 0) (k + 1)
theorem plt_len (t : List Nat) : ∀ k, (plt t k).length = 256
  | 0 => List.length_replicate
  | k + 1 => by rw [plt, List.length_set, plt_len t k]
theorem bv_set (l : List Nat) (i x : Nat) : (bv l).toArray.setIfInBounds i (.int .u8 ((x : Nat) : Int)) = (bv (l.set i x)).toArray := by
  simp [bv, List.map_set]
set_option maxRecDepth 100000 in
def Tryd.zeroCells83 : Array Value := #[.int .u8 0, .int .u8 0, .int .u8 0, .int .u8 0, .int .u8 0, .int .u8 0, .int .u8 0, .int .u8 0, .int .u8 0, .int .u8 0, .int .u8 0, .int .u8 0, .int .u8 0, .int .u8 0, .int .u8 0, .int .u8 0, .int .u8 0, .int .u8 0, .int .u8 0, .int .u8 0, .int .u8 0, .int .u8 0, .int .u8 0, .int .u8 0, .int .u8 0, .int .u8 0, .int .u8 0, .int .u8 0, .int .u8 0, .int .u8 0, .int .u8 0, .int .u8 0, .int .u8 0, .int .u8 0, .int .u8 0, .int .u8 0, .int .u8 0, .int .u8 0, .int .u8 0, .int .u8 0, .int .u8 0, .int .u8 0, .int .u8 0, .int .u8 0, .int .u8 0, .int .u8 0, .int .u8 0, .int .u8 0, .int .u8 0, .int .u8 0, .int .u8 0, .int .u8 0, .int .u8 0, .int .u8 0, .int .u8 0, .int .u8 0, .int .u8 0, .int .u8 0, .int .u8 0, .int .u8 0, .int .u8 0, .int .u8 0, .int .u8 0, .int .u8 0, .int .u8 0, .int .u8 0, .int .u8 0, .int .u8 0, .int .u8 0, .int .u8 0, .int .u8 0, .int .u8 0, .int .u8 0, .int .u8 0, .int .u8 0, .int .u8 0, .int .u8 0, .int .u8 0, .int .u8 0, .int .u8 0, .int .u8 0, .int .u8 0, .int .u8 0, .int .u8 0, .int .u8 0, .int .u8 0, .int .u8 0, .int .u8 0, .int .u8 0, .int .u8 0, .int .u8 0, .int .u8 0, .int .u8 0, .int .u8 0, .int .u8 0, .int .u8 0, .int .u8 0, .int .u8 0, .int .u8 0, .int .u8 0, .int .u8 0, .int .u8 0, .int .u8 0, .int .u8 0, .int .u8 0, .int .u8 0, .int .u8 0, .int .u8 0, .int .u8 0, .int .u8 0, .int .u8 0, .int .u8 0, .int .u8 0, .int .u8 0, .int .u8 0, .int .u8 0, .int .u8 0, .int .u8 0, .int .u8 0, .int .u8 0, .int .u8 0, .int .u8 0, .int .u8 0, .int .u8 0, .int .u8 0, .int .u8 0, .int .u8 0, .int .u8 0, .int .u8 0, .int .u8 0, .int .u8 0, .int .u8 0, .int .u8 0, .int .u8 0, .int .u8 0, .int .u8 0, .int .u8 0, .int .u8 0, .int .u8 0, .int .u8 0, .int .u8 0, .int .u8 0, .int .u8 0, .int .u8 0, .int .u8 0, .int .u8 0, .int .u8 0, .int .u8 0, .int .u8 0, .int .u8 0, .int .u8 0, .int .u8 0, .int .u8 0, .int .u8 0, .int .u8 0, .int .u8 0, .int .u8 0, .int .u8 0, .int .u8 0, .int .u8 0, .int .u8 0, .int .u8 0, .int .u8 0, .int .u8 0, .int .u8 0, .int .u8 0, .int .u8 0, .int .u8 0, .int .u8 0, .int .u8 0, .int .u8 0, .int .u8 0, .int .u8 0, .int .u8 0, .int .u8 0, .int .u8 0, .int .u8 0, .int .u8 0, .int .u8 0, .int .u8 0, .int .u8 0, .int .u8 0, .int .u8 0, .int .u8 0, .int .u8 0, .int .u8 0, .int .u8 0, .int .u8 0, .int .u8 0, .int .u8 0, .int .u8 0, .int .u8 0, .int .u8 0, .int .u8 0, .int .u8 0, .int .u8 0, .int .u8 0, .int .u8 0, .int .u8 0, .int .u8 0, .int .u8 0, .int .u8 0, .int .u8 0, .int .u8 0, .int .u8 0, .int .u8 0, .int .u8 0, .int .u8 0, .int .u8 0, .int .u8 0, .int .u8 0, .int .u8 0, .int .u8 0, .int .u8 0, .int .u8 0, .int .u8 0, .int .u8 0, .int .u8 0, .int .u8 0, .int .u8 0, .int .u8 0, .int .u8 0, .int .u8 0, .int .u8 0, .int .u8 0, .int .u8 0, .int .u8 0, .int .u8 0, .int .u8 0, .int .u8 0, .int .u8 0, .int .u8 0, .int .u8 0, .int .u8 0, .int .u8 0, .int .u8 0, .int .u8 0, .int .u8 0, .int .u8 0, .int .u8 0, .int .u8 0, .int .u8 0, .int .u8 0, .int .u8 0, .int .u8 0, .int .u8 0, .int .u8 0, .int .u8 0, .int .u8 0, .int .u8 0, .int .u8 0, .int .u8 0, .int .u8 0, .int .u8 0, .int .u8 0, .int .u8 0]
@[simp] theorem zero256_run (w : World) : Sem.run Tryd.prog (zeroValue 83) w = .ok (.agg Tryd.zeroCells83) w := by kernel_rfl
@[simp] theorem zero256_size : Tryd.zeroCells83.size = 256 := by kernel_rfl
@[simp] theorem zero256_ne : Tryd.zeroCells83 ≠ #[] := fun h => by have := congrArg Array.size h; simp at this
theorem zero256 : Tryd.zeroCells83 = (bv (List.replicate 256 0)).toArray := by kernel_rfl
theorem info256 : (Tryd.prog.info? 83).map (·.size) = some 256 := by kernel_rfl
/-- How a function ends whose result is an array. -/
theorem end_a1 {fn : Func} {p : Tmp} {T e : TypeId} {m n : Nat} {wx : World} {R : Nat} {cs : Array Value} {tmps : Array Value} (hf : fn.results = #[.cell p T]) (hu : Tryd.prog.underlying T = some (.array m e)) (hi : (Tryd.prog.info? T).map (·.size) = some n) (hn : cs.size = n)
    (hr : wx.heap[R]? = some (.cells cs T (0, 0))) (hp : tmps.getD p undef = .pointer (some ⟨R, 0, none⟩)) : (results fn tmps).run Tryd.prog wx = .ok (.agg cs) wx := by
  refine (results_one hf _ _ _).trans ?_
  rw [hp]
  have h1 := run_loadVar_row (P := Tryd.prog) wx R T T cs (0, 0) _ hr hu rfl (by rw [hn]; exact hi)
  simp [asAddr, h1, Result.andThen]
theorem sl_at (D : ByteArray) (k : Nat) (h : k < D.size) : (sl D).getD k 0 = D[k].toNat := by
  rw [sl_get]
  congr 1
  have h2 : k < D.data.toList.length := by rw [Array.length_toList]; exact h
  rw [List.getD_eq_getElem?_getD, List.getElem?_eq_getElem h2]
  rfl
end
end Go.Proofs.YtadilnmkjcmnnaaDoor

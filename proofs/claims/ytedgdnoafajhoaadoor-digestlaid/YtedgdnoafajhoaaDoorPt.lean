import Derived.Test.YtedgdnoafajhoaaDoorDl
import Derived.Test.YtedgdnoafajhoaaDoorQt
import Derived.Laws.CopyOwn
import Derived.Lib.SliceRun
namespace Go.Proofs.YtedgdnoafajhoaaDoor
open Go.RowKit Go

/-! ### Parts of a block: by value, copied, cleared -/
theorem addr_add (g o j : Nat) : (⟨g, o, none⟩ : Addr).add j = ⟨g, o + j, none⟩ := by unfold Addr.add; split <;> simp_all
theorem part_load {w : World} {T e : TypeId} {n : Nat} (g off : Nat) (cs : List Value) (hu : Tryd.prog.underlying T = some (.array n e)) (hi : (Tryd.prog.info? T).map (·.size) = some cs.length) (hc : ∀ j v, cs[j]? = some v → w.cell? ⟨g, off + j, none⟩ = some v) :
    (Instr.loadAt T (.pointer (some ⟨g, off, none⟩))).run Tryd.prog w = .ok (.agg cs.toArray) w := by
  have hl := run_loadCells_list (P := Tryd.prog) (w := w) ⟨g, off, none⟩ cs (fun j v hv => by rw [addr_add]; exact hc j v hv)
  simp only [Instr.loadAt, Instr.sureAddr, Sem.run_bind, Sem.run_pure, Result.andThen]
  cases hq : Tryd.prog.info? T with
  | none => simp [hq] at hi
  | some i =>
    have hs : i.size = cs.length := by simpa [hq] using hi
    have ha : (isAgg T).run Tryd.prog w = .ok true w := by
      unfold isAgg
      rw [Sem.run_bind, run_underlying hu w]
      simp
    simp [loadVar, ha, sizeOf, typeInfo, hq, hs, hl]
theorem part_store {w : World} {T t : TypeId} (g off : Nat) (cur cs : List Value) (hg : w.heap[g]? = some (.cells cur.toArray t (0, 0))) (hi : (Tryd.prog.info? T).map (·.size) = some cs.length) (hf : off + cs.length ≤ cur.length) (h1 : ∀ v ∈ cs, v.oneCell' = true) :
    (Instr.storeAt T (.pointer (some ⟨g, off, none⟩)) (.agg cs.toArray)).run Tryd.prog w = .ok () (w.setRow g (splice cur off cs).toArray) := by
  have hst := run_storeCells_at (P := Tryd.prog) g off t cs 0 cur.toArray w hg (by simpa using hf) h1
  simp only [Nat.add_zero, List.append_assoc] at hst
  simp only [Instr.storeAt, Instr.sureAddr, Sem.run_bind, Sem.run_pure, Result.andThen]
  cases hq : Tryd.prog.info? T with
  | none => simp [hq] at hi
  | some i =>
    have hs : cs.length = i.size := by simp [hq] at hi; omega
    simp [storeVar, sizeOf, typeInfo, hq, Value.cells, hs, hst, splice]
/-- A part of a block by value, as a step of a region that draws. -/
theorem qstep_load {C : World → Prop} {ops : Array Oper} {o : Oper} {a : Act} {K : Act → Prop} {T e : TypeId} {n : Nat} {p : Operand} (hgd : o.guard = none) (ho : o.op = .load T p) (g off : Nat) (cs : List Value)
    (hp : a.eval p = .pointer (some ⟨g, off, none⟩)) (hu : Tryd.prog.underlying T = some (.array n e)) (hi : (Tryd.prog.info? T).map (·.size) = some cs.length) (hc : ∀ w, C w → ∀ j v, cs[j]? = some v → w.cell? ⟨g, off + j, none⟩ = some v)
    (h : K (a.put o.dst (.agg cs.toArray))) : if Region.wanted o (yielded ops a.tmps) = true then o.quiet Tryd.prog a C K else K (a.put o.dst undef) := by
  have hw : Region.wanted o (yielded ops a.tmps) = true := by simp [Region.wanted, hgd]
  rw [if_pos hw]
  refine ⟨.agg cs.toArray, fun w hC => ?_, h⟩
  unfold Oper.quietAt execOp
  simp only [ho, Sem.run_bind, hp, part_load g off cs hu hi (hc w hC), Result.andThen_ok]
  exact ⟨rfl, rfl⟩
theorem wpList_storePart {ops : Array Oper} {rest : List Oper} {o : Oper} {a : Act} {Q : Exit → Act → World → Prop} {w : World} {T : TypeId} {p x : Operand} (hgd : o.guard = none) (ho : o.op = .store T p x) (g off : Nat) (cur cs : List Value) (t : TypeId)
    (hp : a.eval p = .pointer (some ⟨g, off, none⟩)) (hx : a.eval x = .agg cs.toArray) (hg : w.heap[g]? = some (.cells cur.toArray t (0, 0))) (hi : (Tryd.prog.info? T).map (·.size) = some cs.length) (hf : off + cs.length ≤ cur.length) (h1 : ∀ v ∈ cs, v.oneCell' = true)
    (h : ∀ w', Hid (w'.heap[g]? = some (.cells (splice cur off cs).toArray t (0, 0))) → Hid (Kp (fun q => q = g) w w') → wpList Tryd.prog ops Q rest (a.put o.dst undef) w') : wpList Tryd.prog ops Q (o :: rest) a w := by
  refine wpList_plain hgd fun K hK => ?_
  unfold Oper.wp execOp
  simp only [ho, Sem.run_bind, hp, hx, part_store g off cur cs hg hi hf h1, Result.andThen_ok]
  exact hK _ _ (h _ (row_same hg) (row_kp _ _ _))
theorem wpList_copyPart {ops : Array Oper} {rest : List Oper} {o : Oper} {a : Act} {Q : Exit → Act → World → Prop} {w : World} (hgd : o.guard = none) (d s : Operand)
    (ho : o.op = .call { callee := .builtin .copy, args := #[d, s], argTypes := #[27, 27] }) (g off dLen dCap : Nat) (hd : a.eval d = .slice (some ⟨g, off, none⟩) dLen dCap) (xs : List Nat) (v : Value) (hs : a.eval s = v) (hb : BSl w v xs)
    (cur : List Value) (t : TypeId) (hg : w.heap[g]? = some (.cells cur.toArray t (0, 0))) (ys : List Nat) (k : Nat) (hk : ys.length = k) (hy : ys = xs.take dLen) (hf : off + ys.length ≤ cur.length)
    (h : ∀ w', Hid (w'.heap[g]? = some (.cells (splice cur off (bv ys)).toArray t (0, 0))) → Hid (Kp (fun q => q = g) w w') → wpList Tryd.prog ops Q rest (a.put o.dst (.int .i64 (k : Nat))) w') : wpList Tryd.prog ops Q (o :: rest) a w := by
  subst hk
  obtain ⟨⟨a', cap, rfl, hn, hc⟩, hmax, hby⟩ := hb
  have hsz : (Tryd.prog.info? 5).map (·.size) = some 1 := by
    have h5 := Tryd.info5
    cases hq : Tryd.prog.info? 5 with
    | none => simp [hq] at h5
    | some i => simp [hq] at h5 ⊢; exact h5.2.1
  have hl : ys.length = Nat.min xs.length dLen := by subst hy; simp [Nat.min_comm]
  by_cases h0 : ys.length = 0
  · refine wpList_copy_nothing hgd d s _ _ ho 5 Tryd.underlying27 hsz _ _ _ _ _ _ hd hs (by omega) ?_
    have e0 : ys = [] := List.eq_nil_of_length_eq_zero h0
    have h2 := h w (by show _ = _; subst e0; simpa [splice, bv] using hg) (Kp.refl _ _)
    rw [h0] at h2
    exact h2
  · rcases hc with hc | ⟨b, o', rfl, hc⟩
    · subst hc; subst hy; simp at h0
    have hlb : (bv ys).length = ys.length := bv_len ys
    refine wpList_copy_own hgd d s _ _ ho 5 Tryd.underlying27 hsz g off dLen dCap ⟨b, o', none⟩ _ _ hd hs cur.toArray t hg (bv ys) (by rw [hlb]; exact hl) (fun j v hv => ?_) (by rw [hlb]; simpa using hf) (bv_one ys) ?_
    · have hj : j < ys.length := by
        rw [← hlb]
        exact (List.getElem?_eq_some_iff.1 hv).1
      rw [bv_get hj] at hv
      have e : ys.getD j 0 = xs.getD j 0 := by
        subst hy
        simp only [List.getD_eq_getElem?_getD, List.getElem?_take]
        rw [if_pos (by simp at hj; omega)]
      rw [addr_add, hc j (by have := Nat.min_le_left xs.length dLen; have : ys.length ≤ xs.length := by rw [hl]; exact this
                             omega), ← e]
      exact hv
    · have h2 := h (w.setRow g (splice cur off (bv ys)).toArray) (row_same hg) (row_kp _ _ _)
      simpa [splice, hlb, goInt] using h2
theorem wpList_clearPart {ops : Array Oper} {rest : List Oper} {o : Oper} {a : Act} {Q : Exit → Act → World → Prop} {w : World} (hgd : o.guard = none) (s : Operand)
    (ho : o.op = .call { callee := .builtin .clear, args := #[s], argTypes := #[27] }) (g off n c : Nat) (hs : a.eval s = .slice (some ⟨g, off, none⟩) n c) (hn : 0 < n)
    (cur : List Value) (t : TypeId) (hg : w.heap[g]? = some (.cells cur.toArray t (0, 0))) (hf : off + n ≤ cur.length)
    (h : ∀ w', Hid (w'.heap[g]? = some (.cells (splice cur off (bv (List.replicate n 0))).toArray t (0, 0))) → Hid (Kp (fun q => q = g) w w') → wpList Tryd.prog ops Q rest (a.put o.dst (.tuple #[])) w') : wpList Tryd.prog ops Q (o :: rest) a w := by
  refine wpList_plain hgd fun K hK => ?_
  have hz : (∀ w, (zeroValue 5).run Tryd.prog w = .ok (.int .u8 0) w) := by
    have h5 := Tryd.info5
    intro w
    cases hq : Tryd.prog.info? 5 with
    | none => simp [hq] at h5
    | some i => simp [hq] at h5; simp [zeroValue, typeInfo, hq, h5.1]
  have hst := run_storeCells_at (P := Tryd.prog) g off t (bv (List.replicate n 0)) 0 cur.toArray w hg (by simpa [bv_len] using hf) (bv_one _)
  simp only [Nat.add_zero, List.append_assoc] at hst
  have hzc : (Builtin.zeroCells (Value.int .u8 0).cells n).toList = bv (List.replicate n 0) := by
    simp [Builtin.zeroCells, Value.cells, bv]
    apply List.ext_getElem
    · simp
    · intro i h1 h2
      simp [Nat.mod_one]
  have hrun : (Builtin.clear_ #[27] o.type #[.slice (some ⟨g, off, none⟩) n c]).run Tryd.prog w = .ok (.tuple #[]) (w.setRow g (splice cur off (bv (List.replicate n 0))).toArray) := by
    obtain ⟨m, rfl⟩ : ∃ m, n = m + 1 := ⟨n - 1, by omega⟩
    simp [Builtin.clear_, run_underlying Tryd.underlying27, hz, hzc, hst, splice]
  unfold Oper.wp
  simp [execOp, ho, resolve, invoke, builtin, hs, hrun, Result.andThen]
  exact hK _ _ (h _ (row_same hg) (row_kp _ _ _))
end Go.Proofs.YtedgdnoafajhoaaDoor

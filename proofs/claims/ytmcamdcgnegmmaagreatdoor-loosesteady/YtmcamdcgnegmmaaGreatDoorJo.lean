import Derived.Test.YtmcamdcgnegmmaaGreatDoorJa
import Derived.Test.YtmcamdcgnegmmaaGreatDoorJb
import Derived.SliceStrings
import Derived.LaidLaws
import Derived.Handed
import Derived.Lib.LaidTab
import Derived.Test.YtmcamdcgnegmmaaGreatDoorJe
import Derived.Test.YtmcamdcgnegmmaaGreatDoorJj
import Derived.Laws.MakeOwn
import Derived.Laws.Concat
import Derived.Test.YtmcamdcgnegmmaaGreatDoorJf
import Derived.Great.BuildSlice
import Derived.Great.FillDense
import Derived.Maps.AppendAt
import Derived.Test.YtmcamdcgnegmmaaGreatDoorJn
import Derived.Test.YtmcamdcgnegmmaaGreatDoorJd
set_option maxRecDepth 1000000
set_option maxHeartbeats 16000000
namespace Go.Proofs.YtmcamdcgnegmmaaGreatDoor
section
open Go.ChangeShapes Go.WideShapes Go.ChangeAt Go.RowKit Go.Deep Go.Joins Go
theorem Tryz.cells_int : Tryz.prog.cellsOf 3 = 1 := by kernel_rfl
section
variable {H : Type} {enc : TypeId × Value → H} {P : Program} {w : World} {base : Nat} {spare : Nat → Bool} {held : Bool}
end
end
section
open Go.ChangeShapes Go.WideShapes Go.ChangeAt Go.RowKit Go

end
section
open Go.ChangeShapes Go.WideShapes Go.ChangeAt Go.RowKit Go.Deep Go.Joins Go

end
section
open Go.RowKit Go

end
section
open Go.RowKit Go

end
section
open Go.RowKit Go

end
section
open Go.RowKit Go

end
section
open Go.RowKit Go

end
section
open Go.RowKit Go

end
section
open Go.RowKit Go

end
section
open Go.RowKit Go

end
section
open Go.RowKit Go

end
section
open Go.RowKit Go

end
section
open Go.RowKit Go

end
section
open Go.RowKit Go

end
section
open Go.RowKit Go

end
section
open Go.RowKit Go

end
section
open Go.RowKit Go

end
section
open Go.RowKit Go

end
section
open Go.RowKit Go

end
section
open Go.RowKit Go
theorem load_lk {w : World} (g o : Nat) (l : Lk) (hc : ∀ j u, (lcs l)[j]? = some u → w.cell? ⟨g, o + j, none⟩ = some u) : (Instr.loadAt 37 (.pointer (some ⟨g, o, none⟩))).run Tryz.prog w = .ok (.agg (lcs l)) w := by
  have hl := run_loadCells_list (P := Tryz.prog) (w := w) ⟨g, o, none⟩ (lcs l).toList (fun j v hv => by rw [addr_add]; exact hc j v (by simpa using hv))
  have hi := info61
  simp only [Instr.loadAt, Instr.sureAddr, Sem.run_bind, Sem.run_pure, Result.andThen]
  cases hq : Tryz.prog.info? 37 with
  | none => simp [hq] at hi
  | some i =>
    have hs : i.size = 4 := by simpa [hq] using hi
    have hn : (lcs l).toList.length = 4 := rfl
    rw [hn] at hl
    have ha : (isAgg 37).run Tryz.prog w = .ok true w := by
      unfold isAgg
      rw [Sem.run_bind, run_underlying Tryz.underlying37 w]
      simp
    simp [loadVar, ha, sizeOf, typeInfo, hq, hs, hl]
theorem wpList_lkAt {ops : Array Oper} {rest : List Oper} {o : Oper} {a : Act} {Q : Exit → Act → World → Prop} {w : World} {p : Operand} (hgd : Region.wanted o (yielded ops a.tmps) = true) (ho : o.op = .load 37 p) (g off : Nat) (l : Lk)
    (hp : a.eval p = .pointer (some ⟨g, off, none⟩)) (hc : ∀ j u, (lcs l)[j]? = some u → w.cell? ⟨g, off + j, none⟩ = some u)
    (h : wpList Tryz.prog ops Q rest (a.put o.dst (.agg (lcs l))) w) : wpList Tryz.prog ops Q (o :: rest) a w := by
  refine wpList_wanted hgd fun K hK => ?_
  unfold Oper.wp execOp
  simp only [ho, Sem.run_bind, hp, load_lk g off l hc, Result.andThen_ok]
  exact hK _ _ h
end
section
open Go.ChangeShapes Go.WideShapes Go.ChangeAt Go.RowKit Go.Deep Go.Joins Go

end
section
open Go.ChangeShapes Go.WideShapes Go.ChangeAt Go.RowKit Go.Deep Go.Joins Go
structure IntsIn (w : World) (v : Value) (len : Nat) : Prop where
  form : ∃ a c, v = .slice a len c ∧ (len = 0 ∨ ∃ b off, a = some ⟨b, off, none⟩ ∧ ∀ j, j < len → ∃ z : Int, w.cell? ⟨b, off + j, none⟩ = some (.int .i64 z))
  max : len ≤ 9223372036854775807
theorem IntsIn.move {w w' : World} {v : Value} {len : Nat} (h : IntsIn w v len) (hm : ∀ p u, w.cell? p = some u → w'.cell? p = some u) : IntsIn w' v len := by
  obtain ⟨⟨a, c, hv, hc⟩, h1⟩ := h
  refine ⟨⟨a, c, hv, ?_⟩, h1⟩
  rcases hc with hc | ⟨b, off, ha, hc⟩
  · exact .inl hc
  · exact .inr ⟨b, off, ha, fun j hj => (hc j hj).imp fun z hz => hm _ _ hz⟩
theorem ints_open {H : Type} {enc : TypeId × Value → H} {W : World} {base fuel : Nat} {held : Bool} {v : Value} {y : DataW H × List MemPlace} (h : DataW.trod enc Tryz.prog W base (fun _ => true) held fuel 23 [v] = some y) : ∃ len, IntsIn W v len := by
  rcases open_ints Tryz.underlying23 Tryz.underlying3 Tryz.cells_int h with ⟨hcs, _⟩ | ⟨a, len, cap, zs, hcs, _, hl, hm, hz, _, hcell, hwf⟩
  · injection hcs with hcs _
    subst hcs
    exact ⟨0, ⟨none, 0, rfl, .inl rfl⟩, by simp⟩
  · injection hcs with hcs _
    subst hcs
    simp only [if_true] at hz
    refine ⟨len, ⟨some a, cap, rfl, ?_⟩, by unfold maxLen at hm; omega⟩
    by_cases h0 : len = 0
    · exact .inl h0
    · right
      obtain ⟨b, off, spot⟩ := a
      have h1 := hcell 0 (by omega)
      have hspot : spot = none := by simpa [Addr.add] using World.cell?_spot h1
      subst hspot
      refine ⟨b, off, rfl, fun j hj => ?_⟩
      have h2 := hcell j (by omega)
      have hadd : (⟨b, off, none⟩ : Addr).add j = ⟨b, off + j, none⟩ := by unfold Addr.add; split <;> simp_all
      rw [hadd] at h2
      exact ⟨_, h2⟩
end
section
open Go.RowKit Go
theorem infoFL : (Tryz.prog.info? 31).map (·.size) = some 2 := by kernel_rfl
def fcsL (e p : Nat) : Array Value := #[.int .i64 (e : Nat), .int .i64 (p : Nat)]
theorem fcs_allL (e p : Nat) : (fcsL e p).all (·.oneCell') = true := by
  rw [Array.all_eq_true']
  intro u hu
  simp only [fcsL, List.mem_toArray, List.mem_cons, List.not_mem_nil, or_false] at hu
  rcases hu with rfl | rfl <;> rfl
theorem exec_fltAtL {o : Oper} {a : Act} {p : Operand} {g : Nat} {c : Array Value} {w : World} (ho : o.op = .load 31 p) (hp : a.eval p = .pointer (some ⟨g, 0, none⟩)) (hn : c.size = 2) (hg : w.heap[g]? = some (.cells c 31 (0, 0))) : (execOp a.eval o).run Tryz.prog w = .ok (.value (.agg c)) w := by
  have h1 := run_loadVar_row (P := Tryz.prog) w g 31 31 c (0, 0) _ hg Tryz.underlying31 rfl (by rw [hn]; exact infoFL)
  unfold execOp
  simp only [ho, Sem.run_bind, hp, Instr.loadAt, Instr.sureAddr, Sem.run_pure, Result.andThen, h1]
def zfL : Array Value := #[.int .i64 0, .int .i64 0]
theorem eqfltL (w : World) (e p e' p' : Nat) : (Op.equalIn 10000 31 (.agg (fcsL e p)) (.agg (fcsL e' p'))).run Tryz.prog w = .ok (decide (e = e' ∧ p = p')) w := by
  have u3 := Tryz.underlying3
  have u27 := Tryz.underlying29
  have a3 := Tryz.isAgg3
  have a27 := Tryz.isAgg29
  have z3 := Tryz.sizeOf3
  have z27 := Tryz.sizeOf29
  have hS : Tryz.prog.underlying 31 = some (.struct (Tryz.prog.fieldsOf 31)) := by kernel_rfl
  have hp : Tryz.prog.stoodInHeld 31 = false := by kernel_rfl
  unfold fcsL
  rw [show (10000 : Nat) = 9999 + 1 from rfl, run_equalIn_agg w 9999 31 _ _ hS hp]
  simp only [Program.fieldsOf, Tryz.underlying31]
  go_simp
  by_cases h1 : e = e' <;> by_cases h2 : p = p' <;> first | (simp [h1, h2]; done) | (simp [h1, h2]; omega)
theorem eqgFL : Tryz.prog.eqGuardType Tryz.prog.depth 31 = false := by kernel_rfl
theorem exec_eqfltL {o : Oper} {a : Act} {x y : Operand} {T2 : TypeId} {e p e' p' : Nat} {w : World} (ho : o.op = .binOp .eql 31 x y T2) (hx : a.eval x = .agg (fcsL e p)) (hy : a.eval y = .agg (fcsL e' p')) : (execOp a.eval o).run Tryz.prog w = .ok (.value (.bool (decide (e = e' ∧ p = p')))) w := by
  unfold execOp
  simp only [ho, Sem.run_bind, hx, hy, run_eqGuard_agg w _ 31 x y _ _ eqgFL, run_eql_struct, eqfltL, Result.andThen_ok]
  rfl
theorem exec_nefltL {o : Oper} {a : Act} {x y : Operand} {T2 : TypeId} {e p e' p' : Nat} {w : World} (ho : o.op = .binOp .neq 31 x y T2) (hx : a.eval x = .agg (fcsL e p)) (hy : a.eval y = .agg (fcsL e' p')) : (execOp a.eval o).run Tryz.prog w = .ok (.value (.bool (!decide (e = e' ∧ p = p')))) w := by
  unfold execOp
  simp only [ho, Sem.run_bind, hx, hy, run_eqGuard_agg w _ 31 x y _ _ eqgFL, run_neq_struct, eqfltL, Result.andThen_ok]
  rfl
theorem wpList_execWL {ops : Array Oper} {rest : List Oper} {o : Oper} {a : Act} {Q : Exit → Act → World → Prop} {w : World} {v : Value} (hgd : Region.wanted o (yielded ops a.tmps) = true) (he : (execOp a.eval o).run Tryz.prog w = .ok (.value v) w) (h : wpList Tryz.prog ops Q rest (a.put o.dst v) w) : wpList Tryz.prog ops Q (o :: rest) a w := by
  refine wpList_wanted hgd fun K hK => ?_
  unfold Oper.wp
  rw [he]
  exact hK _ _ h
theorem within_anyL (m : Int) (n : Nat) (h0 : 0 < n) (h1 : n ≤ 1025) (w : World) : Calls Tryz.prog 4 #[.int .i64 m, .int .i64 (n : Nat)] w fun e w' => ∃ k : Nat, k < n ∧ e = .returned (.int .i64 (k : Nat)) ∧ w' = w := by
  obtain ⟨q, hq⟩ : ∃ q : Int, q = (n : Int) := ⟨_, rfl⟩
  have hq1 : 0 < q := by omega
  have hq2 : q ≤ 1025 := by omega
  rw [← hq]
  have h1 : -q < m.tmod q ∧ m.tmod q < q := by
    by_cases h : 0 ≤ m
    · rw [Int.tmod_eq_emod_of_nonneg h]; exact ⟨by have := Int.emod_nonneg m (show q ≠ 0 by omega); omega, Int.emod_lt_of_pos m hq1⟩
    · have e : m = -(-m) := by omega
      have h2 := Int.emod_nonneg (-m) (show q ≠ 0 by omega)
      have h3 := Int.emod_lt_of_pos (-m) hq1
      rw [e, Int.neg_tmod, Int.tmod_eq_emod_of_nonneg (by omega)]; omega
  have hz : (q == 0) = false := beq_eq_false_iff_ne.2 (by omega)
  have HQ := hide hq
  clear hq
  by_cases hneg : m.tmod q < 0
  · go_enter Tryz.func4, Tryz.ntmps4
    go_wp2
    go_ret
    refine ⟨(m.tmod q + q).toNat, by have := HQ.out; omega, ?_, rfl⟩
    rw [Int.toNat_of_nonneg (by omega)]
    rfl
  · go_enter Tryz.func4, Tryz.ntmps4
    go_wp2
    go_ret
    refine ⟨(m.tmod q).toNat, by have := HQ.out; omega, ?_, rfl⟩
    rw [Int.toNat_of_nonneg (by omega)]
    rfl
theorem num_anyL (w : World) (e : Int) : Calls Tryz.prog 8 #[.int .i64 e] w fun x w' => x = .returned (.int .i64 e) ∧ w' = w := by
  go_enter Tryz.func8, Tryz.ntmps8
  go_wp2
  go_ret
  exact ⟨rfl, rfl⟩
theorem depth_anyL (w : World) (v0 : Value) (aI : Option Addr) (nI cI i : Nat) (hI : IntsIn w (.slice aI nI cI) nI) (hi : i ≤ 1000) :
    Calls Tryz.prog 5 #[.agg #[v0, .slice aI nI cI], .int .i64 (i : Nat)] w fun e w' => ∃ z : Int, e = .returned (.int .i64 z) ∧ Below w.heap.size w w' := by
  have HT : Hid ((w.alloc (.cells #[v0, .slice aI nI cI] 25)).heap[w.heap.size]? = some (.cells #[v0, .slice aI nI cI] 25 (0, 0))) := heap_alloc_new w _
  have HBz1 := hide (below_alloc4 w (.cells #[v0, .slice aI nI cI] 25))
  have HI := hide hI
  have hmx := hI.max
  clear hI
  go_enter Tryz.func5, Tryz.ntmps5
  by_cases h0 : nI = 0
  · have g0 : ((nI : Int) == 0) = true := beq_iff_eq.2 (by omega)
    clear h0
    go_wp2_with fail
    go_ret
    exact ⟨_, rfl, HBz1.out⟩
  · have g0 : ((nI : Int) == 0) = false := beq_eq_false_iff_ne.2 (by omega)
    have q1 : (w.alloc (.cells #[v0, .slice aI nI cI] 25)).cell? ⟨w.heap.size, 1, none⟩ = some (.slice aI nI cI) := blk_cell HT.out rfl
    obtain ⟨a', c', hv, hform⟩ := HI.out.form
    injection hv with e1 e2 e3
    subst e1
    obtain ⟨b, off, rfl, hcells⟩ := hform.resolve_left h0
    have hmod : i % nI < nI := Nat.mod_lt _ (by omega)
    obtain ⟨z, hz⟩ := hcells (i % nI) hmod
    have cz := keep_below HBz1.out _ _ hz
    have htm : (i : Int).tmod (nI : Int) = ((i % nI : Nat) : Int) := by rw [Int.tmod_eq_emod_of_nonneg (by omega)]; omega
    have hml : ((i % nI : Nat) : Int) < (nI : Int) := by omega
    have gp : (0 : Int) < (nI : Int) := by omega
    clear hform hcells hmod hz e2 e3
    generalize i % nI = im at *
    go_wp2_with fail
    generalize w.alloc (.cells #[v0, .slice (some ⟨b, off, none⟩) nI cI] 25) = w0 at *
    go_region
    go_wp2_with fail
    go_ret
    exact ⟨z, rfl, HBz1.out.trans ((Below.refl _ _).drew)⟩
theorem rows_rowL {w : World} {a : Option Addr} {len cap : Nat} (h : RowsIn w (.slice a len cap) len) (hl : 0 < len) : ∃ b off, a = some ⟨b, off, none⟩ ∧ ∀ i, i < len → ∃ u xs, w.cell? ⟨b, off + i, none⟩ = some u ∧ BSl w u xs ∧ xs.length ≤ 140737488351232 := by
  obtain ⟨⟨a', cap', hv, _, hr⟩, _⟩ := h
  injection hv with h1 h2 h3
  subst h1
  rcases hr with hr | hr
  · omega
  · exact hr
end
section
open Go.RowKit Go
theorem one_mkL (w : World) (f : Array Value) : Below w.heap.size w ((w.alloc (.cells zfL 31)).setRow w.heap.size f) ∧ ((w.alloc (.cells zfL 31)).setRow w.heap.size f).heap[w.heap.size]? = some (.cells f 31 (0, 0)) :=
  ⟨(below_alloc4 w _).trans ((row_kp _ _ _).below (below_alloc4 w _).size (fun q e => by omega)), row_same (heap_alloc_new w _)⟩
theorem flt_fcs (r : Nat × Nat) : flt9 r = .agg (fcsL r.1 r.2) := rfl

abbrev NSl (w : World) (v : Value) (xs : List (Nat × Nat)) : Prop := GSl 2 (fun _ (x : Nat × Nat) c => c = ntc x) w v xs
theorem infoNtL : (Tryz.prog.info? 55).map (·.size) = some 2 := by kernel_rfl
theorem aggNtL (w : World) : (isAgg 55).run Tryz.prog w = .ok true w := by kernel_rfl
theorem eqgNtL : Tryz.prog.eqGuardType Tryz.prog.depth 55 = false := by kernel_rfl
theorem eqntL (w : World) (x : Nat × Nat) : (Op.equalIn 10000 55 (.agg (ntc x)) (.agg (ntc x))).run Tryz.prog w = .ok true w := by
  have u3 := Tryz.underlying3
  have a3 := Tryz.isAgg3
  have z3 := Tryz.sizeOf3
  have hS : Tryz.prog.underlying 55 = some (.struct (Tryz.prog.fieldsOf 55)) := by kernel_rfl
  have hp : Tryz.prog.stoodInHeld 55 = false := by kernel_rfl
  unfold ntc
  rw [show (10000 : Nat) = 9999 + 1 from rfl, run_equalIn_agg w 9999 55 _ _ hS hp]
  simp only [Program.fieldsOf, Tryz.underlying55]
  go_simp
theorem exec_neL {T : TypeId} (hg : Tryz.prog.eqGuardType Tryz.prog.depth T = false) {o : Oper} {a : Act} {x y : Operand} {T2 : TypeId} {A : Array Value} {w : World} (ho : o.op = .binOp .neq T x y T2) (hx : a.eval x = .agg A) (hy : a.eval y = .agg A) (he : (Op.equalIn 10000 T (.agg A) (.agg A)).run Tryz.prog w = .ok true w) : (execOp a.eval o).run Tryz.prog w = .ok (.value (.bool false)) w := by
  unfold execOp
  simp only [ho, Sem.run_bind, hx, hy, run_eqGuard_agg w _ T x y A A hg, run_neq_struct, he, Result.andThen_ok]
  rfl
theorem qstep_exL {C : World → Prop} {ops : Array Oper} {o : Oper} {a : Act} {K : Act → Prop} (hgd : Region.wanted o (yielded ops a.tmps) = true) (v : Value) (hx : ∀ w, C w → (execOp a.eval o).run Tryz.prog w = .ok (.value v) w)
    (h : K (a.put o.dst v)) : if Region.wanted o (yielded ops a.tmps) = true then o.quiet Tryz.prog a C K else K (a.put o.dst undef) := by
  rw [if_pos hgd]
  refine ⟨v, fun w hC => ?_, h⟩
  unfold Oper.quietAt
  rw [hx w hC]
  exact ⟨rfl, rfl⟩
theorem eqNotes_any {w : World} {v u : Value} {xs : List (Nat × Nat)} (hv : NSl w v xs) (hu : NSl w u xs) :
    Calls Tryz.prog 17 #[v, u] w fun e w' => e = .returned (.bool true) ∧ Below w.heap.size w w' := by
  have hmax := hv.max
  obtain ⟨⟨av, cv, rfl, _, hg⟩, _⟩ := hv
  obtain ⟨⟨au, cu, rfl, _, hf⟩, _⟩ := hu
  have HG := hide hg
  have HF := hide hf
  have HI := hide infoNtL
  have HA : Hid (∀ w, (isAgg 55).run Tryz.prog w = .ok true w) := aggNtL
  have HEQ : Hid (∀ (w : World) (x : Nat × Nat), (Op.equalIn 10000 55 (.agg (ntc x)) (.agg (ntc x))).run Tryz.prog w = .ok true w) := eqntL
  clear hf hg
  go_enter Tryz.func17, Tryz.ntmps17
  go_wp2_with fail
  go_loopw [5] (fun ii wx => ∃ i : Nat, i ≤ xs.length ∧ ii = .int .i64 (i : Nat) ∧ Hid (Below w.heap.size w wx)) (fun ii _ => xs.length - (intOf ii).toNat)
  case atStart => exact ⟨0, by omega, rfl, Below.refl _ _⟩
  case round =>
    obtain ⟨i, hi, rfl, HBw⟩ := hrel
    by_cases hlt : i < xs.length
    · as_aux_lemma =>
      have g1 : (i : Int) < (xs.length : Int) := by omega
      obtain ⟨x, hx⟩ : ∃ x, xs[i]? = some x := ⟨xs[i], List.getElem?_eq_getElem hlt⟩
      obtain ⟨b, off, rfl, hcc⟩ := HF.out.resolve_left (fun h => by rw [h] at hlt; simp at hlt)
      obtain ⟨b2, off2, rfl, hcd⟩ := HG.out.resolve_left (fun h => by rw [h] at hlt; simp at hlt)
      have HQ1 : Hid (∀ w', (∃ t : Ext wr, w' = t.w') → ∀ j y, (ntc x)[j]? = some y → w'.cell? ⟨b2, off2 + i * 2 + j, none⟩ = some y) := fun w' ⟨t, e⟩ j y hy => by
        rw [e]
        obtain ⟨c, rfl, hcell⟩ := hcd i x hx
        exact keep_below t.h _ _ (keep_below HBw.out _ _ (hcell j y hy))
      have HQ2 : Hid (∀ w', (∃ t : Ext wr, w' = t.w') → ∀ j y, (ntc x)[j]? = some y → w'.cell? ⟨b, off + i * 2 + j, none⟩ = some y) := fun w' ⟨t, e⟩ j y hy => by
        rw [e]
        obtain ⟨c, rfl, hcell⟩ := hcc i x hx
        exact keep_below t.h _ _ (keep_below HBw.out _ _ (hcell j y hy))
      clear hcc hcd hx
      go_wp2_with fail
      refine region_ext (by kernel_rfl) (by kernel_rfl) ?_
      repeat (
        with_reducible refine wpQuiet_step (fun K hK => ?_)
        first
          | (refine qstep_exL rfl (.agg (ntc x)) (fun w' hw' => exec_aggAt HI.out HA.out rfl (g := b2) (off := off2 + i * 2) rfl rfl (HQ1.out w' hw')) (hK _ ?_); clear hK K)
          | (refine qstep_exL rfl (.agg (ntc x)) (fun w' hw' => exec_aggAt HI.out HA.out rfl (g := b) (off := off + i * 2) rfl rfl (HQ2.out w' hw')) (hK _ ?_); clear hK K)
          | (refine qstep_exL rfl (.bool false) (fun w' hw' => exec_neL eqgNtL rfl (A := ntc x) rfl rfl (HEQ.out w' x)) (hK _ ?_); clear hK K)
          | (go_simp
             with_reducible refine hK _ ?_
             clear hK K))
      refine wpQuiet_nil ?_
      rintro _ ⟨tq, rfl⟩
      have HB2 : Hid (Below w.heap.size w tq.w') := HBw.out.trans (tq.h.mono HBw.out.size)
      clear HQ1 HQ2
      go_wp2_with fail
      go_roundw
      case rel => exact ⟨i + 1, by omega, by go_num, HB2⟩
      case measure => simp [intOf]; omega
    · have g1 : ¬ (i : Int) < (xs.length : Int) := by omega
      go_wp2_with fail
      go_ret
      exact ⟨rfl, HBw.out⟩
theorem nsl_own {w : World} {B n : Nat} {v : Value} {xs : List (Nat × Nat)} (hn : n = xs.length) (h : w.ownsRow B 55 2 v n (gfl (xs.map ntc))) (hm : xs.length ≤ 1000000) : NSl w v xs := by
  subst hn
  have e : xs.length = (xs.map ntc).length := by simp
  rw [e] at h
  refine own_gsl h (fun c hc => ?_) e.symm (by omega) (fun i x c h1 h2 => ?_)
  · obtain ⟨x, _, rfl⟩ := List.mem_map.1 hc
    rfl
  · rw [List.getElem?_map, h1] at h2
    injection h2 with h2
    exact h2.symm
end
end Go.Proofs.YtmcamdcgnegmmaaGreatDoor

import Derived.Test.YtbbalhfjgpaabaaGreatDoorJp
import Derived.Test.YtbbalhfjgpaabaaGreatDoorJb
namespace Go.Proofs.YtbbalhfjgpaabaaGreatDoor
section
open Go.ChangeShapes Go.WideShapes Go.ChangeAt Go.RowKit Go Go.Lib
theorem biN : Tryz.prog.globalNamed "trellis/schema.builtIn" = some 0 := by kernel_rfl
theorem biT : (Tryz.prog.globals[0]?).map (·.type) = some 125 := by kernel_rfl
theorem biC : Tryz.prog.cellsOf 124 = 2 := by kernel_rfl
theorem biS : Tryz.prog.cellsOf 9 = 1 := by kernel_rfl
theorem biI : Tryz.prog.cellsOf 3 = 1 := by kernel_rfl
def biD : List (DataW Unit) := owns.map fun p => .agg [.lit (.string p.1.data.toList), .lit (.int .i64 (p.2 : Nat))]
theorem bi_eq : (Rows.laid_trellis_schema_builtIn : DataW Unit) = .agg biD := by kernel_rfl
theorem ocs_at : ∀ (i : Nat) (p : ByteArray × Nat), owns[i]? = some p → ocs[2 * i]? = some (.string p.1) ∧ ocs[2 * i + 1]? = some (.int .i64 (p.2 : Nat)) := fun i p h => by
  rcases i with _ | _ | _ | _ | _ | _ | _ | _ | _ | i
  all_goals first
    | (obtain rfl := Option.some.inj h; exact ⟨rfl, rfl⟩)
    | (simp [owns] at h)
theorem otb_of_reads {w : World} (h : VarReads Tryz.prog w "trellis/schema.builtIn" (.agg biD)) : Otb w := by
  obtain ⟨g, t, cs, fuel, p, hg, hty, hvar, hd⟩ := h
  obtain rfl := Option.some.inj (biN.symm.trans hg)
  obtain rfl := Option.some.inj (biT.symm.trans hty)
  have key : ∀ i q, owns[i]? = some q → w.cell? ⟨0, 2 * i, none⟩ = some (.string q.1) ∧ w.cell? ⟨0, 2 * i + 1, none⟩ = some (.int .i64 (q.2 : Nat)) := fun i q hq => by
    have hi : i < 9 := by have := (List.getElem?_eq_some_iff.1 hq).1; rw [owns_len] at this; exact this
    obtain ⟨fuel', d, r, hdi, he⟩ := array_elem Tryz.underlying125 hd i hi
    rw [biC] at he
    unfold biD at hdi
    rw [List.getElem?_map, hq] at hdi
    have hdi := (Option.some.inj hdi).symm
    subst hdi
    obtain ⟨y0, y1, n, hx, _, h0, h1⟩ := trod_struct2 Tryz.underlying124 he
    obtain ⟨s, e0, hy0, _⟩ := DataW.trod_string Tryz.underlying9 h0
    obtain ⟨z, e1, hy1, _⟩ := DataW.trod_int Tryz.underlying3 h1
    have hx1 := congrArg Prod.fst hx
    simp only [DataW.agg.injEq, List.cons.injEq, and_true] at hx1
    rw [hy0, hy1] at hx1
    have hs : q.1.data.toList = s.data.toList := by
      have := hx1.1
      simpa using this
    have hz : ((q.2 : Nat) : Int) = z := by
      have := hx1.2
      simpa using this
    have hs2 : s = q.1 := by
      obtain ⟨⟨l⟩⟩ := s
      obtain ⟨⟨⟨m⟩⟩, _⟩ := q
      simp only at hs
      rw [hs]
    subst hs2
    subst hz
    rw [World.var?_cell hg hvar (2 * i), World.var?_cell hg hvar (2 * i + 1), ← Array.getElem?_toList, ← Array.getElem?_toList]
    have c0 := congrArg (·[0]?) e0
    have c1 := congrArg (·[0]?) e1
    simp only [biS, biI, List.getElem?_take, List.getElem?_drop] at c0 c1
    exact ⟨by simpa [Nat.mul_comm] using c0, by simpa [Nat.mul_comm] using c1⟩
  refine ⟨fun j u hj => ?_⟩
  rw [Nat.zero_add]
  have hj18 : j < 18 := (Array.getElem?_eq_some_iff.1 hj).1
  obtain ⟨q, hq⟩ : ∃ q, owns[j / 2]? = some q := ⟨owns[j / 2]'(by rw [owns_len]; omega), List.getElem?_eq_getElem _⟩
  obtain ⟨a1, a2⟩ := key _ _ hq
  obtain ⟨b1, b2⟩ := ocs_at _ _ hq
  rcases Nat.mod_two_eq_zero_or_one j with hm | hm
  · have e : 2 * (j / 2) = j := by omega
    rw [e] at a1 b1
    rw [a1, ← hj, b1]
  · have e : 2 * (j / 2) + 1 = j := by omega
    rw [e] at a2 b2
    rw [a2, ← hj, b2]
theorem tabs11_of_laid {W : World} (h : laidMet Tryz.prog [("unicode/utf8.acceptRanges", Rows.laid_unicode_utf8_acceptRanges), ("trellis/schema.builtIn", Rows.laid_trellis_schema_builtIn), ("unicode/utf8.first", Rows.laid_unicode_utf8_first)] W) : Tabs W ∧ Otb W := by
  rw [acc_eq, fst_eq, bi_eq] at h
  exact ⟨utf8Tabs_of_readsT (U8Types.of196 Tryz.laysValid) ⟨by kernel_rfl, by kernel_rfl, by kernel_rfl, by kernel_rfl, by kernel_rfl, by kernel_rfl, by kernel_rfl⟩ (Lib.laidMet.reads h (.tail _ (.tail _ (.head _)))) (Lib.laidMet.reads h (.head _)), otb_of_reads (Lib.laidMet.reads h (.tail _ (.head _)))⟩
noncomputable def laidWorld11 (os : Os) : World :=
  let w0 := World.holding Tryz.prog os ⟨#[], #[], []⟩
  let put (h : Array Obj) (g : Nat) (cs : Array Value) : Array Obj := h.modify g fun
    | .cells _ t frozen => .cells cs t frozen
    | o => o
  let h1 := put w0.heap 1 (Lib.firstTab.map fun z => Value.int .u8 z).toArray
  let h2 := put h1 2 ((List.range 16).flatMap fun i => [Value.int .u8 (Lib.accLo i), Value.int .u8 (Lib.accHi i)]).toArray
  let h3 := put h2 0 ocs
  { w0 with heap := h3 }
theorem laid_met11 (os : Os) (args : Array Value) : laidMet Tryz.prog [("unicode/utf8.acceptRanges", Rows.laid_unicode_utf8_acceptRanges), ("trellis/schema.builtIn", Rows.laid_trellis_schema_builtIn), ("unicode/utf8.first", Rows.laid_unicode_utf8_first)] ((laidWorld11 os).forCall (fun _ _ => 0) ⟨#[], args, []⟩).memory := by
  rw [acc_eq, fst_eq]
  exact (LaidIn.of_run (l := [("unicode/utf8.acceptRanges", Lib.acceptData), ("trellis/schema.builtIn", Rows.laid_trellis_schema_builtIn), ("unicode/utf8.first", Lib.firstData)]) [2, 0, 1] 8 (by kernel_rfl) (by kernel_rfl) (by kernel_rfl) (by kernel_rfl)).met
end
end Go.Proofs.YtbbalhfjgpaabaaGreatDoor

import Derived.Test.YtnkghcndaafmoaaGreatDoorJqn
import Derived.Test.YtnkghcndaafmoaaGreatDoorJqad
import Derived.LaidLaws
import Derived.Handed
import Derived.Lib.LaidTab
import Derived.Test.YtnkghcndaafmoaaGreatDoorJqan
import Derived.Lib.SmallJoins
namespace Go.Proofs.YtnkghcndaafmoaaGreatDoor
section
open Go.ChangeShapes Go.WideShapes Go.ChangeAt Go.RowKit Go
def kki : List Int := kk.map fun n => ((n : Nat) : Int)
theorem cbN : Tryz.prog.globalNamed "trellis/digest.cubes" = some 1 := by kernel_rfl
theorem cbT : (Tryz.prog.globals[1]?).map (·.type) = some 269 := by kernel_rfl
theorem cellsU32 : Tryz.prog.cellsOf 108 = 1 := by kernel_rfl
theorem cells64 : Tryz.prog.cellsOf 269 = 64 := by kernel_rfl
theorem cb_of_laid {W : World} (h : laidMet Tryz.prog [("trellis/digest.cubes", Rows.laid_trellis_digest_cubes)] W) : Cb W := by
  have h' : laidMet Tryz.prog (("trellis/digest.cubes", Lib.tabData .u32 kki) :: []) W := h
  have t := Lib.tabIs_of_head cbN cbT Tryz.underlying269 Tryz.underlying108 cellsU32 cells64 h'
  refine ⟨fun i hi => ?_⟩
  have hc := t.cell cbN i (by rw [kki, List.length_map]; exact hi)
  rw [hc]
  congr 2
  simp only [kki, List.getD_eq_getElem?_getD, List.getElem?_map]
  have hl : i < kk.length := hi
  rw [List.getElem?_eq_getElem hl]
  rfl
noncomputable def laidWorld (os : Os) : World :=
  let w0 := World.holding Tryz.prog os ⟨#[], #[], []⟩
  { w0 with heap := w0.heap.modify 1 fun
      | .cells _ t frozen => .cells (wv kk).toArray t frozen
      | o => o }
theorem laid_met (os : Os) (args : Array Value) : laidMet Tryz.prog [("trellis/digest.cubes", Rows.laid_trellis_digest_cubes)] ((laidWorld os).forCall (fun _ _ => 0) ⟨#[], args, []⟩).memory :=
  laidMet_of_run' 8 (by kernel_rfl) (by kernel_rfl)
end
section
open Go.ChangeShapes Go.WideShapes Go.ChangeAt Go.RowKit Go.Deep Go.Joins Go
theorem cellsScr : Tryz.prog.cellsOf 25 = 3 := by kernel_rfl
theorem cells2i : Tryz.prog.cellsOf 22 = 2 := by kernel_rfl
set_option maxRecDepth 100000 in
theorem script_open {H : Type} {enc : TypeId × Value → H} {w : World} {base b0 : Nat} {r : Reach} {held : Bool} {v : Value} {d : DataW H} {p : List MemPlace} (hv : Value.okWide Tryz.prog w r b0 25 v) (h : DataW.Trod enc Tryz.prog w base (fun _ => true) held 25 v d p) (hW : (d.weights Tryz.prog 25).all (· ≤ reachBytes) = true) :
    ∃ (a0 a1 : Int) (vO : Value) (os : List Opr), v = .agg #[.int .i64 a0, .int .i64 a1, vO] ∧ OSl w vO os := by
  obtain ⟨cs, rfl, hsz⟩ := okWide_struct Tryz.underlying25 hv
  obtain ⟨c0, c1, c2, rfl⟩ := array3 (hsz.trans cellsScr)
  obtain ⟨fuel, hf⟩ := h
  obtain ⟨y0, y1, n, hx, _, h0, h1⟩ := trod_struct2 Tryz.underlying25 hf
  simp only [Prod.mk.injEq] at hx
  have g0 : DataW.trod enc Tryz.prog w base (fun _ => true) held n 22 [c0, c1] = some y0 := by simpa [Value.cells, cells2i] using h0
  have g1 : DataW.trod enc Tryz.prog w base (fun _ => true) held n 23 [c2] = some y1 := by simpa [Value.cells, cells2i, cellsOso] using h1
  have hWE : (DataW.weightsEach Tryz.prog [22, 23] [y0.1, y1.1]).all (· ≤ reachBytes) = true := by
    rw [hx.1] at hW
    simp only [DataW.weights, Tryz.underlying25] at hW
    exact hW
  obtain ⟨os, hos⟩ := ops_open g1 (weight_each hWE (j := 1) rfl rfl)
  obtain ⟨xs, m, _, _, _, hxl, hel⟩ := DataW.trod_array Tryz.underlying22 g0
  obtain ⟨z0, z1, rfl⟩ : ∃ z0 z1, xs = [z0, z1] := by
    match xs, hxl with
    | [z0, z1], _ => exact ⟨z0, z1, rfl⟩
  have t0 : DataW.trod enc Tryz.prog w base (fun _ => true) held m 3 [c0] = some z0 := by simpa [cells3o] using hel 0 (by omega)
  have t1 : DataW.trod enc Tryz.prog w base (fun _ => true) held m 3 [c1] = some z1 := by simpa [cells3o] using hel 1 (by omega)
  obtain ⟨n0, f0, _, _⟩ := DataW.trod_int (fuel := m) (cs := [c0]) Tryz.underlying3 t0
  obtain ⟨n1, f1, _, _⟩ := DataW.trod_int (fuel := m) (cs := [c1]) Tryz.underlying3 t1
  exact ⟨n0, n1, c2, os, by rw [(List.cons.inj f0).1, (List.cons.inj f1).1], hos⟩
end
end Go.Proofs.YtnkghcndaafmoaaGreatDoor

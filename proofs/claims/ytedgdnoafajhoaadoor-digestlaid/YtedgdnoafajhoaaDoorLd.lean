import Derived.Test.YtedgdnoafajhoaaDoorDc
import Derived.Test.YtedgdnoafajhoaaDoorOpen
import Derived.LaidLaws
import Derived.Handed
import Derived.Lib.LaidTab
namespace Go.Proofs.YtedgdnoafajhoaaDoor
open Go.ChangeShapes Go.WideShapes Go.ChangeAt Go.RowKit Go

/-- What the rows lay. -/
def kki : List Int := kk.map fun n => ((n : Nat) : Int)
theorem cbN : Tryd.prog.globalNamed "trellis/digest.cubes" = some 0 := by kernel_rfl
theorem cbT : (Tryd.prog.globals[0]?).map (·.type) = some 109 := by kernel_rfl
theorem cellsU32 : Tryd.prog.cellsOf 91 = 1 := by kernel_rfl
theorem cells64 : Tryd.prog.cellsOf 109 = 64 := by kernel_rfl
theorem cb_of_laid {W : World} (h : laidMet Tryd.prog [("trellis/digest.cubes", Rows.laid_trellis_digest_cubes)] W) : Cb W := by
  have h' : laidMet Tryd.prog (("trellis/digest.cubes", Lib.tabData .u32 kki) :: []) W := h
  have t := Lib.tabIs_of_head cbN cbT Tryd.underlying109 Tryd.underlying91 cellsU32 cells64 h'
  refine ⟨fun i hi => ?_⟩
  have hc := t.cell cbN i (by rw [kki, List.length_map]; exact hi)
  rw [hc]
  congr 2
  simp only [kki, List.getD_eq_getElem?_getD, List.getElem?_map]
  have hl : i < kk.length := hi
  rw [List.getElem?_eq_getElem hl]
  rfl
/-- The settled world, the table laid. -/
noncomputable def laidWorld (os : Os) : World :=
  let w0 := World.holding Tryd.prog os ⟨#[], #[], []⟩
  { w0 with heap := w0.heap.modify 0 fun
      | .cells _ t frozen => .cells (wv kk).toArray t frozen
      | o => o }
theorem laid_met (os : Os) (args : Array Value) : laidMet Tryd.prog [("trellis/digest.cubes", Rows.laid_trellis_digest_cubes)] ((laidWorld os).forCall (fun _ _ => 0) ⟨#[], args, []⟩).memory :=
  laidMet_of_run' 8 (by kernel_rfl) (by kernel_rfl)
end Go.Proofs.YtedgdnoafajhoaaDoor

import Derived.Lib.SmallJoins
import Derived.Test.YtadilnmkjcmnnaaGreatDoorJab
import Derived.Test.YtadilnmkjcmnnaaGreatDoorJf
namespace Go.Proofs.YtadilnmkjcmnnaaGreatDoor
section
open Go.ChangeShapes Go.WideShapes Go.ChangeAt Go.RowKit Go.Deep Go.Joins Go
theorem Tryz.cellsReads : Tryz.prog.cellsOf 25 = 2 := by kernel_rfl
set_option maxRecDepth 100000 in
theorem reads_open {H : Type} {enc : TypeId × Value → H} {w : World} {base b0 : Nat} {r : Reach} {held : Bool} {v : Value} {d : DataW H} {p : List MemPlace} (hv : Value.okWide Tryz.prog w r b0 25 v) (h : DataW.Trod enc Tryz.prog w base (fun _ => true) held 25 v d p) (hW : (d.weights Tryz.prog 25).all (· ≤ reachBytes) = true) :
    ∃ (vB vI : Value) (nB nI : Nat), v = .agg #[vB, vI] ∧ RowsIn w vB nB ∧ IntsIn w vI nI := by
  obtain ⟨c0, c1, y0, y1, m, rfl, hd, _, hy0, hy1⟩ := open_agg2 Tryz.underlying25 (by kernel_rfl) Tryz.cellsReads hv h
  subst hd
  have hs2 : (DataW.weightsEach Tryz.prog [22, 23] [y0.1, y1.1]).all (· ≤ reachBytes) = true := by
    simp only [DataW.weights, Tryz.underlying25] at hW
    exact hW
  obtain ⟨nB, hB⟩ := rows_open hy0 hs2 (j := 0) rfl rfl
  obtain ⟨nI, hI⟩ := ints_open hy1
  exact ⟨c0, c1, nB, nI, rfl, hB, hI⟩
end
end Go.Proofs.YtadilnmkjcmnnaaGreatDoor

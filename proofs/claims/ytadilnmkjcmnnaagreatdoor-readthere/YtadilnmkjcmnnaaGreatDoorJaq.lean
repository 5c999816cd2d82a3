import Derived.Lib.SmallJoins
import Derived.Test.YtadilnmkjcmnnaaGreatDoorJam
namespace Go.Proofs.YtadilnmkjcmnnaaGreatDoor
section
open Go.ChangeShapes Go.WideShapes Go.ChangeAt Go.RowKit Go.Deep Go.Joins Go
set_option maxRecDepth 100000 in
theorem trees8_open {H : Type} {enc : TypeId × Value → H} {w : World} {base b0 : Nat} {r : Reach} {held : Bool} {v : Value} {d : DataW H} {p : List MemPlace} (hv : Value.okWide Tryz.prog w r b0 56 v) (h : DataW.Trod enc Tryz.prog w base (fun _ => true) held 56 v d p) (hW : (d.weights Tryz.prog 56).all (· ≤ reachBytes) = true) :
    ∃ (vV vT : Value) (is : List Tv) (ts : List Nat), v = .agg #[vV, vT] ∧ VSl w vV is ∧ BSl w vT ts := by
  obtain ⟨c0, c1, y0, y1, m, rfl, hd, _, hy0, hy1⟩ := open_agg2 Tryz.underlying56 (by kernel_rfl) (show Tryz.prog.cellsOf 56 = 2 by kernel_rfl) hv h
  subst hd
  have hs2 : (DataW.weightsEach Tryz.prog [54, 46] [y0.1, y1.1]).all (· ≤ reachBytes) = true := by
    simp only [DataW.weights, Tryz.underlying56] at hW
    exact hW
  obtain ⟨is, his⟩ := values_open hy0 (weight_each hs2 (j := 0) rfl rfl)
  obtain ⟨ts, h1, _⟩ := bsl_open6 hy1 (weight_each hs2 (j := 1) rfl rfl)
  exact ⟨c0, c1, is, ts, rfl, his, h1⟩
end
end Go.Proofs.YtadilnmkjcmnnaaGreatDoor

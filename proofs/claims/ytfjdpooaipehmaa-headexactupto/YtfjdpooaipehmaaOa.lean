import Derived.Test.YtfjdpooaipehmaaUp
import Derived.Deep.SlicePairs
namespace Go.Proofs.Ytfjdpooaipehmaa
open Go.ChangeShapes Go.WideShapes Go.ChangeAt Go.RowKit Go.Deep Go.Joins

theorem Try.cellsArg : Try.prog.cellsOf 52 = 2 := by kernel_rfl
theorem Try.cells_i : Try.prog.cellsOf 3 = 1 := by kernel_rfl
theorem Try.cells_u : Try.prog.cellsOf 50 = 1 := by kernel_rfl

/-- What the way down gives of a slice of majors and arguments. -/
theorem args_of_trod {H : Type} {enc : TypeId × Value → H} {w : World} {base fuel : Nat} {held : Bool} {v : Value} {x : DataW H × List MemPlace} (h : DataW.trod enc Try.prog w base (fun _ => true) held fuel 22 [v] = some x) :
    v = .slice none 0 0 ∨ ∃ (b off len cap : Nat) (spot : _) (ms : Nat → Int) (ns : Nat → Nat), v = .slice (some ⟨b, off, spot⟩) len cap ∧ len ≤ 9223372036854775807 ∧ (len ≠ 0 → spot = none) ∧
      (spot = none → ∀ j, j < len → (w.cell? ⟨b, off + j * 2, none⟩ = some (.int .i64 (ms j)) ∧ w.cell? ⟨b, off + j * 2 + 1, none⟩ = some (.int .u64 ((ns j : Nat) : Int))) ∧ (-9223372036854775808 ≤ ms j ∧ ms j ≤ 9223372036854775807 ∧ ns j < 18446744073709551616)) := by
  rcases open_slice_pairs Try.underlying22 Try.underlying52 Try.cellsArg rfl rfl Try.cells_i Try.cells_u h with ⟨hcs, _⟩ | ⟨a, len, cap, m, n, V0, V1, D0, D1, P0, P1, hcs, _, hl, hm, hmm, _, hcell⟩
  · injection hcs with hcs _
    exact .inl hcs
  · injection hcs with hcs _
    obtain ⟨b, off, spot⟩ := a
    simp only [if_true] at hmm
    refine .inr ⟨b, off, len, cap, spot, fun j => intOf (V0 j), fun j => (intOf (V1 j)).toNat, hcs, by unfold maxLen at hm; omega, ?_, ?_⟩
    · intro hz
      have h1 := (hcell 0 (by omega)).1
      simpa [Addr.add] using World.cell?_spot h1
    · intro hs j hj
      subst hs
      obtain ⟨c0, c1, t0, t1⟩ := hcell j (by omega)
      have hadd : ∀ k, (⟨b, off, none⟩ : Addr).add k = ⟨b, off + k, none⟩ := by intro k; unfold Addr.add; split <;> simp_all
      rw [hadd] at c0 c1
      obtain ⟨n0, e0, _, w0⟩ := DataW.trod_int Try.underlying3 t0
      obtain ⟨n1, e1, _, w1⟩ := DataW.trod_int Try.underlying50 t1
      injection e0 with e0 _
      injection e1 with e1 _
      have b0 := bounds_i64 w0
      have b1 := bounds_u64 w1
      have hz0 : intOf (V0 j) = n0 := by rw [e0]; rfl
      have hz1 : ((intOf (V1 j)).toNat : Int) = n1 := by rw [e1]; exact Int.toNat_of_nonneg b1.1
      have i1 : intOf (V1 j) = n1 := by rw [e1]; rfl
      refine ⟨⟨?_, ?_⟩, ?_⟩
      · show _ = some (Value.int .i64 (intOf (V0 j)))
        rw [c0, hz0, e0]
      · show _ = some (Value.int .u64 (((intOf (V1 j)).toNat : Nat) : Int))
        rw [hz1, ← e1]
        exact c1
      · show -9223372036854775808 ≤ intOf (V0 j) ∧ intOf (V0 j) ≤ 9223372036854775807 ∧ (intOf (V1 j)).toNat < 18446744073709551616
        rw [hz0, i1]
        omega
end Go.Proofs.Ytfjdpooaipehmaa

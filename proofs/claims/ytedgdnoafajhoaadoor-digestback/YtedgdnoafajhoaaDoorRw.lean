import Derived.Test.YtedgdnoafajhoaaDoorOpen
import Derived.Lib.SmallJoins
namespace Go.Proofs.YtedgdnoafajhoaaDoor
open Go.ChangeShapes Go.WideShapes Go.ChangeAt Go.RowKit Go.Deep Go.Joins

/-- A slice of rows of bytes, all within the reach. -/
structure RowsIn (w : World) (v : Value) (len : Nat) : Prop where
  form : ∃ a cap, v = .slice a len cap ∧ len ≤ cap ∧ (len = 0 ∨ ∃ b off, a = some ⟨b, off, none⟩ ∧ ∀ i, i < len → ∃ u xs, w.cell? ⟨b, off + i, none⟩ = some u ∧ BSl w u xs ∧ xs.length ≤ 140737488351232)
  max : len ≤ 9223372036854775807

theorem rows_open {H : Type} {enc : TypeId × Value → H} {W : World} {base fuel : Nat} {held : Bool} {v : Value} {y : DataW H × List MemPlace} (h : DataW.trod enc Tryd.prog W base (fun _ => true) held fuel 22 [v] = some y)
    {ts : List TypeId} {ds : List (DataW H)} (hsz : (DataW.weightsEach Tryd.prog ts ds).all (· ≤ reachBytes) = true) {j : Nat} (ht : ts[j]? = some 22) (hd : ds[j]? = some y.1) : ∃ len, RowsIn W v len := by
  rcases open_int_rows Tryd.underlying22 Tryd.underlying27 Tryd.underlying5 Tryd.cells_bytes Tryd.cells5 h with ⟨hcs, _⟩ | ⟨a, len, cap, A, L, C, Z, hcs, _, hl, hm, hx, hcell⟩
  · injection hcs with hcs _
    subst hcs
    exact ⟨0, ⟨none, 0, rfl, Nat.le_refl _, .inl rfl⟩, by omega⟩
  · injection hcs with hcs _
    subst hcs
    refine ⟨len, ⟨some a, cap, rfl, hl, ?_⟩, by unfold maxLen at hm; omega⟩
    by_cases hz : len = 0
    · exact .inl hz
    · obtain ⟨b, off, spot⟩ := a
      have h1 := (hcell 0 (by omega)).1
      have hspot : spot = none := by simpa [Addr.add] using World.cell?_spot h1
      subst hspot
      refine .inr ⟨b, off, rfl, fun i hi => ?_⟩
      obtain ⟨c1, c2, c3, c4, c5, c6, c7⟩ := hcell i (by omega)
      have hadd : (⟨b, off, none⟩ : Addr).add i = ⟨b, off + i, none⟩ := by unfold Addr.add; split <;> simp_all
      rw [hadd] at c1
      refine ⟨_, _, c1, bsl_of_row (A i) (L i) (C i) (Z i) c2 c3 c4 c5 c6 (fun a' h => (c7 a' h).2), ?_⟩
      have hlen : (((Z i).take (L i)).map Int.toNat).length = L i := by simp; omega
      rw [hlen]
      cases hAi : A i with
      | none => have := c6 hAi; omega
      | some a' =>
        have hd1 := congrArg Prod.fst hx
        simp only at hd1
        rw [hd1] at hd
        have h2 := rows_reach hsz (j := j) ht hd (d := intRow .u8 (A i) (L i) (Z i)) (List.mem_map.2 ⟨i, List.mem_range.2 hi, rfl⟩) (n := C i) (by rw [hAi]; exact row_weight a' _ _ _ c4)
        unfold reachBytes at h2
        omega
end Go.Proofs.YtedgdnoafajhoaaDoor

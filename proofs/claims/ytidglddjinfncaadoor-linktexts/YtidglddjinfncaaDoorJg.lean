import Derived.Test.YtidglddjinfncaaDoorJf
import Derived.Lib.SmallJoins
import Derived.SliceStrings
import Derived.LaidLaws
import Derived.Handed
import Derived.Lib.LaidTab
namespace Go.Proofs.YtidglddjinfncaaDoor
section
open Go.ChangeShapes Go.WideShapes Go.ChangeAt Go.RowKit Go.Deep Go.Joins
/-- A slice of rows of bytes, all within the reach. -/
structure RowsIn (w : World) (v : Value) (len : Nat) : Prop where
  form : ∃ a cap, v = .slice a len cap ∧ len ≤ cap ∧ (len = 0 ∨ ∃ b off, a = some ⟨b, off, none⟩ ∧ ∀ i, i < len → ∃ u xs, w.cell? ⟨b, off + i, none⟩ = some u ∧ BSl w u xs ∧ xs.length ≤ 140737488351232)
  max : len ≤ 9223372036854775807

theorem rows_open {H : Type} {enc : TypeId × Value → H} {W : World} {base fuel : Nat} {held : Bool} {v : Value} {y : DataW H × List MemPlace} (h : DataW.trod enc Tryd.prog W base (fun _ => true) held fuel 24 [v] = some y)
    {ts : List TypeId} {ds : List (DataW H)} (hsz : (DataW.weightsEach Tryd.prog ts ds).all (· ≤ reachBytes) = true) {j : Nat} (ht : ts[j]? = some 24) (hd : ds[j]? = some y.1) : ∃ len, RowsIn W v len := by
  rcases open_int_rows Tryd.underlying24 Tryd.underlying47 Tryd.underlying5 Tryd.cells_bytes Tryd.cells5 h with ⟨hcs, _⟩ | ⟨a, len, cap, A, L, C, Z, hcs, _, hl, hm, hx, hcell⟩
  · injection hcs with hcs _
    subst hcs
    exact ⟨0, ⟨none, 0, rfl, Nat.le_refl _, .inl rfl⟩, by omega⟩
  · injection hcs with hcs _
    subst hcs
    refine ⟨len, ⟨some a, cap, rfl, hl, ?_⟩, by unfold maxLen at hm; omega⟩
    by_cases hz : len = 0
    · exact .inl hz
    · obtain ⟨b, off, spot⟩ := a
      have h1 := (hcell 0 (by omega)).1
      have hspot : spot = none := by simpa [Addr.add] using World.cell?_spot h1
      subst hspot
      refine .inr ⟨b, off, rfl, fun i hi => ?_⟩
      obtain ⟨c1, c2, c3, c4, c5, c6, c7⟩ := hcell i (by omega)
      have hadd : (⟨b, off, none⟩ : Addr).add i = ⟨b, off + i, none⟩ := by unfold Addr.add; split <;> simp_all
      rw [hadd] at c1
      refine ⟨_, _, c1, bsl_of_row (A i) (L i) (C i) (Z i) c2 c3 c4 c5 c6 (fun a' h => (c7 a' h).2), ?_⟩
      have hlen : (((Z i).take (L i)).map Int.toNat).length = L i := by simp; omega
      rw [hlen]
      cases hAi : A i with
      | none => have := c6 hAi; omega
      | some a' =>
        have hd1 := congrArg Prod.fst hx
        simp only at hd1
        rw [hd1] at hd
        have h2 := rows_reach hsz (j := j) ht hd (d := intRow .u8 (A i) (L i) (Z i)) (List.mem_map.2 ⟨i, List.mem_range.2 hi, rfl⟩) (n := C i) (by rw [hAi]; exact row_weight a' _ _ _ c4)
        unfold reachBytes at h2
        omega
end
section
open Go.ChangeShapes Go.WideShapes Go.ChangeAt Go.RowKit Go.Deep Go.Joins Go
/-- A slice of links. -/
structure LinksIn (w : World) (v : Value) (len : Nat) : Prop where
  form : ∃ a cap, v = .slice a len cap ∧ (len = 0 ∨ ∃ b off, a = some ⟨b, off, none⟩ ∧ ∀ i, i < len → ∃ l : Lk, Lkb l ∧ ∀ j u, (lcs l)[j]? = some u → w.cell? ⟨b, off + i * 4 + j, none⟩ = some u)
  max : len ≤ 9223372036854775807
/-- A slice of strings. -/
structure StrsIn (w : World) (v : Value) (len : Nat) : Prop where
  form : ∃ a cap, v = .slice a len cap ∧ (len = 0 ∨ ∃ b off, a = some ⟨b, off, none⟩ ∧ ∀ i, i < len → ∃ s : ByteArray, s.size ≤ 9223372036854775807 ∧ w.cell? ⟨b, off + i, none⟩ = some (.string s))
  max : len ≤ 9223372036854775807
theorem Tryd.cellsLink : Tryd.prog.cellsOf 35 = 4 := by kernel_rfl
theorem Tryd.cells_int : Tryd.prog.cellsOf 3 = 1 := by kernel_rfl
theorem Tryd.cells_u64 : Tryd.prog.cellsOf 33 = 1 := by kernel_rfl
theorem Tryd.cells_str : Tryd.prog.cellsOf 9 = 1 := by kernel_rfl
set_option maxRecDepth 100000 in
theorem links_open {H : Type} {enc : TypeId × Value → H} {w : World} {base fuel : Nat} {held : Bool} {v : Value} {x : DataW H × List MemPlace} (h : DataW.trod enc Tryd.prog w base (fun _ => true) held fuel 22 [v] = some x) : ∃ len, LinksIn w v len := by
  rcases open_slice Tryd.underlying22 h with ⟨hcs, _⟩ | ⟨a, len, cap, m, n, D, Pl, hcs, _, hl, hm, hmm, hx, hel⟩
  · injection hcs with hcs _
    subst hcs
    exact ⟨0, ⟨none, 0, rfl, .inl rfl⟩, by omega⟩
  · injection hcs with hcs _
    subst hcs
    simp only [if_true] at hmm
    refine ⟨len, ⟨some a, cap, rfl, ?_⟩, by unfold maxLen at hm; omega⟩
    have each : ∀ i, i < len → ∃ l : Lk, Lkb l ∧ ∀ j u, (lcs l)[j]? = some u → w.cell? ((a.add (i * 4)).add j) = some u := by
      intro i hi
      obtain ⟨cs', h1, h2⟩ := hel i (by omega)
      rw [Tryd.cellsLink] at h1
      obtain ⟨_, hlen, hcell⟩ := World.cells?_some h1
      obtain ⟨y0, y1, y2, y3, k, hxy, _, g0, g1, g2, g3⟩ := trod_struct4 Tryd.underlying35 h2
      match cs', hlen with
      | [v0, v1, v2, v3], _ =>
        have e0 := hcell 0 (by omega)
        have e1 := hcell 1 (by omega)
        have e2 := hcell 2 (by omega)
        have e3 := hcell 3 (by omega)
        obtain ⟨n0, f0, _, w0⟩ := DataW.trod_int (fuel := k) (cs := [v0]) Tryd.underlying3 (by simpa [Tryd.cells_int] using g0)
        obtain ⟨n1, f1, _, w1⟩ := DataW.trod_int (fuel := k) (cs := [v1]) Tryd.underlying33 (by simpa [Tryd.cells_u64] using g1)
        obtain ⟨n2, f2, _, w2⟩ := DataW.trod_int (fuel := k) (cs := [v2]) Tryd.underlying33 (by simpa [Tryd.cells_u64] using g2)
        obtain ⟨s, f3, _, hs⟩ := DataW.trod_string (fuel := k) (cs := [v3]) Tryd.underlying9 (by simpa [Tryd.cells_str] using g3)
        injection f0 with f0 _
        injection f1 with f1 _
        injection f2 with f2 _
        injection f3 with f3 _
        subst f0 f1 f2 f3
        have b1 := bounds_u64 w1
        have b2 := bounds_u64 w2
        refine ⟨⟨n0, n1.toNat, n2.toNat, sl s⟩, ⟨by simp only; omega, by simp only; omega, sl_byte s, by simp only [sl_len]; unfold maxLen at hs; omega⟩, fun j u hu => ?_⟩
        have q1 : ((n1.toNat : Nat) : Int) = n1 := by omega
        have q2 : ((n2.toNat : Nat) : Int) = n2 := by omega
        simp only [lcs, nstr_sl, q1, q2] at hu
        match j, hu with
        | 0, hu => simp at hu; subst hu; simpa using e0
        | 1, hu => simp at hu; subst hu; simpa using e1
        | 2, hu => simp at hu; subst hu; simpa using e2
        | 3, hu => simp at hu; subst hu; simpa using e3
        | j + 4, hu => simp at hu
    by_cases hz : len = 0
    · exact .inl hz
    · obtain ⟨b, off, spot⟩ := a
      obtain ⟨l0, _, h1⟩ := each 0 (by omega)
      have hspot : spot = none := by
        have := h1 0 (.int .i64 l0.v) rfl
        simpa [Addr.add] using World.cell?_spot this
      subst hspot
      refine .inr ⟨b, off, rfl, fun i hi => ?_⟩
      obtain ⟨l, hl, hc⟩ := each i hi
      refine ⟨l, hl, fun j u hu => ?_⟩
      have := hc j u hu
      rw [addr_add, addr_add] at this
      exact this
theorem strs_open {H : Type} {enc : TypeId × Value → H} {w : World} {base fuel : Nat} {held : Bool} {v : Value} {x : DataW H × List MemPlace} (h : DataW.trod enc Tryd.prog w base (fun _ => true) held fuel 25 [v] = some x) : ∃ len, StrsIn w v len := by
  rcases open_strings Tryd.underlying25 Tryd.underlying9 Tryd.cells_str h with ⟨hcs, _⟩ | ⟨a, len, cap, ss, hcs, _, hl, hm, hmm, hx, hel, hsz⟩
  · injection hcs with hcs _
    subst hcs
    exact ⟨0, ⟨none, 0, rfl, .inl rfl⟩, by omega⟩
  · injection hcs with hcs _
    subst hcs
    simp only [if_true] at hmm
    refine ⟨len, ⟨some a, cap, rfl, ?_⟩, by unfold maxLen at hm; omega⟩
    by_cases hz : len = 0
    · exact .inl hz
    · obtain ⟨b, off, spot⟩ := a
      have hspot : spot = none := by
        have := hel 0 (by omega)
        simpa [Addr.add] using World.cell?_spot this
      subst hspot
      refine .inr ⟨b, off, rfl, fun i hi => ?_⟩
      have h1 := hel i (by omega)
      rw [addr_add] at h1
      refine ⟨_, ?_, h1⟩
      have hi2 : i < ss.length := by omega
      rw [List.getD_eq_getElem?_getD, List.getElem?_eq_getElem hi2]
      have := hsz _ (List.getElem_mem hi2)
      unfold maxLen at this
      exact this
section
variable {H : Type} {enc : TypeId × Value → H} {P : Program} {w : World} {base : Nat} {spare : Nat → Bool} {held : Bool}
/-- A struct of five fields of one cell. -/
theorem open_agg5 {r : Reach} {b0 : Nat} {t : TypeId} {f0 f1 f2 f3 f4 : Field} {v : Value} {d : DataW H} {p : List MemPlace} (hs : P.underlying t = some (.struct #[f0, f1, f2, f3, f4])) (hone : oneCellFields P #[f0, f1, f2, f3, f4] = true) (hC : P.cellsOf t = 5)
    (hv : Value.okWide P w r b0 t v) (h : DataW.Trod enc P w base spare held t v d p) :
    ∃ (v0 v1 v2 v3 v4 : Value) (y0 y1 y2 y3 y4 : DataW H × List MemPlace) (n : Nat), v = .agg #[v0, v1, v2, v3, v4] ∧ d = .agg [y0.1, y1.1, y2.1, y3.1, y4.1] ∧
      DataW.trod enc P w base spare held n f0.type [v0] = some y0 ∧ DataW.trod enc P w base spare held n f1.type [v1] = some y1 ∧ DataW.trod enc P w base spare held n f2.type [v2] = some y2 ∧ DataW.trod enc P w base spare held n f3.type [v3] = some y3 ∧ DataW.trod enc P w base spare held n f4.type [v4] = some y4 := by
  obtain ⟨cs, rfl, hsz⟩ := okWide_struct hs hv
  obtain ⟨l⟩ := cs
  match l, hsz.trans hC with
  | [c0, c1, c2, c3, c4], _ =>
    obtain ⟨fuel, hf⟩ := h
    obtain ⟨xs, n, _, hx, hl, hlen, hff⟩ := DataW.trod_struct hs hf
    match xs, hlen with
    | [y0, y1, y2, y3, y4], _ =>
      obtain ⟨o0, k0⟩ := hone_of hone 0 f0 rfl
      obtain ⟨o1, k1⟩ := hone_of hone 1 f1 rfl
      obtain ⟨o2, k2⟩ := hone_of hone 2 f2 rfl
      obtain ⟨o3, k3⟩ := hone_of hone 3 f3 rfl
      obtain ⟨o4, k4⟩ := hone_of hone 4 f4 rfl
      have h0 := hff 0 f0 rfl
      have h1 := hff 1 f1 rfl
      have h2 := hff 2 f2 rfl
      have h3 := hff 3 f3 rfl
      have h4 := hff 4 f4 rfl
      simp only [Prod.mk.injEq] at hx
      exact ⟨c0, c1, c2, c3, c4, y0, y1, y2, y3, y4, n, rfl, by simpa using hx.1, by simpa [Value.cells, o0, k0] using h0, by simpa [Value.cells, o1, k1] using h1, by simpa [Value.cells, o2, k2] using h2, by simpa [Value.cells, o3, k3] using h3, by simpa [Value.cells, o4, k4] using h4⟩
end
end
section
open Go.ChangeShapes Go.WideShapes Go.ChangeAt Go.RowKit Go
/-- What the rows lay. -/
def kki : List Int := kk.map fun n => ((n : Nat) : Int)
theorem cbN : Tryd.prog.globalNamed "trellis/digest.cubes" = some 1 := by kernel_rfl
theorem cbT : (Tryd.prog.globals[1]?).map (·.type) = some 121 := by kernel_rfl
theorem cellsU32 : Tryd.prog.cellsOf 104 = 1 := by kernel_rfl
theorem cells64 : Tryd.prog.cellsOf 121 = 64 := by kernel_rfl
theorem cb_of_laid {W : World} (h : laidMet Tryd.prog [("trellis/digest.cubes", Rows.laid_trellis_digest_cubes)] W) : Cb W := by
  have h' : laidMet Tryd.prog (("trellis/digest.cubes", Lib.tabData .u32 kki) :: []) W := h
  have t := Lib.tabIs_of_head cbN cbT Tryd.underlying121 Tryd.underlying104 cellsU32 cells64 h'
  refine ⟨fun i hi => ?_⟩
  have hc := t.cell cbN i (by rw [kki, List.length_map]; exact hi)
  rw [hc]
  congr 2
  simp only [kki, List.getD_eq_getElem?_getD, List.getElem?_map]
  have hl : i < kk.length := hi
  rw [List.getElem?_eq_getElem hl]
  rfl
/-- The settled world, the table laid. -/
noncomputable def laidWorld (os : Os) : World :=
  let w0 := World.holding Tryd.prog os ⟨#[], #[], []⟩
  { w0 with heap := w0.heap.modify 1 fun
      | .cells _ t frozen => .cells (wv kk).toArray t frozen
      | o => o }
theorem laid_met (os : Os) (args : Array Value) : laidMet Tryd.prog [("trellis/digest.cubes", Rows.laid_trellis_digest_cubes)] ((laidWorld os).forCall (fun _ _ => 0) ⟨#[], args, []⟩).memory :=
  laidMet_of_run' 8 (by kernel_rfl) (by kernel_rfl)
end
section
open Go.ChangeShapes Go.WideShapes Go.ChangeAt Go.RowKit Go.Deep Go.Joins Go
theorem Tryd.cellsLinks : Tryd.prog.cellsOf 28 = 5 := by kernel_rfl
set_option maxRecDepth 1000000 in
/-- The argument opened. -/
theorem links_arg {H : Type} {enc : TypeId × Value → H} {W : World} {base : Nat} {r : Reach} {b0 : Nat} {held : Bool} {v0 : Value} {d0 : DataW H} {p : List MemPlace} (hv : Value.okWide Tryd.prog W r b0 28 v0)
    (h0 : DataW.Trod enc Tryd.prog W base (fun _ => true) held 28 v0 d0 p) (hsz : (d0.weights Tryd.prog 28).all (· ≤ reachBytes) = true) :
    ∃ aL nL cL v1 aB nB cB aS nS cS v4, v0 = .agg #[.slice aL nL cL, v1, .slice aB nB cB, .slice aS nS cS, v4] ∧ LinksIn W (.slice aL nL cL) nL ∧ RowsIn W (.slice aB nB cB) nB ∧ StrsIn W (.slice aS nS cS) nS := by
  obtain ⟨c0, c1, c2, c3, c4, y0, y1, y2, y3, y4, m, rfl, hd, hy0, hy1, hy2, hy3, hy4⟩ := open_agg5 Tryd.underlying28 (by kernel_rfl) Tryd.cellsLinks hv h0
  subst hd
  have hs2 : (DataW.weightsEach Tryd.prog [22, 23, 24, 25, 26] [y0.1, y1.1, y2.1, y3.1, y4.1]).all (· ≤ reachBytes) = true := by
    simp only [DataW.weights, Tryd.underlying28] at hsz
    exact hsz
  obtain ⟨nL, hL⟩ := links_open hy0
  obtain ⟨nB, hB⟩ := rows_open hy2 hs2 (j := 2) rfl rfl
  obtain ⟨nS, hS⟩ := strs_open hy3
  obtain ⟨aL, cL, rfl, _⟩ := id hL.form
  obtain ⟨aB, cB, rfl, _⟩ := id hB.form
  obtain ⟨aS, cS, rfl, _⟩ := id hS.form
  exact ⟨aL, nL, cL, c1, aB, nB, cB, aS, nS, cS, c4, rfl, hL, hB, hS⟩
end
end Go.Proofs.YtidglddjinfncaaDoor

import Derived.Test.YtfjdpooaipehmaaEx
import Derived.Test.YtfjdpooaipehmaaUp
import Derived.Test.YtfjdpooaipehmaaOa
namespace Go.Proofs.Ytfjdpooaipehmaa
open Go.ChangeShapes Go.WideShapes Go.ChangeAt Go.RowKit Go.Deep Go.Joins

theorem Try.cellsHeads : Try.prog.cellsOf 25 = 2 := by kernel_rfl

set_option maxRecDepth 100000 in
theorem exact_walk {H : Type} {enc : TypeId × Value → H} {W : World} {fuel : Nat} {c0 c1 : Value} {y0 y1 : DataW H × List MemPlace}
    (hy0 : DataW.trod enc Try.prog W 0 (fun _ => true) true fuel 22 [c0] = some y0) (hy1 : DataW.trod enc Try.prog W 0 (fun _ => true) true fuel 23 [c1] = some y1) (hb : Rows.uptoBulk y0.1 + Rows.uptoBulk y1.1 ≤ 1048576) :
    Calls Try.prog 3 #[.agg #[c0, c1]] W fun e w' => e = .returned (.bool true) ∧ Below W.heap.size W w' := by
  have hN : ∃ (an : Option Addr) (ln cn : Nat) (ms : Nat → Int) (ns : Nat → Nat), c0 = .slice an ln cn ∧ ln ≤ 1048576 ∧ (∀ j, j < ln → ∃ bn on, an = some ⟨bn, on, none⟩ ∧ W.cell? ⟨bn, on + j * 2, none⟩ = some (.int .i64 (ms j)) ∧ W.cell? ⟨bn, on + j * 2 + 1, none⟩ = some (.int .u64 ((ns j : Nat) : Int))) ∧
      ∀ j, j < ln → -9223372036854775808 ≤ ms j ∧ ms j ≤ 9223372036854775807 ∧ ns j < 18446744073709551616 := by
    rcases args_of_trod hy0 with rfl | ⟨b, off, len, cap, spot, ms, ns, hcs, hl, hs, hc⟩
    · exact ⟨none, 0, 0, fun _ => 0, fun _ => 0, rfl, by omega, fun j hj => by omega, fun j hj => by omega⟩
    · have hlen : len ≤ 1048576 := by
        rcases open_slice_pairs Try.underlying22 Try.underlying52 Try.cellsArg rfl rfl Try.cells_i Try.cells_u hy0 with ⟨hcs', _⟩ | ⟨a', len', cap', m', n', V0, V1, D0, D1, P0, P1, hcs', _, _, _, _, hy, _⟩
        · injection hcs' with hcs' _
          rw [hcs] at hcs'
          injection hcs' with _ h2 _
          omega
        · injection hcs' with hcs' _
          rw [hcs] at hcs'
          injection hcs' with _ h2 _
          subst h2
          have h1 : y0.1 = .slice ((List.range len).map fun i => .agg [D0 i, D1 i]) ((List.range (m' - len)).map fun j => .agg [D0 (len + j), D1 (len + j)]) := by rw [hy]
          rw [h1] at hb
          have h3 := bulk_len (H := H) ((List.range len).map fun i => .agg [D0 i, D1 i])
          simp only [List.length_map, List.length_range] at h3
          simp only [Rows.uptoBulk] at hb
          omega
      refine ⟨some ⟨b, off, spot⟩, len, cap, ms, ns, hcs, hlen, fun j hj => ?_, fun j hj => ?_⟩
      · obtain rfl := hs (by omega)
        exact ⟨b, off, rfl, (hc rfl j hj).1⟩
      · obtain rfl := hs (by omega)
        exact (hc rfl j hj).2
  have hB : ∃ ab lb cb, c1 = .slice ab lb cb ∧ lb ≤ 1048576 ∧ ∀ j, j < lb → ∃ bn on, ab = some ⟨bn, on, none⟩ ∧ ∃ v xs, W.cell? ⟨bn, on + j, none⟩ = some v ∧ BSl W v xs ∧ xs.length ≤ 1048576 := by
    rcases open_int_rows Try.underlying23 Try.underlying53 Try.underlying5 Try.cells_bytes Try.cells5 hy1 with ⟨hcs, _⟩ | ⟨a, len, cap, A, L, C, Z, hcs, _, hl, hm, hy, hcell⟩
    · injection hcs with hcs _
      exact ⟨none, 0, 0, hcs, by omega, fun j hj => by omega⟩
    · injection hcs with hcs _
      have h1 : y1.1 = .slice ((List.range len).map fun r => intRow .u8 (A r) (L r) (Z r)) ((List.range (cap - len)).map fun j => intRow .u8 (A (len + j)) (L (len + j)) (Z (len + j))) := by rw [hy]
      rw [h1] at hb
      simp only [Rows.uptoBulk] at hb
      have hlen : len ≤ 1048576 := by
        have h2 := bulk_len (H := H) ((List.range len).map fun r => intRow .u8 (A r) (L r) (Z r))
        simp only [List.length_map, List.length_range] at h2
        omega
      refine ⟨some a, len, cap, hcs, hlen, fun i hi => ?_⟩
      obtain ⟨b, off, spot⟩ := a
      have hspot : spot = none := by simpa [Addr.add] using World.cell?_spot (hcell 0 (by omega)).1
      subst hspot
      obtain ⟨q1, q2, q3, q4, q5, q6, q7⟩ := hcell i (by omega)
      have hadd : (⟨b, off, none⟩ : Addr).add i = ⟨b, off + i, none⟩ := by unfold Addr.add; split <;> simp_all
      rw [hadd] at q1
      refine ⟨b, off, rfl, _, _, q1, bsl_of_row (A i) (L i) (C i) (Z i) q2 q3 q4 q5 q6 (fun a' h => (q7 a' h).2), ?_⟩
      have hll : (((Z i).take (L i)).map Int.toNat).length = L i := by simp; omega
      rw [hll]
      have hmem : intRow (H := H) .u8 (A i) (L i) (Z i) ∈ (List.range len).map fun r => intRow .u8 (A r) (L r) (Z r) := List.mem_map.2 ⟨i, List.mem_range.2 hi, rfl⟩
      have h3 := bulk_mem hmem
      cases hAi : A i with
      | none => have := q6 hAi; omega
      | some a' =>
        rw [hAi] at h3
        have e : (intRow (H := H) .u8 (some a') (L i) (Z i)) = .slice (lits .u8 ((Z i).take (L i))) (lits .u8 ((Z i).drop (L i))) := rfl
        rw [e] at h3
        simp only [Rows.uptoBulk] at h3
        have h4 := bulk_len (H := H) (lits .u8 ((Z i).take (L i)))
        have h5 : (lits (H := H) .u8 ((Z i).take (L i))).length = L i := by simp [lits]; omega
        omega
  obtain ⟨an, ln, cn, ms, ns, rfl, hln, hcN, hr⟩ := hN
  obtain ⟨ab, lb, cb, rfl, hlb, hcB⟩ := hB
  exact exact_any an ab ln cn lb cb ms ns W hln hlb hcN hr hcB

set_option maxRecDepth 100000 in
theorem exact_lifted (os : Os) (started : os.Started) (H : Type) (enc : TypeId × Value → H) (F : Stop.Interp) :
    ReturnsInHanded {} Try.checked os 3 .any ((Rows.OpenSpec.upto Rows.headExactSpec).pre6 enc Try.prog Try.f3 Rows.headExactUptoRow.domain false) (((Rows.OpenSpec.upto Rows.headExactSpec).at F).post enc Try.prog Try.f3 false true false false) := by
  refine returnsInHanded_of_cond (C := Try.checked) (s := Rows.OpenSpec.upto Rows.headExactSpec) (k := Rows.uptoSmall) rfl Try.own started (by kernel_rfl) Try.func3
    (OpenSpec.witness (enc := enc) (C := Try.checked) (s := Rows.OpenSpec.upto Rows.headExactSpec) (k := Rows.uptoSmall) rfl false ⟨#[], #[.agg #[.slice none 0 0, .slice none 0 0]], []⟩ 8 (by kernel_rfl) (by kernel_rfl) (by kernel_rfl)
      (x := ([.agg [.nil, .nil]], [], [])) (by kernel_rfl) rfl (by kernel_rfl)) ?_
  intro W base args ds gs before hval0 hW _ hk0 _
  have hval : ∀ (j : Nat) t v, Try.f3.params[j]? = some t → args[j]? = some v → Value.okWide Try.prog W .any base t v := hval0
  have hW' := hW
  obtain ⟨p, q, hA0, hV, rfl, hfz, hnd⟩ := hW
  have hA : DataW.TrodAll enc Try.prog W 0 (fun _ => true) true Try.f3.params.toList args.toList ds p := hA0
  rw [Try.params3] at hA hval
  obtain ⟨v0, d0, rfl, rfl, h0⟩ := trodAll_one hA
  obtain ⟨rfl, rfl⟩ := trodVars_none hV
  have k0 := h0
  have lt0 : ∀ x ∈ p, x.block < W.heap.size := by obtain ⟨m, hm⟩ := k0; exact DataW.trod_lt m _ _ _ hm
  have hwalk : Calls Try.prog 3 #[v0] W fun e w' => e = .returned (.bool true) ∧ Below W.heap.size W w' := by
    obtain ⟨c0, c1, y0, y1, m, rfl, rfl, _, hy0, hy1⟩ := open_agg2 Try.underlying25 (by kernel_rfl) Try.cellsHeads (hval 0 25 v0 rfl rfl) h0
    exact exact_walk hy0 hy1 (bulk_two hk0)
  clear hA0 hval0
  refine hwalk.mono fun e W' ⟨he, bel⟩ => ?_
  subst he
  exact ⟨_, rfl, _, _, _, [], _, [], hW', trodAll_mk1 (shut_bool Try.underlying4 _), trodAll_mk1 (Below.trod Try.laidOut (by kernel_rfl) (of_decide_eq_true (by kernel_rfl)) k0 bel lt0), rfl, bel.frame _, fun h => by cases h⟩

theorem exact_upto_holds : Rows.HeadExactUptoSaid :=
  OpenClaim.holds_of_cond 3 Try.f3 rfl rfl rfl rfl rfl rfl rfl ⟨rfl, rfl, rfl, rfl, rfl⟩ rfl rfl rfl rfl rfl (by kernel_rfl) Try.func3 (by kernel_rfl)
    (of_decide_eq_true (by kernel_rfl)) (by unfold Func.isWrapper; first | (rw [if_pos (by decide +kernel)]; kernel_rfl) | (rw [if_neg (by decide +kernel)]; exact ⟨rfl, rfl⟩))
    (fun os started H enc _ F => exact_lifted os started H enc F)
#print axioms exact_upto_holds
end Go.Proofs.Ytfjdpooaipehmaa

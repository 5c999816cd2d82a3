import Derived.Test.YtedgdnoafajhoaaDoorBa
import Derived.Test.YtedgdnoafajhoaaDoorLd
import Derived.Test.YtedgdnoafajhoaaDoorTie
import Derived.Test.YtedgdnoafajhoaaDoorCards
import Derived.ProofKit
namespace Go.Proofs.YtedgdnoafajhoaaDoor
open Go.ChangeShapes Go.WideShapes Go.ChangeAt Go.RowKit Go.Deep Go.Joins

theorem Tryd.cellsBehind : Tryd.prog.cellsOf 89 = 2 := by kernel_rfl

set_option maxRecDepth 100000 in
theorem dback_lifted (os : Os) (started : os.Started) (H : Type) (enc : TypeId × Value → H) :
    ReturnsInHanded {} Tryd.checked os 8 .any (fun w args => (Rows.digestBackSpec.pre enc Tryd.prog Tryd.f8 Rows.digestBackRow.domain false w args ∧ laidMet Tryd.prog Rows.digestBackRow.laid w) ∧ sizedMet enc Tryd.prog Tryd.f8 (OpenSpec.ofChange Rows.digestBackSpec) false w args)
      (Rows.digestBackSpec.post enc Tryd.prog Tryd.f8 false true false false) := by
  refine returnsInHanded_of_change_and (C := Tryd.checked) (X := fun w _ => laidMet Tryd.prog Rows.digestBackRow.laid w) (fun _ _ _ hh h => h.of_heap hh) Tryd.own started (by kernel_rfl) Tryd.func8
    (ChangeSpec.witness_at (enc := enc) (C := Tryd.checked) (os := os) (X := fun w _ => laidMet Tryd.prog Rows.digestBackRow.laid w) false (laidWorld os) #[.agg #[.slice none 0 0, .slice none 0 0]] 8 rfl (by kernel_rfl) (by kernel_rfl) (by kernel_rfl) (by kernel_rfl) (by kernel_rfl) (laid_met os _)) ?_
  intro W base args ds gs before hval0 hW _ hsz0 hL _
  have hval : ∀ (j : Nat) t v, Tryd.f8.params[j]? = some t → args[j]? = some v → Value.okWide Tryd.prog W .any base t v := hval0
  have hsz : (DataW.weightsEach Tryd.prog (Tryd.f8.params.toList ++ Rows.digestBackSpec.plain.varTypes Tryd.prog) (ds ++ gs)).all (· ≤ reachBytes) = true := hsz0
  have hW' := hW
  have hcb : Cb W := cb_of_laid hL
  obtain ⟨p, q, hA0, hV, rfl, hfz, hnd⟩ := hW
  have hA : DataW.TrodAll enc Tryd.prog W 0 (fun _ => true) true Tryd.f8.params.toList args.toList ds p := hA0
  rw [Tryd.params8] at hA hval hsz
  obtain ⟨v0, d0, rfl, rfl, h0⟩ := trodAll_one hA
  obtain ⟨rfl, rfl⟩ := trodVars_none hV
  have k0 := h0
  have lt0 : ∀ x ∈ p, x.block < W.heap.size := by obtain ⟨m, hm⟩ := k0; exact DataW.trod_lt m _ _ _ hm
  have hwalk : Calls Tryd.prog 8 #[v0] W fun e w' => e = .returned (.bool true) ∧ Below W.heap.size W w' := by
    obtain ⟨c0, c1, y0, y1, m, rfl, hd, _, hy0, hy1⟩ := open_agg2 Tryd.underlying89 (by kernel_rfl) Tryd.cellsBehind (hval 0 89 v0 rfl rfl) h0
    subst hd
    have hs2 : (DataW.weightsEach Tryd.prog [22, 22] [y0.1, y1.1]).all (· ≤ reachBytes) = true := by
      have e : DataW.weightsEach Tryd.prog ([89] ++ Rows.digestBackSpec.plain.varTypes Tryd.prog) ([DataW.agg [y0.1, y1.1]] ++ []) = (DataW.agg [y0.1, y1.1]).weights Tryd.prog 89 ++ DataW.weightsEach Tryd.prog (Rows.digestBackSpec.plain.varTypes Tryd.prog) [] := rfl
      rw [e, List.all_append, Bool.and_eq_true] at hsz
      have h1 := hsz.1
      simp only [DataW.weights, Tryd.underlying89] at h1
      exact h1
    obtain ⟨nD, hD⟩ := rows_open hy0 hs2 (j := 0) rfl rfl
    obtain ⟨nM, hM⟩ := rows_open hy1 hs2 (j := 1) rfl rfl
    exact dback_any c0 c1 nD nM W hcb hD hM
  clear hA0 hval0
  refine hwalk.mono fun e W' ⟨he, bel⟩ => ?_
  subst he
  exact ⟨_, rfl, _, _, _, [], _, [], hW', trodAll_mk1 (shut_bool Tryd.underlying4 _), trodAll_mk1 (Below.trod Tryd.laidOut (by kernel_rfl) (of_decide_eq_true (by kernel_rfl)) k0 bel lt0), rfl, bel.frame _, fun h => by cases h⟩

theorem dback_row : Rows.DigestBackSaid :=
  OpenClaim.holds_of_wide 8 Tryd.f8 rfl rfl rfl rfl rfl rfl rfl ⟨rfl, rfl, rfl, rfl, rfl⟩ rfl rfl rfl rfl rfl (by kernel_rfl) Tryd.func8 (by kernel_rfl)
    (of_decide_eq_true (by kernel_rfl)) (by unfold Func.isWrapper; first | (rw [if_pos (by decide +kernel)]; kernel_rfl) | (rw [if_neg (by decide +kernel)]; exact ⟨rfl, rfl⟩))
    (fun os started H enc _ => dback_lifted os started H enc)

theorem dback_holds : Rows.DigestBackCardSaid :=
  Claim7.holds_tied_plain_at .later [] [.data] true (true, "2cf52acac150ff2cee87976c51e44be699c4b929e59a08632893f4eabf4284be") false
    dback_row (fun _ h => by cases h) (by kernel_rfl) (fun _ h => by cases h) digestBack_row_tie rfl ⟨rfl, rfl⟩ (by kernel_rfl) rfl
    (fun f fn hf hfn => by
      obtain rfl : f = 8 := Option.some.inj ((show Tryd.prog.funcNamed "trellis/trellislaw3.DigestBack" = some 8 by kernel_rfl).symm.trans hf) |>.symm
      obtain rfl : fn = Tryd.f8 := (Option.some.inj (Tryd.func8.symm.trans hfn)).symm
      exact ⟨by kernel_rfl, fun j t ht => by
        rw [Tryd.params8] at ht
        have h3 : t = 89 := by
          rcases j with _ | j
          · simpa using ht.symm
          · simp at ht
        subst h3
        exact (show Tryd.prog.wantsStandIn 89 = false by kernel_rfl)⟩)
    (by kernel_rfl)
#print axioms dback_holds
end Go.Proofs.YtedgdnoafajhoaaDoor

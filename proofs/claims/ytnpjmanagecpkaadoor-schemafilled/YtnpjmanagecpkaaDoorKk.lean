import Derived.Test.YtnpjmanagecpkaaDoorKj
import Derived.Test.YtnpjmanagecpkaaDoorKa
import Derived.Test.YtnpjmanagecpkaaDoorTie
import Derived.Test.YtnpjmanagecpkaaDoorCards
import Derived.ProofKit
namespace Go.Proofs.YtnpjmanagecpkaaDoor
section
open Go.ChangeShapes Go.WideShapes Go.ChangeAt Go.RowKit Go.Deep Go.Joins
theorem cellsTn : Tryd.prog.cellsOf 31 = 11 := by kernel_rfl
theorem cellsTs : Tryd.prog.cellsOf 22 = 1 := by kernel_rfl
set_option maxRecDepth 100000 in
theorem turned_open {H : Type} {enc : TypeId × Value → H} {w : World} {base b0 : Nat} {r : Reach} {held : Bool} {v : Value} {d : DataW H} {p : List MemPlace} (hv : Value.okWide Tryd.prog w r b0 31 v) (h : DataW.Trod enc Tryd.prog w base (fun _ => true) held 31 v d p) (hW : (d.weights Tryd.prog 31).all (· ≤ reachBytes) = true) :
    ∃ (vL c1 c2 c3 c4 c5 c6 c7 c8 c9 c10 : Value) (l : List Tp), v = .agg #[vL, c1, c2, c3, c4, c5, c6, c7, c8, c9, c10] ∧ TSl w vL l := by
  obtain ⟨cs, rfl, hsz⟩ := okWide_struct Tryd.underlying31 hv
  obtain ⟨l⟩ := cs
  match l, hsz.trans cellsTn with
  | [vL, c1, c2, c3, c4, c5, c6, c7, c8, c9, c10], _ =>
    obtain ⟨fuel, hf⟩ := h
    obtain ⟨xs, n, _, hx, hl, hlen, hff⟩ := DataW.trod_struct Tryd.underlying31 hf
    match xs, hlen with
    | [y0, y1, y2], _ =>
      have g0 : DataW.trod enc Tryd.prog w base (fun _ => true) held n 22 [vL] = some y0 := by simpa [Value.cells, cellsTs] using hff 0 _ rfl
      have hd : d = .agg [y0.1, y1.1, y2.1] := by
        have := congrArg Prod.fst hx
        simpa using this
      have hWE : (DataW.weightsEach Tryd.prog [22, 3, 29] [y0.1, y1.1, y2.1]).all (· ≤ reachBytes) = true := by
        rw [hd] at hW
        simp only [DataW.weights, Tryd.underlying31] at hW
        exact hW
      obtain ⟨ts, hts⟩ := types_open g0 (weight_each hWE (j := 0) rfl rfl)
      exact ⟨vL, c1, c2, c3, c4, c5, c6, c7, c8, c9, c10, ts, rfl, hts⟩
set_option maxRecDepth 100000 in
theorem sfl_lifted (os : Os) (started : os.Started) (H : Type) (enc : TypeId × Value → H) :
    ReturnsInHanded {} Tryd.checked os 3 .any (fun w args => (Rows.schemaFilledSpec.pre enc Tryd.prog Tryd.f3 Rows.schemaFilledRow.domain false w args ∧ laidMet Tryd.prog Rows.schemaFilledRow.laid w) ∧ sizedMet enc Tryd.prog Tryd.f3 (OpenSpec.ofChange Rows.schemaFilledSpec) false w args)
      (Rows.schemaFilledSpec.post enc Tryd.prog Tryd.f3 false true false false) := by
  refine returnsInHanded_of_change_and (C := Tryd.checked) (X := fun w _ => laidMet Tryd.prog Rows.schemaFilledRow.laid w) (fun _ _ _ hh h => h.of_heap hh) Tryd.own started (by kernel_rfl) Tryd.func3
    (ChangeSpec.witness_at (enc := enc) (C := Tryd.checked) (os := os) (X := fun w _ => laidMet Tryd.prog Rows.schemaFilledRow.laid w) false (laidWorld11 os) #[.agg #[.slice none 0 0, .int .i64 0, .string ⟨#[]⟩, .int .i64 0, .int .i64 0, .int .i64 0, .string ⟨#[]⟩, .bool false, .slice none 0 0, .slice none 0 0, .slice none 0 0]] 8 rfl (by kernel_rfl) (by kernel_rfl) (by kernel_rfl) (by kernel_rfl) (by kernel_rfl) (laid_met11 os _)) ?_
  intro W base args ds gs before hval0 hW _ hsz0 hLd _
  have hval : ∀ (j : Nat) t v, Tryd.f3.params[j]? = some t → args[j]? = some v → Value.okWide Tryd.prog W .any base t v := hval0
  have hsz : (DataW.weightsEach Tryd.prog (Tryd.f3.params.toList ++ Rows.schemaFilledSpec.plain.varTypes Tryd.prog) (ds ++ gs)).all (· ≤ reachBytes) = true := hsz0
  have hW' := hW
  obtain ⟨hT, hO⟩ := tabs11_of_laid hLd
  obtain ⟨p, q, hA0, hV, rfl, hfz, hnd⟩ := hW
  have hA : DataW.TrodAll enc Tryd.prog W 0 (fun _ => true) true Tryd.f3.params.toList args.toList ds p := hA0
  rw [Tryd.params3] at hA hval hsz
  obtain ⟨v0, d0, rfl, rfl, h0⟩ := trodAll_one hA
  obtain ⟨rfl, rfl⟩ := trodVars_none hV
  have k0 := h0
  have lt0 : ∀ x ∈ p, x.block < W.heap.size := by obtain ⟨m, hm⟩ := k0; exact DataW.trod_lt m _ _ _ hm
  have hwalk : Calls Tryd.prog 3 #[v0] W fun e w' => e = .returned (.bool true) ∧ Below W.heap.size W w' := by
    have hs1 : (d0.weights Tryd.prog 31).all (· ≤ reachBytes) = true := by
      have e : DataW.weightsEach Tryd.prog ([31] ++ Rows.schemaFilledSpec.plain.varTypes Tryd.prog) ([d0] ++ []) = d0.weights Tryd.prog 31 ++ DataW.weightsEach Tryd.prog (Rows.schemaFilledSpec.plain.varTypes Tryd.prog) [] := rfl
      rw [e, List.all_append, Bool.and_eq_true] at hsz
      exact hsz.1
    obtain ⟨vL, c1, c2, c3, c4, c5, c6, c7, c8, c9, c10, l, rfl, h1⟩ := turned_open (hval 0 31 v0 rfl rfl) h0 hs1
    exact sfilled_any W hT hO vL c1 c2 c3 c4 c5 c6 c7 c8 c9 c10 l h1
  clear hA0 hval0
  refine hwalk.mono fun e W' ⟨he, bel⟩ => ?_
  subst he
  exact ⟨_, rfl, _, _, _, [], _, [], hW', trodAll_mk1 (shut_bool Tryd.underlying4 _), trodAll_mk1 (Below.trod Tryd.laidOut (by kernel_rfl) (of_decide_eq_true (by kernel_rfl)) k0 bel lt0), rfl, bel.frame _, fun h => by cases h⟩

theorem sfl_row : Rows.SchemaFilledSaid :=
  OpenClaim.holds_of_wide 3 Tryd.f3 rfl rfl rfl rfl rfl rfl rfl ⟨rfl, rfl, rfl, rfl, rfl⟩ rfl rfl rfl rfl rfl (by kernel_rfl) Tryd.func3 (by kernel_rfl)
    (of_decide_eq_true (by kernel_rfl)) (by unfold Func.isWrapper; first | (rw [if_pos (by decide +kernel)]; kernel_rfl) | (rw [if_neg (by decide +kernel)]; exact ⟨rfl, rfl⟩))
    (fun os started H enc _ => sfl_lifted os started H enc)

theorem sfl_holds : Rows.SchemaFilledCardSaid :=
  Claim7.holds_tied_plain_at .later [] [.data, .data, .pinned] true (true, "d361532bd6dc8d58fc068b7ca07a6f9c60de63019d300f9ef9ab77ef39f924e2") false
    sfl_row (fun _ h => by cases h) (by kernel_rfl) (fun _ h => by cases h) schemaFilled_row_tie rfl ⟨rfl, rfl⟩ (by kernel_rfl) rfl
    (fun f fn hf hfn => by
      obtain rfl : f = 3 := Option.some.inj ((show Tryd.prog.funcNamed "trellis/trellislaw11.SchemaFilled" = some 3 by kernel_rfl).symm.trans hf) |>.symm
      obtain rfl : fn = Tryd.f3 := (Option.some.inj (Tryd.func3.symm.trans hfn)).symm
      exact ⟨by kernel_rfl, fun j t ht => by
        rw [Tryd.params3] at ht
        have h3 : t = 31 := by
          rcases j with _ | j
          · simpa using ht.symm
          · simp at ht
        subst h3
        exact (show Tryd.prog.wantsStandIn 31 = false by kernel_rfl)⟩)
    (by kernel_rfl)
#print axioms sfl_holds
end
end Go.Proofs.YtnpjmanagecpkaaDoor

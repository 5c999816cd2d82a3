import Derived.Test.YtedgdnoafajhoaaDoorZz
import Derived.Test.YtedgdnoafajhoaaDoorLd
import Derived.Test.YtedgdnoafajhoaaDoorTie
import Derived.Test.YtedgdnoafajhoaaDoorCards
import Derived.ProofKit
namespace Go.Proofs.YtedgdnoafajhoaaDoor
open Go.ChangeShapes Go.WideShapes Go.ChangeAt Go.RowKit Go.Deep Go.Joins

theorem Tryd.cellsLaid : Tryd.prog.cellsOf 47 = 3 := by kernel_rfl
theorem Tryd.cells_u64 : Tryd.prog.cellsOf 74 = 1 := by kernel_rfl
/-- What the way down gives of a slice of uint64. -/
theorem u64_open {H : Type} {enc : TypeId × Value → H} {W : World} {base fuel : Nat} {held : Bool} {v : Value} {y : DataW H × List MemPlace} (h : DataW.trod enc Tryd.prog W base (fun _ => true) held fuel 45 [v] = some y) : ∃ hs, U64In W v hs := by
  rcases open_ints Tryd.underlying45 Tryd.underlying74 Tryd.cells_u64 h with ⟨hcs, _⟩ | ⟨a, len, cap, zs, hcs, _, hl, hm, hz, _, hcell, hwf⟩
  · injection hcs with hcs _
    subst hcs
    exact ⟨[], ⟨none, 0, rfl, .inl rfl⟩, by simp, by simp⟩
  · injection hcs with hcs _
    subst hcs
    simp only [if_true] at hz
    have hlen : ((zs.take len).map Int.toNat).length = len := by simp; omega
    refine ⟨(zs.take len).map Int.toNat, ⟨some a, cap, by rw [hlen], ?_⟩, ?_, by rw [hlen]; unfold maxLen at hm; omega⟩
    · by_cases h0 : len = 0
      · left; subst h0; simp
      · right
        obtain ⟨b, off, spot⟩ := a
        have h1 := hcell 0 (by omega)
        have hspot : spot = none := by simpa [Addr.add] using World.cell?_spot h1
        subst hspot
        refine ⟨b, off, rfl, fun j hj => ?_⟩
        rw [hlen] at hj
        have h2 := hcell j (by omega)
        have hadd : (⟨b, off, none⟩ : Addr).add j = ⟨b, off + j, none⟩ := by unfold Addr.add; split <;> simp_all
        rw [hadd] at h2
        rw [h2]
        have hjz : j < zs.length := by omega
        have hb := bounds_u64 (hwf zs[j] (List.getElem_mem hjz))
        simp [List.getD, hj, hjz]
        omega
    · intro x hx
      simp only [List.mem_map] at hx
      obtain ⟨n, hn', rfl⟩ := hx
      have := bounds_u64 (hwf n (List.mem_of_mem_take hn'))
      omega

set_option maxRecDepth 100000 in
theorem dlaid_lifted (os : Os) (started : os.Started) (H : Type) (enc : TypeId × Value → H) :
    ReturnsInHanded {} Tryd.checked os 5 .any (fun w args => (Rows.digestLaidSpec.pre enc Tryd.prog Tryd.f5 Rows.digestLaidRow.domain false w args ∧ laidMet Tryd.prog Rows.digestLaidRow.laid w) ∧ sizedMet enc Tryd.prog Tryd.f5 (OpenSpec.ofChange Rows.digestLaidSpec) false w args)
      (Rows.digestLaidSpec.post enc Tryd.prog Tryd.f5 false true false false) := by
  refine returnsInHanded_of_change_and (C := Tryd.checked) (X := fun w _ => laidMet Tryd.prog Rows.digestLaidRow.laid w) (fun _ _ _ hh h => h.of_heap hh) Tryd.own started (by kernel_rfl) Tryd.func5
    (ChangeSpec.witness_at (enc := enc) (C := Tryd.checked) (os := os) (X := fun w _ => laidMet Tryd.prog Rows.digestLaidRow.laid w) false (laidWorld os) #[.agg #[.slice none 0 0, .slice none 0 0, .slice none 0 0]] 8 rfl (by kernel_rfl) (by kernel_rfl) (by kernel_rfl) (by kernel_rfl) (by kernel_rfl) (laid_met os _)) ?_
  intro W base args ds gs before hval0 hW _ hsz0 hL _
  have hval : ∀ (j : Nat) t v, Tryd.f5.params[j]? = some t → args[j]? = some v → Value.okWide Tryd.prog W .any base t v := hval0
  have hsz : (DataW.weightsEach Tryd.prog (Tryd.f5.params.toList ++ Rows.digestLaidSpec.plain.varTypes Tryd.prog) (ds ++ gs)).all (· ≤ reachBytes) = true := hsz0
  have hW' := hW
  have hcb : Cb W := cb_of_laid hL
  obtain ⟨p, q, hA0, hV, rfl, hfz, hnd⟩ := hW
  have hA : DataW.TrodAll enc Tryd.prog W 0 (fun _ => true) true Tryd.f5.params.toList args.toList ds p := hA0
  rw [Tryd.params5] at hA hval hsz
  obtain ⟨v0, d0, rfl, rfl, h0⟩ := trodAll_one hA
  obtain ⟨rfl, rfl⟩ := trodVars_none hV
  have k0 := h0
  have lt0 : ∀ x ∈ p, x.block < W.heap.size := by obtain ⟨m, hm⟩ := k0; exact DataW.trod_lt m _ _ _ hm
  have hwalk : Calls Tryd.prog 5 #[v0] W fun e w' => e = .returned (.bool true) ∧ Below W.heap.size W w' := by
    obtain ⟨c0, c1, c2, y0, y1, y2, m, rfl, hd, _, hy0, hy1, hy2⟩ := open_agg3 Tryd.underlying47 (by kernel_rfl) Tryd.cellsLaid (hval 0 47 v0 rfl rfl) h0
    subst hd
    have hs2 : (DataW.weightsEach Tryd.prog [45, 22, 22] [y0.1, y1.1, y2.1]).all (· ≤ reachBytes) = true := by
      have e : DataW.weightsEach Tryd.prog ([47] ++ Rows.digestLaidSpec.plain.varTypes Tryd.prog) ([DataW.agg [y0.1, y1.1, y2.1]] ++ []) = (DataW.agg [y0.1, y1.1, y2.1]).weights Tryd.prog 47 ++ DataW.weightsEach Tryd.prog (Rows.digestLaidSpec.plain.varTypes Tryd.prog) [] := rfl
      rw [e, List.all_append, Bool.and_eq_true] at hsz
      have h1 := hsz.1
      simp only [DataW.weights, Tryd.underlying47] at h1
      exact h1
    obtain ⟨hs, hH⟩ := u64_open hy0
    obtain ⟨nD, hD⟩ := rows_open hy1 hs2 (j := 1) rfl rfl
    obtain ⟨nB, hB⟩ := rows_open hy2 hs2 (j := 2) rfl rfl
    have hD' := hD
    have hB' := hB
    obtain ⟨⟨aD, cD, rfl, _, _⟩, _⟩ := hD
    obtain ⟨⟨aB, cB, rfl, _, _⟩, _⟩ := hB
    exact dlaid_walk W c0 aD aB nD cD nB cB hs hcb hH hD' hB'
  clear hA0 hval0
  refine hwalk.mono fun e W' ⟨he, bel⟩ => ?_
  subst he
  exact ⟨_, rfl, _, _, _, [], _, [], hW', trodAll_mk1 (shut_bool Tryd.underlying4 _), trodAll_mk1 (Below.trod Tryd.laidOut (by kernel_rfl) (of_decide_eq_true (by kernel_rfl)) k0 bel lt0), rfl, bel.frame _, fun h => by cases h⟩

theorem dlaid_row : Rows.DigestLaidSaid :=
  OpenClaim.holds_of_wide 5 Tryd.f5 rfl rfl rfl rfl rfl rfl rfl ⟨rfl, rfl, rfl, rfl, rfl⟩ rfl rfl rfl rfl rfl (by kernel_rfl) Tryd.func5 (by kernel_rfl)
    (of_decide_eq_true (by kernel_rfl)) (by unfold Func.isWrapper; first | (rw [if_pos (by decide +kernel)]; kernel_rfl) | (rw [if_neg (by decide +kernel)]; exact ⟨rfl, rfl⟩))
    (fun os started H enc _ => dlaid_lifted os started H enc)

theorem dlaid_holds : Rows.DigestLaidCardSaid :=
  Claim7.holds_tied_plain_at .later [] [.data] true (true, "2cf52acac150ff2cee87976c51e44be699c4b929e59a08632893f4eabf4284be") false
    dlaid_row (fun _ h => by cases h) (by kernel_rfl) (fun _ h => by cases h) digestLaid_row_tie rfl ⟨rfl, rfl⟩ (by kernel_rfl) rfl
    (fun f fn hf hfn => by
      obtain rfl : f = 5 := Option.some.inj ((show Tryd.prog.funcNamed "trellis/trellislaw3.DigestLaid" = some 5 by kernel_rfl).symm.trans hf) |>.symm
      obtain rfl : fn = Tryd.f5 := (Option.some.inj (Tryd.func5.symm.trans hfn)).symm
      exact ⟨by kernel_rfl, fun j t ht => by
        rw [Tryd.params5] at ht
        have h3 : t = 47 := by
          rcases j with _ | j
          · simpa using ht.symm
          · simp at ht
        subst h3
        exact (show Tryd.prog.wantsStandIn 47 = false by kernel_rfl)⟩)
    (by kernel_rfl)
#print axioms dlaid_holds
end Go.Proofs.YtedgdnoafajhoaaDoor

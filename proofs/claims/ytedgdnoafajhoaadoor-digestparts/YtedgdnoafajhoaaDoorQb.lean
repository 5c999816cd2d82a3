import Derived.Test.YtedgdnoafajhoaaDoorQc
import Derived.Test.YtedgdnoafajhoaaDoorLd
import Derived.Test.YtedgdnoafajhoaaDoorTie
import Derived.Test.YtedgdnoafajhoaaDoorCards
import Derived.ProofKit
import Derived.Deep.Slices
namespace Go.Proofs.YtedgdnoafajhoaaDoor
open Go.ChangeShapes Go.WideShapes Go.ChangeAt Go.RowKit Go.Deep Go.Joins

theorem Tryd.cellsOp : Tryd.prog.cellsOf 41 = 3 := by kernel_rfl
theorem Tryd.cells_int : Tryd.prog.cellsOf 3 = 1 := by kernel_rfl
/-- A slice of bytes within the reach. -/
theorem byte_open {H : Type} {enc : TypeId × Value → H} {w : World} {base fuel : Nat} {held : Bool} {v : Value} {x : DataW H × List MemPlace} (h : DataW.trod enc Tryd.prog w base (fun _ => true) held fuel 27 [v] = some x) (hw : ∀ n ∈ x.1.weights Tryd.prog 27, n ≤ reachBytes) : ∃ xs, BSl w v xs ∧ xs.length ≤ 140737488351232 := by
  rcases open_ints Tryd.underlying27 Tryd.underlying5 Tryd.cells5 h with ⟨hcs, _⟩ | ⟨a, len, cap, zs, hcs, _, hl, hm, hz, hx, hcell, hwz⟩
  · injection hcs with hcs _
    subst hcs
    exact ⟨_, bsl_of_row none 0 0 [] (Nat.le_refl _) (Nat.zero_le _) rfl (by simp) (fun _ => rfl) (fun _ hh => by cases hh), by simp⟩
  · injection hcs with hcs _
    subst hcs
    simp only [if_true] at hz
    refine ⟨_, bsl_of_row (some a) len cap zs hl hm hz hwz (fun hh => by cases hh) (fun a' hh c hc => by cases hh; exact hcell c (by omega)), ?_⟩
    have hd := congrArg Prod.fst hx
    simp only at hd
    have h2 : cap ≤ reachBytes := hw cap (by
      rw [hd]
      simp only [DataW.weights, Tryd.underlying27, Tryd.bytes5]
      refine List.mem_cons.2 (.inl ?_)
      simp [lits]
      omega)
    unfold reachBytes at h2
    simp
    omega
set_option maxRecDepth 100000 in
/-- What the way down gives of a slice of things to do. -/
theorem ops_open {H : Type} {enc : TypeId × Value → H} {w : World} {base fuel : Nat} {held : Bool} {v : Value} {x : DataW H × List MemPlace} (h : DataW.trod enc Tryd.prog w base (fun _ => true) held fuel 35 [v] = some x)
    (hsz : (DataW.weightsEach Tryd.prog [35] [x.1]).all (· ≤ reachBytes) = true) : ∃ len, OpsIn w v len := by
  rcases open_slice Tryd.underlying35 h with ⟨hcs, _⟩ | ⟨a, len, cap, m, n, D, Pl, hcs, _, hl, hm, hmm, hx, hel⟩
  · injection hcs with hcs _
    subst hcs
    exact ⟨0, ⟨none, 0, rfl, .inl rfl⟩, by omega⟩
  · injection hcs with hcs _
    subst hcs
    simp only [if_true] at hmm
    refine ⟨len, ⟨some a, cap, rfl, ?_⟩, by unfold maxLen at hm; omega⟩
    have each : ∀ i, i < len → ∃ v0 v1 v2 y0 y1 y2 k, w.cell? ((a.add (i * 3)).add 0) = some v0 ∧ w.cell? ((a.add (i * 3)).add 1) = some v1 ∧ w.cell? ((a.add (i * 3)).add 2) = some v2 ∧ DataW.trod enc Tryd.prog w base (fun _ => true) held k 3 [v0] = some y0 ∧ DataW.trod enc Tryd.prog w base (fun _ => true) held k 3 [v1] = some y1 ∧ DataW.trod enc Tryd.prog w base (fun _ => true) held k 27 [v2] = some y2 ∧ D i = .agg [y0.1, y1.1, y2.1] := by
      intro i hi
      obtain ⟨cs', h1, h2⟩ := hel i (by omega)
      rw [Tryd.cellsOp] at h1
      obtain ⟨_, hlen, hcell⟩ := World.cells?_some h1
      obtain ⟨y0, y1, y2, k, hxy, _, g0, g1, g2⟩ := trod_struct3 Tryd.underlying41 h2
      match cs', hlen with
      | [v0, v1, v2], _ =>
        have e0 := hcell 0 (by omega)
        have e1 := hcell 1 (by omega)
        have e2 := hcell 2 (by omega)
        simp only [Prod.mk.injEq] at hxy
        exact ⟨v0, v1, v2, y0, y1, y2, k, by simpa using e0, by simpa using e1, by simpa using e2, by simpa [Tryd.cells_int] using g0, by simpa [Tryd.cells_int] using g1, by simpa [Tryd.cells_bytes] using g2, hxy.1⟩
    by_cases hz : len = 0
    · exact .inl hz
    · obtain ⟨b, off, spot⟩ := a
      obtain ⟨v0, _, _, _, _, _, _, h1, _⟩ := each 0 (by omega)
      have hspot : spot = none := by simpa [Addr.add] using World.cell?_spot h1
      subst hspot
      refine .inr ⟨b, off, rfl, fun i hi => ?_⟩
      obtain ⟨v0, v1, v2, y0, y1, y2, k, e0, e1, e2, t0, t1, t2, hD⟩ := each i hi
      have hadd : ∀ k, (⟨b, off, none⟩ : Addr).add k = ⟨b, off + k, none⟩ := by intro k; unfold Addr.add; split <;> simp_all
      have hadd2 : ∀ o k, (⟨b, o, none⟩ : Addr).add k = ⟨b, o + k, none⟩ := by intro o k; unfold Addr.add; split <;> simp_all
      rw [hadd, hadd2] at e0 e1 e2
      obtain ⟨n0, f0, _, _⟩ := DataW.trod_int Tryd.underlying3 t0
      obtain ⟨n1, f1, _, _⟩ := DataW.trod_int Tryd.underlying3 t1
      injection f0 with f0 _
      injection f1 with f1 _
      subst f0
      subst f1
      have hwt : ∀ n ∈ y2.1.weights Tryd.prog 27, n ≤ reachBytes := fun n hn => by
        have hd1 := congrArg Prod.fst hx
        simp only at hd1
        have w1 : n ∈ (D i).weights Tryd.prog 41 := by
          rw [hD]
          simp only [DataW.weights, Tryd.underlying41]
          exact List.mem_append.2 (.inr (List.mem_append.2 (.inr (List.mem_append.2 (.inl hn)))))
        have w2 : n ∈ x.1.weights Tryd.prog 35 := by
          rw [hd1]
          simp only [DataW.weights, Tryd.underlying35]
          exact List.mem_cons.2 (.inr (List.mem_append.2 (.inl (weights_all (List.mem_map.2 ⟨i, List.mem_range.2 hi, rfl⟩) n w1))))
        have := List.all_eq_true.1 hsz _ (DataW.weights_mem_each (j := 0) rfl rfl n w2)
        simpa using this
      obtain ⟨ys, hb, hyl⟩ := byte_open t2 hwt
      exact ⟨n0, n1, v2, ys, by simpa using e0, e1, e2, hb, hyl⟩

set_option maxRecDepth 100000 in
theorem dparts_lifted (os : Os) (started : os.Started) (H : Type) (enc : TypeId × Value → H) :
    ReturnsInHanded {} Tryd.checked os 4 .any (fun w args => (Rows.digestPartsSpec.pre enc Tryd.prog Tryd.f4 Rows.digestPartsRow.domain false w args ∧ laidMet Tryd.prog Rows.digestPartsRow.laid w) ∧ sizedMet enc Tryd.prog Tryd.f4 (OpenSpec.ofChange Rows.digestPartsSpec) false w args)
      (Rows.digestPartsSpec.post enc Tryd.prog Tryd.f4 false true false false) := by
  refine returnsInHanded_of_change_and (C := Tryd.checked) (X := fun w _ => laidMet Tryd.prog Rows.digestPartsRow.laid w) (fun _ _ _ hh h => h.of_heap hh) Tryd.own started (by kernel_rfl) Tryd.func4
    (ChangeSpec.witness_at (enc := enc) (C := Tryd.checked) (os := os) (X := fun w _ => laidMet Tryd.prog Rows.digestPartsRow.laid w) false (laidWorld os) #[.slice none 0 0] 8 rfl (by kernel_rfl) (by kernel_rfl) (by kernel_rfl) (by kernel_rfl) (by kernel_rfl) (laid_met os _)) ?_
  intro W base args ds gs before hval0 hW _ hsz0 hL _
  have hval : ∀ (j : Nat) t v, Tryd.f4.params[j]? = some t → args[j]? = some v → Value.okWide Tryd.prog W .any base t v := hval0
  have hsz : (DataW.weightsEach Tryd.prog (Tryd.f4.params.toList ++ Rows.digestPartsSpec.plain.varTypes Tryd.prog) (ds ++ gs)).all (· ≤ reachBytes) = true := hsz0
  have hW' := hW
  have hcb : Cb W := cb_of_laid hL
  obtain ⟨p, q, hA0, hV, rfl, hfz, hnd⟩ := hW
  have hA : DataW.TrodAll enc Tryd.prog W 0 (fun _ => true) true Tryd.f4.params.toList args.toList ds p := hA0
  rw [Tryd.params4] at hA hval hsz
  obtain ⟨v0, d0, rfl, rfl, h0⟩ := trodAll_one hA
  obtain ⟨rfl, rfl⟩ := trodVars_none hV
  obtain ⟨a0, len0, cap0, rfl⟩ := okWide_slice Tryd.underlying35 (hval 0 35 v0 rfl rfl)
  have k0 := h0
  have lt0 : ∀ x ∈ p, x.block < W.heap.size := by obtain ⟨m, hm⟩ := k0; exact DataW.trod_lt m _ _ _ hm
  have hwalk : Calls Tryd.prog 4 #[.slice a0 len0 cap0] W fun e w' => e = .returned (.bool true) ∧ Below W.heap.size W w' := by
    obtain ⟨m, hm⟩ := h0
    have hs2 : (DataW.weightsEach Tryd.prog [35] [d0]).all (· ≤ reachBytes) = true := hsz
    obtain ⟨len, hO⟩ := ops_open (v := .slice a0 len0 cap0) (x := (d0, p)) hm hs2
    have hO' := hO
    obtain ⟨⟨a, cap, hv, _⟩, _⟩ := hO
    injection hv with e1 e2 e3
    subst e1
    subst e2
    subst e3
    exact parts_any W a0 len0 cap0 hcb hO'
  clear hA0 hval0
  refine hwalk.mono fun e W' ⟨he, bel⟩ => ?_
  subst he
  exact ⟨_, rfl, _, _, _, [], _, [], hW', trodAll_mk1 (shut_bool Tryd.underlying4 _), trodAll_mk1 (Below.trod Tryd.laidOut (by kernel_rfl) (of_decide_eq_true (by kernel_rfl)) k0 bel lt0), rfl, bel.frame _, fun h => by cases h⟩

theorem dparts_row : Rows.DigestPartsSaid :=
  OpenClaim.holds_of_wide 4 Tryd.f4 rfl rfl rfl rfl rfl rfl rfl ⟨rfl, rfl, rfl, rfl, rfl⟩ rfl rfl rfl rfl rfl (by kernel_rfl) Tryd.func4 (by kernel_rfl)
    (of_decide_eq_true (by kernel_rfl)) (by unfold Func.isWrapper; first | (rw [if_pos (by decide +kernel)]; kernel_rfl) | (rw [if_neg (by decide +kernel)]; exact ⟨rfl, rfl⟩))
    (fun os started H enc _ => dparts_lifted os started H enc)

theorem dparts_holds : Rows.DigestPartsCardSaid :=
  Claim7.holds_tied_plain_at .later [] [.data] true (true, "2cf52acac150ff2cee87976c51e44be699c4b929e59a08632893f4eabf4284be") false
    dparts_row (fun _ h => by cases h) (by kernel_rfl) (fun _ h => by cases h) digestParts_row_tie rfl ⟨rfl, rfl⟩ (by kernel_rfl) rfl
    (fun f fn hf hfn => by
      obtain rfl : f = 4 := Option.some.inj ((show Tryd.prog.funcNamed "trellis/trellislaw3.DigestParts" = some 4 by kernel_rfl).symm.trans hf) |>.symm
      obtain rfl : fn = Tryd.f4 := (Option.some.inj (Tryd.func4.symm.trans hfn)).symm
      exact ⟨by kernel_rfl, fun j t ht => by
        rw [Tryd.params4] at ht
        have h3 : t = 35 := by
          rcases j with _ | j
          · simpa using ht.symm
          · simp at ht
        subst h3
        exact (show Tryd.prog.wantsStandIn 35 = false by kernel_rfl)⟩)
    (by kernel_rfl)
#print axioms dparts_holds
end Go.Proofs.YtedgdnoafajhoaaDoor

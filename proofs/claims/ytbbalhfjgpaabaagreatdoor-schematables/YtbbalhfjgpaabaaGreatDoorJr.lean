import Derived.Test.YtbbalhfjgpaabaaGreatDoorJp
import Derived.Test.YtbbalhfjgpaabaaGreatDoorJq
import Derived.Test.YtbbalhfjgpaabaaGreatDoorJa
import Derived.Test.YtbbalhfjgpaabaaGreatDoorTie
import Derived.Test.YtbbalhfjgpaabaaGreatDoorCards
import Derived.ProofKit
namespace Go.Proofs.YtbbalhfjgpaabaaGreatDoor
section
open Go.ChangeShapes Go.WideShapes Go.ChangeAt Go.RowKit Go.Deep Go.Joins
theorem cellsTl : Tryz.prog.cellsOf 49 = 1 := by kernel_rfl
theorem bytesTl : Tryz.prog.bytesOf 49 = 24 := by kernel_rfl
theorem cellsTll : Tryz.prog.cellsOf 22 = 1 := by kernel_rfl
theorem cellsTsn : Tryz.prog.cellsOf 23 = 1 := by kernel_rfl
theorem cellsTbs : Tryz.prog.cellsOf 25 = 2 := by kernel_rfl
theorem list_open {H : Type} {enc : TypeId × Value → H} {w : World} {base : Nat} {held : Bool} (fuel : Nat) (cs : List Value) (x : DataW H × List MemPlace) (h : DataW.trod enc Tryz.prog w base (fun _ => true) held fuel 49 cs = some x) (hW : (x.1.weights Tryz.prog 49).all (· ≤ reachBytes) = true) : ∃ l, Tts w l cs.toArray := by
  have hc : ∃ v, cs = [v] := by
    rcases DataW.trod_slice Tryz.underlying49 h with ⟨hcs, _⟩ | ⟨a, len, cap, elems, rest, m, hfm, hcs, _⟩
    · exact ⟨_, hcs⟩
    · exact ⟨_, hcs⟩
  obtain ⟨v, rfl⟩ := hc
  obtain ⟨l, hl⟩ := types_open h hW
  exact ⟨l, v, rfl, hl⟩
theorem lists_open {H : Type} {enc : TypeId × Value → H} {w : World} {base fuel : Nat} {held : Bool} {v : Value} {x : DataW H × List MemPlace} (h : DataW.trod enc Tryz.prog w base (fun _ => true) held fuel 22 [v] = some x) (hW : (x.1.weights Tryz.prog 22).all (· ≤ reachBytes) = true) : ∃ ls, GSl 1 Tts w v ls :=
  gsl_open (P := Tts) Tryz.underlying22 cellsTl (by rw [bytesTl]; decide) (by decide) (fun _ _ ⟨_, e, _⟩ => by rw [e]; rfl) list_open h hW
set_option maxRecDepth 100000 in
theorem tables_open {H : Type} {enc : TypeId × Value → H} {w : World} {base b0 : Nat} {r : Reach} {held : Bool} {v : Value} {d : DataW H} {p : List MemPlace} (hv : Value.okWide Tryz.prog w r b0 25 v) (h : DataW.Trod enc Tryz.prog w base (fun _ => true) held 25 v d p) (hW : (d.weights Tryz.prog 25).all (· ≤ reachBytes) = true) :
    ∃ (aL : Option Addr) (cL : Nat) (ls : List (List Tp)) (an : Option Addr) (cn : Nat) (ks : List ByteArray), v = .agg #[.slice aL ls.length cL, .slice an ks.length cn] ∧ GSl 1 Tts w (.slice aL ls.length cL) ls ∧ SSl w (.slice an ks.length cn) ks := by
  obtain ⟨cs, rfl, hsz⟩ := okWide_struct Tryz.underlying25 hv
  obtain ⟨l⟩ := cs
  match l, hsz.trans cellsTbs with
  | [vL, vN], _ =>
    obtain ⟨fuel, hf⟩ := h
    obtain ⟨xs, n, _, hx, hl, hlen, hff⟩ := DataW.trod_struct Tryz.underlying25 hf
    match xs, hlen with
    | [y0, y1], _ =>
      have g0 : DataW.trod enc Tryz.prog w base (fun _ => true) held n 22 [vL] = some y0 := by simpa [Value.cells, cellsTll, cellsTsn] using hff 0 _ rfl
      have g1 : DataW.trod enc Tryz.prog w base (fun _ => true) held n 23 [vN] = some y1 := by simpa [Value.cells, cellsTll, cellsTsn] using hff 1 _ rfl
      have hd : d = .agg [y0.1, y1.1] := by
        have := congrArg Prod.fst hx
        simpa using this
      have hWE : (DataW.weightsEach Tryz.prog [22, 23] [y0.1, y1.1]).all (· ≤ reachBytes) = true := by
        rw [hd] at hW
        simp only [DataW.weights, Tryz.underlying25] at hW
        exact hW
      obtain ⟨ls, hls⟩ := lists_open g0 (weight_each hWE (j := 0) rfl rfl)
      obtain ⟨ks, hks⟩ := ssl_open g1 (weight_each hWE (j := 1) rfl rfl)
      have hlf := hls.form
      have hkf := hks.form
      obtain ⟨aL, cL, rfl, _⟩ := hlf
      obtain ⟨an, cn, rfl, _⟩ := hkf
      exact ⟨aL, cL, ls, an, cn, ks, rfl, hls, hks⟩
set_option maxRecDepth 100000 in
theorem stb_lifted (os : Os) (started : os.Started) (H : Type) (enc : TypeId × Value → H) :
    ReturnsInHanded {} Tryz.checked os 3 .any (fun w args => (Rows.schemaTablesSpec.pre enc Tryz.prog Tryz.f3 Rows.schemaTablesRow.domain false w args ∧ laidMet Tryz.prog Rows.schemaTablesRow.laid w) ∧ sizedMet enc Tryz.prog Tryz.f3 (OpenSpec.ofChange Rows.schemaTablesSpec) false w args)
      (Rows.schemaTablesSpec.post enc Tryz.prog Tryz.f3 false true false false) := by
  refine returnsInHanded_of_change_and (C := Tryz.checked) (X := fun w _ => laidMet Tryz.prog Rows.schemaTablesRow.laid w) (fun _ _ _ hh h => h.of_heap hh) Tryz.own started (by kernel_rfl) Tryz.func3
    (ChangeSpec.witness_at (enc := enc) (C := Tryz.checked) (os := os) (X := fun w _ => laidMet Tryz.prog Rows.schemaTablesRow.laid w) false (laidWorld11 os) #[.agg #[.slice none 0 0, .slice none 0 0]] 8 rfl (by kernel_rfl) (by kernel_rfl) (by kernel_rfl) (by kernel_rfl) (by kernel_rfl) (laid_met11 os _)) ?_
  intro W base args ds gs before hval0 hW _ hsz0 hLd _
  have hval : ∀ (j : Nat) t v, Tryz.f3.params[j]? = some t → args[j]? = some v → Value.okWide Tryz.prog W .any base t v := hval0
  have hsz : (DataW.weightsEach Tryz.prog (Tryz.f3.params.toList ++ Rows.schemaTablesSpec.plain.varTypes Tryz.prog) (ds ++ gs)).all (· ≤ reachBytes) = true := hsz0
  have hW' := hW
  obtain ⟨hT, hO⟩ := tabs11_of_laid hLd
  obtain ⟨p, q, hA0, hV, rfl, hfz, hnd⟩ := hW
  have hA : DataW.TrodAll enc Tryz.prog W 0 (fun _ => true) true Tryz.f3.params.toList args.toList ds p := hA0
  rw [Tryz.params3] at hA hval hsz
  obtain ⟨v0, d0, rfl, rfl, h0⟩ := trodAll_one hA
  obtain ⟨rfl, rfl⟩ := trodVars_none hV
  have k0 := h0
  have lt0 : ∀ x ∈ p, x.block < W.heap.size := by obtain ⟨m, hm⟩ := k0; exact DataW.trod_lt m _ _ _ hm
  have hwalk : Calls Tryz.prog 3 #[v0] W fun e w' => e = .returned (.bool true) ∧ Below W.heap.size W w' := by
    have hs1 : (d0.weights Tryz.prog 25).all (· ≤ reachBytes) = true := by
      have e : DataW.weightsEach Tryz.prog ([25] ++ Rows.schemaTablesSpec.plain.varTypes Tryz.prog) ([d0] ++ []) = d0.weights Tryz.prog 25 ++ DataW.weightsEach Tryz.prog (Rows.schemaTablesSpec.plain.varTypes Tryz.prog) [] := rfl
      rw [e, List.all_append, Bool.and_eq_true] at hsz
      exact hsz.1
    obtain ⟨aL, cL, ls, an, cn, ks, rfl, h1, h2⟩ := tables_open (hval 0 25 v0 rfl rfl) h0 hs1
    exact stables_any W hT hO aL cL ls h1 an cn ks h2
  clear hA0 hval0
  refine hwalk.mono fun e W' ⟨he, bel⟩ => ?_
  subst he
  exact ⟨_, rfl, _, _, _, [], _, [], hW', trodAll_mk1 (shut_bool Tryz.underlying4 _), trodAll_mk1 (Below.trod Tryz.laidOut (by kernel_rfl) (of_decide_eq_true (by kernel_rfl)) k0 bel lt0), rfl, bel.frame _, fun h => by cases h⟩

theorem stb_row : Rows.SchemaTablesSaid :=
  OpenClaim.holds_of_wide 3 Tryz.f3 rfl rfl rfl rfl rfl rfl rfl ⟨rfl, rfl, rfl, rfl, rfl⟩ rfl rfl rfl rfl rfl (by kernel_rfl) Tryz.func3 (by kernel_rfl)
    (of_decide_eq_true (by kernel_rfl)) (by unfold Func.isWrapper; first | (rw [if_pos (by decide +kernel)]; kernel_rfl) | (rw [if_neg (by decide +kernel)]; exact ⟨rfl, rfl⟩))
    (fun os started H enc _ => stb_lifted os started H enc)

theorem stb_holds : Rows.SchemaTablesCardSaid :=
  Claim7.holds_tied_plain_at .later [] [.data, .data, .pinned] true (true, "ddc623a0d576961c3da61e02065eabb217ba248ad9edc0df9d29ba42157b7935") false
    stb_row (fun _ h => by cases h) (by kernel_rfl) (fun _ h => by cases h) schemaTables_row_tie rfl ⟨rfl, rfl⟩ (by kernel_rfl) rfl
    (fun f fn hf hfn => by
      obtain rfl : f = 3 := Option.some.inj ((show Tryz.prog.funcNamed "trellis/trellislaw11.SchemaTables" = some 3 by kernel_rfl).symm.trans hf) |>.symm
      obtain rfl : fn = Tryz.f3 := (Option.some.inj (Tryz.func3.symm.trans hfn)).symm
      exact ⟨by kernel_rfl, fun j t ht => by
        rw [Tryz.params3] at ht
        have h3 : t = 25 := by
          rcases j with _ | j
          · simpa using ht.symm
          · simp at ht
        subst h3
        exact (show Tryz.prog.wantsStandIn 25 = false by kernel_rfl)⟩)
    (by kernel_rfl)
#print axioms stb_holds
end
end Go.Proofs.YtbbalhfjgpaabaaGreatDoor

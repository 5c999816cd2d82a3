import Derived.Test.YtibcepokeaaoiaaDoorJj
import Derived.Test.YtibcepokeaaoiaaDoorTie
import Derived.Test.YtibcepokeaaoiaaDoorCards
import Derived.ProofKit
namespace Go.Proofs.YtibcepokeaaoiaaDoor
section
open Go.RowKit Go
theorem bne_self (b : Bool) : (b != b) = false := by cases b <;> rfl
set_option maxRecDepth 1000000 in
set_option maxHeartbeats 2000000 in
theorem vbefore_any (w : World) (v : Value) (ks : List ByteArray) (hv : SSl w v ks) (hT : Tabs w) : Calls Tryd.prog 5 #[v] w fun e w' => e = .returned (.bool true) ∧ Below w.heap.size w w' := by
  have HT := hide hT
  have HSZ := hide hv.size
  obtain ⟨⟨a, cap, rfl, _, hc⟩, hmax, _⟩ := hv
  have HC := hide hc
  clear hc hT
  go_enter Tryd.func5, Tryd.ntmps5
  go_wp2_with fail
  go_loopw [3] (fun ii wx => ∃ i : Nat, i ≤ 60 ∧ ii = .int .i64 (i : Nat) ∧ Hid (Below w.heap.size w wx)) (fun ii _ => 60 - (intOf ii).toNat)
  case atStart => exact ⟨0, by omega, rfl, Below.refl _ _⟩
  case round =>
    rename World => wa
    obtain ⟨i, hi, rfl, HBa⟩ := hrel
    by_cases hlt : i < ks.length ∧ i < 60
    · have g1 : (i : Int) < (ks.length : Int) := by omega
      have g2 : (i : Int) < 60 := by omega
      have hl1 := hlt.1
      have hl2 := hlt.2
      clear hlt
      go_wp2_with fail
      go_loopw [4] (fun ii wx => ∃ k : Nat, k ≤ 60 ∧ ii = .int .i64 (k : Nat) ∧ Hid (Below w.heap.size w wx)) (fun ii _ => 60 - (intOf ii).toNat)
      case atStart => exact ⟨0, by omega, rfl, HBa⟩
      case round =>
        rename World => wb
        obtain ⟨k, hk, rfl, HBb⟩ := hrel
        by_cases hltk : k < ks.length ∧ k < 60
        · as_aux_lemma =>
          have g3 : (k : Int) < (ks.length : Int) := by omega
          have g4 : (k : Int) < 60 := by omega
          obtain ⟨s, hs⟩ : ∃ s, ks[i]? = some s := ⟨ks[i], List.getElem?_eq_getElem hl1⟩
          obtain ⟨t, ht⟩ : ∃ s, ks[k]? = some s := ⟨ks[k], List.getElem?_eq_getElem hltk.1⟩
          obtain ⟨b, off, rfl, hcc⟩ := HC.out.resolve_left (fun h => by rw [h] at hl1; simp at hl1)
          have c1 : ∀ t' : Ext wb, t'.w'.cell? ⟨b, off + i, none⟩ = some (.string s) := fun t' => keep_below t'.h _ _ (keep_below HBb.out _ _ (hcc i s hs))
          have c2 : ∀ t' : Ext wb, t'.w'.cell? ⟨b, off + k, none⟩ = some (.string t) := fun t' => keep_below t'.h _ _ (keep_below HBb.out _ _ (hcc k t ht))
          have HP1 : Hid (∀ t' : Ext wb, Calls Tryd.prog 18 #[.string s, .string t] t'.w' fun e w'' => e = .returned (.bool (bfr (sl s) (sl t))) ∧ ∃ t2 : Ext wb, w'' = t2.w') := fun t' => Calls.ext_same (before_any s t t'.w')
          have HP2 : Hid (∀ t' : Ext wb, Calls Tryd.prog 19 #[.string s, .string t] t'.w' fun e w'' => e = .returned (.bool (bfr (sl s) (sl t))) ∧ ∃ t2 : Ext wb, w'' = t2.w') := fun t' => Calls.ext_below (rbefore_any t'.w' s t (by have := HSZ.out s (List.mem_of_getElem? hs); omega))
          clear hcc hs ht HC hltk
          generalize bfr (sl s) (sl t) = R at *
          have gR := bne_self R
          go_wp2_with fail
          refine region_ext (by kernel_rfl) (by kernel_rfl) ?_
          repeat (
            refine wpQuiet_step (fun K hK => ?_)
            (go_simp
             first
               | (refine hK _ ?_; clear hK K)
               | (apply Exists.intro
                  refine ⟨fun _ => ?_, hK _ ?_⟩
                  (first
                    | (go_at_call 18; exact HP1.out _)
                    | (go_at_call 19; exact HP2.out _))
                  clear hK K)))
          refine wpQuiet_nil ?_
          rintro _ ⟨tq, rfl⟩
          have HB2 : Hid (Below w.heap.size w tq.w') := HBb.out.trans (tq.h.mono HBb.out.size)
          clear c1 c2 HP1 HP2
          go_wp2_with fail
          go_roundw
          case rel => exact ⟨k + 1, by omega, by go_num, HB2⟩
          case measure => simp [intOf]; omega
        · rcases Nat.lt_or_ge k ks.length with h1 | h1
          · as_aux_lemma =>
            have g3 : (k : Int) < (ks.length : Int) := by omega
            have g4 : ¬ (k : Int) < 60 := by omega
            clear hltk
            go_wp2_with fail
            go_roundw
            case rel => exact ⟨i + 1, by omega, by go_num, HBb⟩
            case measure => simp [intOf]; omega
          · as_aux_lemma =>
            have g3 : ¬ (k : Int) < (ks.length : Int) := by omega
            clear hltk
            go_wp2_with fail
            go_roundw
            case rel => exact ⟨i + 1, by omega, by go_num, HBb⟩
            case measure => simp [intOf]; omega
    · rcases Nat.lt_or_ge i ks.length with h1 | h1
      · as_aux_lemma =>
        have g1 : (i : Int) < (ks.length : Int) := by omega
        have g2 : ¬ (i : Int) < 60 := by omega
        clear hlt
        go_wp2_with fail
        refine (wakes_any wa (HT.out.next HBa.out)).mono ?_
        rintro e w9 ⟨rfl, hb9⟩
        have HB9 : Hid (Below w.heap.size w w9) := HBa.out.trans (hb9.mono HBa.out.size)
        clear hb9
        go_wp2_with fail
        go_ret
        exact ⟨rfl, HB9.out⟩
      · as_aux_lemma =>
        have g1 : ¬ (i : Int) < (ks.length : Int) := by omega
        clear hlt
        go_wp2_with fail
        refine (wakes_any wa (HT.out.next HBa.out)).mono ?_
        rintro e w9 ⟨rfl, hb9⟩
        have HB9 : Hid (Below w.heap.size w w9) := HBa.out.trans (hb9.mono HBa.out.size)
        clear hb9
        go_wp2_with fail
        go_ret
        exact ⟨rfl, HB9.out⟩
end
section
open Go.ChangeShapes Go.WideShapes Go.ChangeAt Go.RowKit Go.Deep Go.Joins
set_option maxRecDepth 100000 in
theorem vbefore_lifted (os : Os) (started : os.Started) (H : Type) (enc : TypeId × Value → H) :
    ReturnsInHanded {} Tryd.checked os 5 .any (fun w args => (Rows.valueBeforeSpec.pre enc Tryd.prog Tryd.f5 Rows.valueBeforeRow.domain false w args ∧ laidMet Tryd.prog Rows.valueBeforeRow.laid w) ∧ sizedMet enc Tryd.prog Tryd.f5 (OpenSpec.ofChange Rows.valueBeforeSpec) false w args)
      (Rows.valueBeforeSpec.post enc Tryd.prog Tryd.f5 false true false false) := by
  refine returnsInHanded_of_change_and (C := Tryd.checked) (X := fun w _ => laidMet Tryd.prog Rows.valueBeforeRow.laid w) (fun _ _ _ hh h => h.of_heap hh) Tryd.own started (by kernel_rfl) Tryd.func5
    (ChangeSpec.witness_at (enc := enc) (C := Tryd.checked) (os := os) (X := fun w _ => laidMet Tryd.prog Rows.valueBeforeRow.laid w) false (laidWorld6 os) #[.slice none 0 0] 8 rfl (by kernel_rfl) (by kernel_rfl) (by kernel_rfl) (by kernel_rfl) (by kernel_rfl) (laid_met6 os _)) ?_
  intro W base args ds gs before hval0 hW _ hsz0 hLd _
  have hval : ∀ (j : Nat) t v, Tryd.f5.params[j]? = some t → args[j]? = some v → Value.okWide Tryd.prog W .any base t v := hval0
  have hsz : (DataW.weightsEach Tryd.prog (Tryd.f5.params.toList ++ Rows.valueBeforeSpec.plain.varTypes Tryd.prog) (ds ++ gs)).all (· ≤ reachBytes) = true := hsz0
  have hW' := hW
  have hcb : Tabs W := tabs_of_laid hLd
  obtain ⟨p, q, hA0, hV, rfl, hfz, hnd⟩ := hW
  have hA : DataW.TrodAll enc Tryd.prog W 0 (fun _ => true) true Tryd.f5.params.toList args.toList ds p := hA0
  rw [Tryd.params5] at hA hval hsz
  obtain ⟨v0, d0, rfl, rfl, h0⟩ := trodAll_one hA
  obtain ⟨rfl, rfl⟩ := trodVars_none hV
  have k0 := h0
  have lt0 : ∀ x ∈ p, x.block < W.heap.size := by obtain ⟨m, hm⟩ := k0; exact DataW.trod_lt m _ _ _ hm
  have hwalk : Calls Tryd.prog 5 #[v0] W fun e w' => e = .returned (.bool true) ∧ Below W.heap.size W w' := by
    have hs1 : (d0.weights Tryd.prog 28).all (· ≤ reachBytes) = true := by
      have e : DataW.weightsEach Tryd.prog ([28] ++ Rows.valueBeforeSpec.plain.varTypes Tryd.prog) ([d0] ++ []) = d0.weights Tryd.prog 28 ++ DataW.weightsEach Tryd.prog (Rows.valueBeforeSpec.plain.varTypes Tryd.prog) [] := rfl
      rw [e, List.all_append, Bool.and_eq_true] at hsz
      exact hsz.1
    obtain ⟨a0, l0, c0, rfl⟩ := okWide_slice Tryd.underlying28 (hval 0 28 v0 rfl rfl)
    obtain ⟨m, hm⟩ := h0
    obtain ⟨ks, hks⟩ := ssl_open (x := (d0, _)) hm hs1
    exact vbefore_any W _ ks hks hcb
  clear hA0 hval0
  refine hwalk.mono fun e W' ⟨he, bel⟩ => ?_
  subst he
  exact ⟨_, rfl, _, _, _, [], _, [], hW', trodAll_mk1 (shut_bool Tryd.underlying4 _), trodAll_mk1 (Below.trod Tryd.laidOut (by kernel_rfl) (of_decide_eq_true (by kernel_rfl)) k0 bel lt0), rfl, bel.frame _, fun h => by cases h⟩

theorem vbefore_row : Rows.ValueBeforeSaid :=
  OpenClaim.holds_of_wide 5 Tryd.f5 rfl rfl rfl rfl rfl rfl rfl ⟨rfl, rfl, rfl, rfl, rfl⟩ rfl rfl rfl rfl rfl (by kernel_rfl) Tryd.func5 (by kernel_rfl)
    (of_decide_eq_true (by kernel_rfl)) (by unfold Func.isWrapper; first | (rw [if_pos (by decide +kernel)]; kernel_rfl) | (rw [if_neg (by decide +kernel)]; exact ⟨rfl, rfl⟩))
    (fun os started H enc _ => vbefore_lifted os started H enc)

theorem vbefore_holds : Rows.ValueBeforeCardSaid :=
  Claim7.holds_tied_plain_at .later [] [.data, .pinned] true (true, "b3ee312d3bffdb8642e2128002d5112f32414f5e6bfe2d0ec5abd38274d5102d") false
    vbefore_row (fun _ h => by cases h) (by kernel_rfl) (fun _ h => by cases h) valueBefore_row_tie rfl ⟨rfl, rfl⟩ (by kernel_rfl) rfl
    (fun f fn hf hfn => by
      obtain rfl : f = 5 := Option.some.inj ((show Tryd.prog.funcNamed "trellis/trellislaw6.ValueBefore" = some 5 by kernel_rfl).symm.trans hf) |>.symm
      obtain rfl : fn = Tryd.f5 := (Option.some.inj (Tryd.func5.symm.trans hfn)).symm
      exact ⟨by kernel_rfl, fun j t ht => by
        rw [Tryd.params5] at ht
        have h3 : t = 28 := by
          rcases j with _ | j
          · simpa using ht.symm
          · simp at ht
        subst h3
        exact (show Tryd.prog.wantsStandIn 28 = false by kernel_rfl)⟩)
    (by kernel_rfl)
#print axioms vbefore_holds
end
end Go.Proofs.YtibcepokeaaoiaaDoor

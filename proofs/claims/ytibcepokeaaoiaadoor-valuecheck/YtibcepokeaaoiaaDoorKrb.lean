import Derived.Test.YtibcepokeaaoiaaDoorKra
import Derived.Test.YtibcepokeaaoiaaDoorTie
import Derived.Test.YtibcepokeaaoiaaDoorCards
import Derived.ProofKit
namespace Go.Proofs.YtibcepokeaaoiaaDoor
section
open Go.RowKit Go
set_option maxRecDepth 1000000 in
set_option maxHeartbeats 2000000 in
theorem vcheck_any (w : World) (vL : Value) (is : List Tv) (hv : VSl w vL is) (hT : Tabs w) : Calls Tryd.prog 3 #[vL] w fun e w' => e = .returned (.bool true) ∧ Below w.heap.size w w' := by
  have HT := hide hT
  have HVL := hide hv
  obtain ⟨⟨a, cap, rfl, _, hform⟩, hmax⟩ := hv
  have HF := hide hform
  clear hT hform
  go_enter Tryd.func3, Tryd.ntmps3
  go_wp2_with fail
  refine (much_any is w _ 60000 HVL.out (by omega)).mono ?_
  rintro e w2 ⟨r, rfl, hmu, hb2⟩
  have HW2 := hide hb2
  have HMU := hide hmu
  clear hmu hb2
  by_cases hr : 60000 < r
  · as_aux_lemma =>
    have g0 : (60000 : Int) < (r : Int) := by omega
    go_wp2_with fail
    go_ret
    exact ⟨rfl, HW2.out⟩
  · have g0 : ¬ (60000 : Int) < (r : Int) := by omega
    have HM : Hid (tmuchL is ≤ 60000) := by have := HMU.out.eq (by omega); show _ ≤ _; omega
    clear HMU
    go_wp2_with fail
    go_loopw [3] (fun ii wx => ∃ i : Nat, i ≤ is.length ∧ ii = .int .i64 (i : Nat) ∧ Hid (Below w.heap.size w wx)) (fun ii _ => is.length - (intOf ii).toNat)
    case atStart => exact ⟨0, by omega, rfl, HW2⟩
    case round =>
      rename World => wa
      obtain ⟨i, hi, rfl, HWa⟩ := hrel
      by_cases hlt : i < is.length
      · as_aux_lemma =>
        have g1 : (i : Int) < (is.length : Int) := by omega
        obtain ⟨u, hu⟩ : ∃ u, is[i]? = some u := ⟨is[i], List.getElem?_eq_getElem hlt⟩
        obtain ⟨b, off, rfl, hcells⟩ := HF.out.resolve_left (fun h => by rw [h] at hlt; simp at hlt)
        obtain ⟨cu, hcu, hcc⟩ := hcells i u hu
        have HTU := hide hcu
        have HCU := hide hcc
        have HMu : Hid (tmuch u ≤ 60000) := Nat.le_trans (tmuchL_mem (List.mem_of_getElem? hu)) HM.out
        clear hcells hcu hcc hu HF
        have HSU := hide HTU.out.size13
        have HCA : Hid (∀ k x, cu[k]? = some x → wa.cell? ⟨b, off + i * 13 + k, none⟩ = some x) := fun k x hx => keep_below HWa.out _ _ (HCU.out k x hx)
        go_wp2_with (refine wpList_valAt rfl rfl b (off + i * 13) cu rfl HSU.out HCA.out ?_)
        refine (lendValue_any u wa cu (HTU.out.move (keep_below HWa.out)) (by have := HMu.out; omega)).mono ?_
        rintro e wb ⟨c, rfl, hlt1, hbb⟩
        have HBb : Hid (Below w.heap.size w wb) := HWa.out.trans (hbb.mono HWa.out.size)
        have HWc : Hid (Below w.heap.size w ((wb.alloc (.cells zv 30)).setRow wb.heap.size c)) := HBb.out.trans ((itm_mk wb c).b.mono HBb.out.size)
        have HX := hide (Vr.start hlt1)
        have HG0 := hide (heap_alloc_new wb (.cells zv 30))
        have HS1 := hide hlt1.size
        have HA1 := hide hlt1.tin.all1
        have HIN : Hid ((Tryd.prog.info? 30).map (·.size) = some c.size) := by show _ = _; rw [HS1.out]; exact infoV
        have HZV : Hid (zv.size = c.size) := by show _ = _; rw [HS1.out]; rfl
        have HCC : Hid (∀ k x, cu[k]? = some x → ((wb.alloc (.cells zv 30)).setRow wb.heap.size c).cell? ⟨b, off + i * 13 + k, none⟩ = some x) := fun k x hx => keep_below HWc.out _ _ (HCU.out k x hx)
        clear hlt1 hbb HCA HWa HBb
        go_wp2_with (first
          | (refine wpList_storeRow rfl rfl wb.heap.size zv c 30 rfl rfl HG0.out HIN.out HZV.out HA1.out ?_)
          | (refine wpList_valAt rfl rfl b (off + i * 13) cu rfl HSU.out HCC.out ?_))
        clear HG0 HIN HZV HA1 HCC
        unfold zv at HX HWc
        generalize (wb.alloc (.cells #[.int .i64 0, .bool false, .bool false, .int .u64 0, .int .u64 0, .string ⟨#[]⟩, .slice none 0 0, .int .i64 0, .int .u64 0, .int .u64 0, .string ⟨#[]⟩, .slice none 0 0, .slice none 0 0] 30)).setRow wb.heap.size c = wc at *
        generalize wb.heap.size = gx at *
        refine (rcheck_any u wc cu (HTU.out.move (keep_below HWc.out)) (by have := HMu.out; omega)).mono ?_
        rintro e wd ⟨rfl, hbd⟩
        have HWd : Hid (Below w.heap.size w wd) := HWc.out.trans (hbd.mono HWc.out.size)
        have HXd := hide (HX.out.next hbd)
        clear hbd HX HWc
        go_wp2_with fail
        have HQ1 : Hid (∀ wx, (∃ t : Ext wd, wx = t.w') → ∀ j x, c[j]? = some x → wx.cell? ⟨gx, 0 + j, none⟩ = some x) := by
          rintro _ ⟨t, rfl⟩ j x hx
          rw [Nat.zero_add]
          exact blk_cell (HXd.out.next t.h).x hx
        have HQ2 : Hid (∀ wx, (∃ t : Ext wd, wx = t.w') → ∀ j x, cu[j]? = some x → wx.cell? ⟨b, off + i * 13 + j, none⟩ = some x) := by
          rintro _ ⟨t, rfl⟩ j x hx
          exact keep_below t.h _ _ (keep_below HWd.out _ _ (HCU.out j x hx))
        have HK1 : Hid (∀ t : Ext wd, Calls Tryd.prog 12 #[.agg c] t.w' fun e w'' => e = .returned (.int .i64 (chkf u 0 : Nat)) ∧ ∃ t' : Ext wd, w'' = t'.w') := fun t => Calls.ext_below (check6_any u t.w' c (HXd.out.next t.h).tin (by have := HMu.out; omega) ((HT.out.next HWd.out).next t.h))
        have HK3 : Hid (∀ t : Ext wd, Calls Tryd.prog 13 #[.agg c, .agg cu] t.w' fun e w'' => e = .returned (.bool true) ∧ ∃ t' : Ext wd, w'' = t'.w') := fun t => by
          obtain ⟨lo, hh, hl⟩ := (HXd.out.next t.h).l
          exact Calls.ext_below (backValue_any u t.w' lo hh c cu hl (HTU.out.move (fun p x hx => keep_below t.h _ _ (keep_below HWd.out _ _ hx))))
        have HS2 := hide HXd.out.size
        generalize ((chkf u 0 : Nat) : Int) = E at *
        refine region_ext (by kernel_rfl) (by kernel_rfl) ?_
        repeat (
          with_reducible refine wpQuiet_step (fun K hK => ?_)
          first
            | (refine qstep_valAt rfl rfl gx 0 c HS2.out rfl HQ1.out (hK _ ?_); clear hK K)
            | (refine qstep_valAt rfl rfl b (off + i * 13) cu HSU.out rfl HQ2.out (hK _ ?_); clear hK K)
            | (go_simp
               first
                 | (with_reducible refine hK _ ?_; clear hK K)
                 | (apply Exists.intro
                    refine ⟨fun _ => ?_, hK _ ?_⟩
                    (first
                      | (go_at_call 12; exact HK1.out _)
                      | (go_at_call 11; exact Calls.ext_same (num6_any _ _))
                      | (go_at_call 13; exact HK3.out _))
                    clear hK K)))
        refine wpQuiet_nil ?_
        rintro _ ⟨tq, rfl⟩
        have HW2 : Hid (Below w.heap.size w tq.w') := HWd.out.trans (tq.h.mono HWd.out.size)
        go_wp2_with fail
        go_roundw
        case rel => exact ⟨i + 1, by omega, by go_num, HW2⟩
        case measure => simp [intOf]; omega
      · as_aux_lemma =>
        have g1 : ¬ (i : Int) < (is.length : Int) := by omega
        go_wp2_with fail
        refine (wakes_any wa (HT.out.next HWa.out)).mono ?_
        rintro e wb ⟨rfl, hbb⟩
        have HWb : Hid (Below w.heap.size w wb) := HWa.out.trans (hbb.mono HWa.out.size)
        clear hbb
        go_wp2_with fail
        go_ret
        exact ⟨rfl, HWb.out⟩
end
section
open Go.ChangeShapes Go.WideShapes Go.ChangeAt Go.RowKit Go.Deep Go.Joins
set_option maxRecDepth 100000 in
theorem vcheck_lifted (os : Os) (started : os.Started) (H : Type) (enc : TypeId × Value → H) :
    ReturnsInHanded {} Tryd.checked os 3 .any (fun w args => (Rows.valueCheckSpec.pre enc Tryd.prog Tryd.f3 Rows.valueCheckRow.domain false w args ∧ laidMet Tryd.prog Rows.valueCheckRow.laid w) ∧ sizedMet enc Tryd.prog Tryd.f3 (OpenSpec.ofChange Rows.valueCheckSpec) false w args)
      (Rows.valueCheckSpec.post enc Tryd.prog Tryd.f3 false true false false) := by
  refine returnsInHanded_of_change_and (C := Tryd.checked) (X := fun w _ => laidMet Tryd.prog Rows.valueCheckRow.laid w) (fun _ _ _ hh h => h.of_heap hh) Tryd.own started (by kernel_rfl) Tryd.func3
    (ChangeSpec.witness_at (enc := enc) (C := Tryd.checked) (os := os) (X := fun w _ => laidMet Tryd.prog Rows.valueCheckRow.laid w) false (laidWorld6 os) #[.slice none 0 0] 8 rfl (by kernel_rfl) (by kernel_rfl) (by kernel_rfl) (by kernel_rfl) (by kernel_rfl) (laid_met6 os _)) ?_
  intro W base args ds gs before hval0 hW _ hsz0 hLd _
  have hval : ∀ (j : Nat) t v, Tryd.f3.params[j]? = some t → args[j]? = some v → Value.okWide Tryd.prog W .any base t v := hval0
  have hsz : (DataW.weightsEach Tryd.prog (Tryd.f3.params.toList ++ Rows.valueCheckSpec.plain.varTypes Tryd.prog) (ds ++ gs)).all (· ≤ reachBytes) = true := hsz0
  have hW' := hW
  have hcb : Tabs W := tabs_of_laid hLd
  obtain ⟨p, q, hA0, hV, rfl, hfz, hnd⟩ := hW
  have hA : DataW.TrodAll enc Tryd.prog W 0 (fun _ => true) true Tryd.f3.params.toList args.toList ds p := hA0
  rw [Tryd.params3] at hA hval hsz
  obtain ⟨v0, d0, rfl, rfl, h0⟩ := trodAll_one hA
  obtain ⟨rfl, rfl⟩ := trodVars_none hV
  have k0 := h0
  have lt0 : ∀ x ∈ p, x.block < W.heap.size := by obtain ⟨m, hm⟩ := k0; exact DataW.trod_lt m _ _ _ hm
  have hwalk : Calls Tryd.prog 3 #[v0] W fun e w' => e = .returned (.bool true) ∧ Below W.heap.size W w' := by
    have hs1 : (d0.weights Tryd.prog 22).all (· ≤ reachBytes) = true := by
      have e : DataW.weightsEach Tryd.prog ([22] ++ Rows.valueCheckSpec.plain.varTypes Tryd.prog) ([d0] ++ []) = d0.weights Tryd.prog 22 ++ DataW.weightsEach Tryd.prog (Rows.valueCheckSpec.plain.varTypes Tryd.prog) [] := rfl
      rw [e, List.all_append, Bool.and_eq_true] at hsz
      exact hsz.1
    obtain ⟨a0, l0, c0, rfl⟩ := okWide_slice Tryd.underlying22 (hval 0 22 v0 rfl rfl)
    obtain ⟨m, hm⟩ := h0
    obtain ⟨is, his⟩ := values_open (x := (d0, _)) hm hs1
    exact vcheck_any W _ is his hcb
  clear hA0 hval0
  refine hwalk.mono fun e W' ⟨he, bel⟩ => ?_
  subst he
  exact ⟨_, rfl, _, _, _, [], _, [], hW', trodAll_mk1 (shut_bool Tryd.underlying4 _), trodAll_mk1 (Below.trod Tryd.laidOut (by kernel_rfl) (of_decide_eq_true (by kernel_rfl)) k0 bel lt0), rfl, bel.frame _, fun h => by cases h⟩

theorem vcheck_row : Rows.ValueCheckSaid :=
  OpenClaim.holds_of_wide 3 Tryd.f3 rfl rfl rfl rfl rfl rfl rfl ⟨rfl, rfl, rfl, rfl, rfl⟩ rfl rfl rfl rfl rfl (by kernel_rfl) Tryd.func3 (by kernel_rfl)
    (of_decide_eq_true (by kernel_rfl)) (by unfold Func.isWrapper; first | (rw [if_pos (by decide +kernel)]; kernel_rfl) | (rw [if_neg (by decide +kernel)]; exact ⟨rfl, rfl⟩))
    (fun os started H enc _ => vcheck_lifted os started H enc)

theorem vcheck_holds : Rows.ValueCheckCardSaid :=
  Claim7.holds_tied_plain_at .later [] [.data, .pinned] true (true, "b3ee312d3bffdb8642e2128002d5112f32414f5e6bfe2d0ec5abd38274d5102d") false
    vcheck_row (fun _ h => by cases h) (by kernel_rfl) (fun _ h => by cases h) valueCheck_row_tie rfl ⟨rfl, rfl⟩ (by kernel_rfl) rfl
    (fun f fn hf hfn => by
      obtain rfl : f = 3 := Option.some.inj ((show Tryd.prog.funcNamed "trellis/trellislaw6.ValueCheck" = some 3 by kernel_rfl).symm.trans hf) |>.symm
      obtain rfl : fn = Tryd.f3 := (Option.some.inj (Tryd.func3.symm.trans hfn)).symm
      exact ⟨by kernel_rfl, fun j t ht => by
        rw [Tryd.params3] at ht
        have h3 : t = 22 := by
          rcases j with _ | j
          · simpa using ht.symm
          · simp at ht
        subst h3
        exact (show Tryd.prog.wantsStandIn 22 = false by kernel_rfl)⟩)
    (by kernel_rfl)
#print axioms vcheck_holds
end
end Go.Proofs.YtibcepokeaaoiaaDoor

import Derived.Test.YtjlknnpgngaooaaGreatDoorJn
import Derived.Test.YtjlknnpgngaooaaGreatDoorJo
import Derived.Test.YtjlknnpgngaooaaGreatDoorJa
namespace Go.Proofs.YtjlknnpgngaooaaGreatDoor
section
open Go.RowKit Go
theorem much_pos7 (t : Tv) : 1 ≤ tmuch t := by
  cases t
  rw [tmuch]
  omega
/-- What LayOne has in hand ahead of its first loop. -/
structure Lp7 (w wp : World) (v3 : Value) (ms : List Tv) : Prop where
  b : Below w.heap.size w wp
  v : VSl wp v3 ms
  n : ms.length ≤ 200
  m : ∀ u ∈ ms, tmuch u ≤ 20000
set_option maxRecDepth 1000000 in
set_option maxHeartbeats 8000000 in
theorem layone_any (w : World) (hT : Tabs w) (vV vA : Value) (is : List Tv) (hV : VSl w vV is) :
    Calls Tryz.prog 4 #[.agg #[vV, vA]] w fun e w' => e = .returned (.bool true) ∧ Below w.heap.size w w' := by
  have HTT := hide hT
  have HB0 := hide (below_alloc4 w (.cells #[vV, vA] 25))
  have HN0 := hide (heap_alloc_new w (.cells #[vV, vA] 25))
  have HPL := hide (played7_any (w.alloc (.cells #[vV, vA] 25)) vV is (hV.move (keep_below HB0.out)))
  clear hT hV
  go_enter Tryz.func4, Tryz.ntmps4
  go_upto_region 1 with fail
  generalize w.alloc (.cells #[vV, vA] 25) = w0 at *
  have q0 : w0.cell? ⟨w.heap.size, 0, none⟩ = some vV := blk_cell (j := 0) HN0.out rfl
  go_wp2_with fail
  refine HPL.out.mono ?_
  rintro e wp ⟨v3, rfl, ms, hv3, hml, hmm, hbp⟩
  have HP : Hid (Lp7 w wp v3 ms) := ⟨HB0.out.trans (hbp.mono HB0.out.size), hv3, hml, hmm⟩
  have HTP := hide (HTT.out.next HP.out.b)
  have hmn := HP.out.n
  obtain ⟨⟨a3, c3, hv3e, hz1, hform⟩, hz2⟩ := hv3
  subst hv3e
  have HF := hide hform
  clear hml hmm hbp hz1 hz2 hform HPL HN0 HB0 q0
  go_wp2_with fail
  go_loopw [4, 5, 6, 7] (fun x4 x5 x6 ii wx => ∃ (i : Nat) (tr : List Tv) (L : List (Array Value)) (vs : List Value) (F : List (List Nat)), i ≤ ms.length ∧ ii = .int .i64 (i : Nat) ∧ tr.length ≤ i ∧ Hid (Lo7 wp wx x4 x5 x6 tr L vs F)) (fun _ _ _ ii _ => ms.length - (intOf ii).toNat)
  case atStart => exact ⟨0, [], [], [], [], by omega, rfl, by simp, Lo7.start wp⟩
  case round =>
    obtain ⟨i, tr, L, vs, F, hi, rfl, htl, HLo⟩ := hrel
    by_cases hlt : i < ms.length
    case pos =>
      have g1 : (i : Int) < (ms.length : Int) := by omega
      obtain ⟨u, hu⟩ : ∃ u, ms[i]? = some u := ⟨ms[i], List.getElem?_eq_getElem hlt⟩
      obtain ⟨b3, o3, rfl, hcells⟩ := HF.out.resolve_left (fun h => by rw [h] at hlt; simp at hlt)
      obtain ⟨cu, hcu, hcc⟩ := hcells i u hu
      have HTU := hide hcu
      have HCU := hide hcc
      have HMU : Hid (tmuch u ≤ 20000) := HP.out.m u (List.mem_of_getElem? hu)
      have HLN : Hid (tr.length < 200) := by show _ < _; have := HP.out.n; omega
      clear hcells hcu hcc hu HF
      have HSU := hide HTU.out.size13
      have HC1 : Hid (∀ k x, cu[k]? = some x → wr.cell? ⟨b3, o3 + i * 13 + k, none⟩ = some x) := fun k x hx => keep_below HLo.out.b _ _ (HCU.out k x hx)
      go_wp2_with (refine wpList_valAt rfl rfl b3 (o3 + i * 13) cu rfl HSU.out HC1.out ?_)
      refine (tree7_any u wr cu (HTU.out.move (keep_below HLo.out.b)) (by have := HMU.out; omega) (HTP.out.next HLo.out.b)).mono ?_
      rintro e w1 ⟨rfl, hb1⟩
      have HL1 := hide (HLo.out.next hb1)
      clear hb1 HLo HC1
      by_cases hc : chkf u 0 = 0
      case neg => as_aux_lemma =>
        have gc : decide (chkf u 0 = 0) = false := decide_eq_false hc
        rw [gc]
        clear hc
        go_wp2_with fail
        go_roundw
        case rel => exact ⟨i + 1, tr, L, vs, F, by omega, by go_num, by omega, HL1⟩
        case measure => simp [intOf]; omega
      have gc : decide (chkf u 0 = 0) = true := decide_eq_true hc
      rw [gc]
      obtain ⟨s, hsr, hth⟩ := thr_ex7 HTU.out hc HMU.out
      have HSR := hide hsr
      have HTH := hide hth
      have HCK := hide (chk7_0 (by have := HMU.out; omega) hc)
      have HCH := hide hc
      have HTRK := hide (chk_trk hc)
      have HSC := hide (srt7_ex (by have := HMU.out; omega) hc hsr)
      clear gc hc hsr hth
      have HC1 : Hid (∀ k x, cu[k]? = some x → w1.cell? ⟨b3, o3 + i * 13 + k, none⟩ = some x) := fun k x hx => keep_below HL1.out.b _ _ (HCU.out k x hx)
      go_wp2_with (refine wpList_valAt rfl rfl b3 (o3 + i * 13) cu rfl HSU.out HC1.out ?_)
      refine (encode_good w1 u s cu HCK.out HSC.out HTH.out.p (by have := HTH.out.l; omega) (HTU.out.move (keep_below HL1.out.b)) (HTP.out.next HL1.out.b)).mono ?_
      rintro e w2 ⟨vb, rfl, ho2, hb2⟩
      have HL2 := hide (HL1.out.next hb2)
      have HO2 : Hid (w2.ownsRow w1.heap.size 5 1 vb (tfm s).length (bv (tfm s))) := by show World.ownsRow _ _ _ _ _ _ _; simpa using ho2
      have HN2 : Hid (∀ (v6 : Value) (k : Nat) (n : Nat) (xs : List Value), w1.ownsRow wp.heap.size 5 1 v6 n xs → vb.ownBlock = some k → v6.ownBlock ≠ some k) := fun v6 k n xs hv hk e => by have h1 := (HO2.out.lt k hk).1; have h2 := (hv.lt k e).2; omega
      have HN6 := hide (fun k (hk : vb.ownBlock = some k) => HN2.out _ k _ _ HL1.out.a hk)
      have HSZ1 : Hid (wp.heap.size ≤ w1.heap.size) := HL1.out.b.size
      clear ho2 hb2 HL1 HC1 HN2
      have HC2 : Hid (∀ k x, cu[k]? = some x → w2.cell? ⟨b3, o3 + i * 13 + k, none⟩ = some x) := fun k x hx => keep_below HL2.out.b _ _ (HCU.out k x hx)
      go_wp2_with (refine wpList_valAt rfl rfl b3 (o3 + i * 13) cu rfl HSU.out HC2.out ?_)
      refine (turned7_any u w2 cu (HTU.out.move (keep_below HL2.out.b)) (by have := HMU.out; omega) HTRK.out).mono ?_
      rintro e w3 ⟨ct, rfl, t', htn, hti, hb3⟩
      have HL3 := hide (HL2.out.next hb3)
      have HO3 := hide ((Kp.of_below (S := fun _ => False) hb3).owns HO2.out (fun _ _ e => e))
      have HE3 := hide (encode_good w3 t' s ct (chk7_0 (by rw [trn_much htn HTRK.out]; have := HMU.out; omega) (trn_chk htn HCH.out)) (srt7_ex (by rw [trn_much htn HTRK.out]; have := HMU.out; omega) (trn_chk htn HCH.out) (trn_srt HSR.out HTRK.out htn)) HTH.out.p (by have := HTH.out.l; omega) hti.tin (HTP.out.next HL3.out.b))
      clear htn hti hb3 HL2 HO2 HC2 HSC HCK
      go_wp2_with fail
      refine HE3.out.mono ?_
      rintro e w4 ⟨vb2, rfl, ho4, hb4⟩
      have HL4 := hide (HL3.out.next hb4)
      have HO4 := hide ((Kp.of_below (S := fun _ => False) hb4).owns HO3.out (fun _ _ e => e))
      have HB4 : Hid (BSl w4 vb (tfm s)) := BSl.own HO4.out HTH.out.y
      have HB4b : Hid (BSl w4 vb2 (tfm s)) := BSl.own (by simpa using ho4) HTH.out.y
      clear ho4 hb4 HL3 HO3 HE3
      have hpos : 0 < (tfm s).length := by have h1 := chk_much HTH.out.c; have h2 := much_pos7 s; omega
      obtain ⟨ab, cb, hvb⟩ : ∃ ab cb, vb = .slice ab (tfm s).length cb := by
        obtain ⟨⟨a, c, h, _⟩, _⟩ := HB4.out
        exact ⟨a, c, h⟩
      subst hvb
      have g5 : (((tfm s).length : Int) == 0) = false := beq_eq_false_iff_ne.2 (by omega)
      have tx1 := HB4.out.text
      have tx2 := HB4b.out.text
      generalize nstr (tfm s) = stx at *
      have HON : Hid (one13 cu) := ⟨HSU.out, fun x hx => by have h := HTU.out.all1; rw [Array.all_eq_true_iff_forall_mem] at h; exact h x (by simpa using hx)⟩
      have HC4 : Hid (∀ k x, cu[k]? = some x → w4.cell? ⟨b3, o3 + i * 13 + k, none⟩ = some x) := fun k x hx => keep_below HL4.out.b _ _ (HCU.out k x hx)
      have HG6 : Hid ((w4.alloc (.cells cu 65)).heap[w4.heap.size]? = some (.cells cu 65 (0, 0))) := heap_alloc_new w4 _
      have hLn := HL4.out.t.n
      have HLL : Hid (L.length ≤ 200) := by show _ ≤ _; have := HLN.out; omega
      clear hLn
      go_wp2_with fail
      refine (num7_any _ w4).mono ?_
      rintro e w9 ⟨rfl, hw9⟩
      have hw9 := hw9.symm
      subst hw9
      go_wp2_with fail
      refine (num7_any _ w4).mono ?_
      rintro e w9 ⟨rfl, hw9⟩
      have hw9 := hw9.symm
      subst hw9
      go_wp2_with (first
        | (refine wpList_valAt rfl rfl b3 (o3 + i * 13) cu rfl HSU.out HC4.out ?_)
        | (refine wpList_val1 rfl rfl cu HSU.out rfl ?_)
        | (at_builtin; refine append_val rfl _ _ rfl wp.heap.size _ L.length (vfl L) rfl (HL4.out.t.o.alloc _) w4.heap.size cu HON.out rfl HG6.out ?b1 ?b2 ?_))
      case b1 => have := HLL.out; omega
      case b2 => have := HL4.out.b.size; simp; omega
      intro v4' w5 ho5 hg5 _
      have k1 := ((Kp.refl (fun q => _ = some q) w4).alloc (.cells cu 65)).grown hg5 (fun k _ e => e)
      have o51 := k1.owns HL4.out.o (fun q hq e => own_apart HL4.out.o HL4.out.t.o (by decide) hq e)
      have o61 := k1.owns HL4.out.a (fun q hq e => own_apart HL4.out.a HL4.out.t.o (by decide) hq e)
      have ob1 := k1.owns HO4.out (fun q hq e => own_apart HO4.out HL4.out.t.o (by decide) hq e)
      have HK1 := hide k1
      have HO5 := hide ho5
      have HO51 := hide o51
      have HO61 := hide o61
      have HOB1 := hide ob1
      have HVL : Hid (vs.length ≤ 200) := by show _ ≤ _; have h1 := HL4.out.n; have h2 := HL4.out.m; have := HLN.out; omega
      have HS5 : Hid (wp.heap.size ≤ w5.heap.size) := Nat.le_trans HL4.out.b.size k1.size
      clear hg5 k1 ho5 o51 o61 ob1 tx1 tx2 HC4 HG6
      go_wp2_with (at_builtin; refine append_row rfl _ _ rfl wp.heap.size _ vs.length vs rfl HO51.out (.slice ab (tfm s).length cb) w5.heap.size rfl rfl rfl ?b1 ?b2 ?_)
      case b1 => have := HVL.out; omega
      case b2 => exact HS5.out
      intro v5' w6 ho6 hg6 _
      have k2 := ((Kp.refl (fun q => _ = some q) w5).alloc (.cells #[.slice ab (tfm s).length cb] 23)).grown hg6 (fun k _ e => e)
      have o62 := k2.owns HO61.out (fun q hq e => own_apart HO61.out HO51.out (by decide) hq e)
      have ob2 := k2.owns HOB1.out (fun q hq e => own_apart HOB1.out HO51.out (by decide) hq e)
      have HK2 := hide k2
      have HO6 := hide ho6
      have HO62 := hide o62
      have HBS : Hid (BSl w6 (.slice ab (tfm s).length cb) (tfm s)) := BSl.own ob2 HTH.out.y
      have HS6 : Hid (wp.heap.size ≤ w6.heap.size) := Nat.le_trans HS5.out k2.size
      have HFL := hide HL4.out.flat
      clear hg6 k2 ho6 o62 ob2
      go_wp2_with (at_builtin; refine append_bsl_at rfl _ _ rfl wp.heap.size _ F.flatten.length F.flatten rfl HO62.out _ (tfm s) rfl HBS.out ?b1 ?b2 ?_)
      case b1 => have := HFL.out; have := HTH.out.l; omega
      case b2 => exact HS6.out
      intro v6' w7 ho7 hg7 hn7
      rw [← List.length_flatten] at ho7
      have k3 := (Kp.refl (fun q => _ = some q) w6).grown hg7 (fun k _ e => e)
      have HL7 := hide (HL4.out.snoc HK1.out HO5.out HSU.out HTU.out HK2.out HO6.out k3 ho7 (hn7.imp id (fun e => ⟨_, e, Nat.le_trans HK1.out.size HK2.out.size⟩)) (own_mono HO4.out HSZ1.out) HN6.out ⟨HCH.out, HMU.out, s, HSR.out, HTH.out, rfl⟩ HLN.out)
      clear k3 ho7 hg7 hn7
      go_wp2_with fail
      go_roundw
      case rel => exact ⟨i + 1, _, _, _, _, by omega, by go_num, by rw [List.length_append, List.length_singleton]; omega, HL7⟩
      case measure => simp [intOf]; omega
    have g1 : ¬ (i : Int) < (ms.length : Int) := by omega
    have HTL := hide (HTP.out.next HLo.out.b)
    have HWL : Hid (Below w.heap.size w wr) := HP.out.b.trans (HLo.out.b.mono HP.out.b.size)
    have HKN : Hid (tr.length ≤ 200) := HLo.out.k
    obtain ⟨⟨a4, c4, e4, hz4, hf4⟩, hm4⟩ := HLo.out.t.vsl HLo.out.b (by have := HKN.out; omega)
    obtain ⟨a5, c5, e5, hf5⟩ := HLo.out.forms
    subst e4
    subst e5
    have HF4 := hide hf4
    have HF5 := hide hf5
    have HMM : Hid (tr.length = F.length) := HLo.out.m
    clear hf4 hf5 hz4 hm4 HF HTP hlt hi htl HP HTT
    rename World => wl
    go_wp2_with fail
    clear g1
    go_loopw [12] (fun ii wx => ∃ i : Nat, i ≤ tr.length ∧ ii = .int .i64 (i : Nat) ∧ Hid (Below wl.heap.size wl wx)) (fun ii _ => tr.length - (intOf ii).toNat)
    case atStart => exact ⟨0, by omega, rfl, Below.refl _ _⟩
    case round =>
      rename World => wa
      obtain ⟨i, hi, rfl, HBa⟩ := hrel
      by_cases hlt : i < tr.length
      case pos =>
        have g1 : (i : Int) < (tr.length : Int) := by omega
        go_wp2_with fail
        go_loopw [13] (fun ii wx => ∃ k : Nat, k ≤ 40 ∧ ii = .int .i64 (k : Nat) ∧ Hid (Below wl.heap.size wl wx)) (fun ii _ => 40 - (intOf ii).toNat)
        case atStart => exact ⟨0, by omega, rfl, HBa⟩
        case round =>
          rename World => wb
          obtain ⟨k, hk, rfl, HBb⟩ := hrel
          by_cases hltk : k < tr.length ∧ k < 40
          case pos => as_aux_lemma =>
            have g3 : (k : Int) < (tr.length : Int) := by omega
            have g4 : (k : Int) < 40 := by omega
            have hkl := hltk.1
            have hk4 := hltk.2
            obtain ⟨u, hu⟩ : ∃ u, tr[i]? = some u := ⟨tr[i], List.getElem?_eq_getElem hlt⟩
            obtain ⟨v, hv⟩ : ∃ v, tr[k]? = some v := ⟨tr[k], List.getElem?_eq_getElem hltk.1⟩
            obtain ⟨fi, hfi⟩ : ∃ f, F[i]? = some f := ⟨_, List.getElem?_eq_getElem (show i < F.length by have := HMM.out; omega)⟩
            obtain ⟨fk, hfk⟩ : ∃ f, F[k]? = some f := ⟨_, List.getElem?_eq_getElem (show k < F.length by have := HMM.out; omega)⟩
            obtain ⟨b, off, rfl, hcc⟩ := HF4.out.resolve_left (fun h => by rw [h] at hlt; simp at hlt)
            obtain ⟨b5, o5, rfl, hc5⟩ := HF5.out.resolve_left (fun h => by rw [h] at hlt; simp at hlt)
            obtain ⟨cu, tu, hcu⟩ := hcc i u hu
            obtain ⟨cv, tv, hcv⟩ := hcc k v hv
            obtain ⟨ai, ci, hci, hbi⟩ := hc5 i fi hfi
            obtain ⟨ak, ck, hck, hbk⟩ := hc5 k fk hfk
            have h2 := HLo.out.two hu hv hfi hfk
            have HMU := hide h2.1.1
            have HMV := hide h2.1.2
            have HTW := hide h2.2
            have HTU := hide tu
            have HTV := hide tv
            have HCU := hide hcu
            have HCV := hide hcv
            have HSU := hide tu.size13
            have HSV := hide tv.size13
            have HCI := hide hci
            have HCK := hide hck
            have HBI := hide hbi
            have HBK := hide hbk
            clear hcc hc5 hu hv tu tv hcu hcv hci hck hbi hbk hfi hfk h2 HF4 HF5 hltk HLo HTL HWL HKN HMM HBa
            have HQ1 : Hid (∀ wx, (∃ t : Ext wb, wx = t.w') → ∀ j x, cu[j]? = some x → wx.cell? ⟨b, off + i * 13 + j, none⟩ = some x) := by
              rintro _ ⟨t, rfl⟩ j x hx
              exact keep_below t.h _ _ (keep_below HBb.out _ _ (HCU.out j x hx))
            have HQ2 : Hid (∀ wx, (∃ t : Ext wb, wx = t.w') → ∀ j x, cv[j]? = some x → wx.cell? ⟨b, off + k * 13 + j, none⟩ = some x) := by
              rintro _ ⟨t, rfl⟩ j x hx
              exact keep_below t.h _ _ (keep_below HBb.out _ _ (HCV.out j x hx))
            have HP1 : Hid (∀ t : Ext wb, Calls Tryz.prog 22 #[.agg cu, .agg cv] t.w' fun e w'' => e = .returned (.bool (eqf u v)) ∧ ∃ t' : Ext wb, w'' = t'.w') := fun t => Calls.ext_below (equal6_any u v t.w' cu cv (HTU.out.move (fun p x hx => keep_below t.h _ _ (keep_below HBb.out _ _ hx))) (HTV.out.move (fun p x hx => keep_below t.h _ _ (keep_below HBb.out _ _ hx))) (by have := HMU.out; omega) (by have := HMV.out; omega))
            go_wp2_with fail
            refine region_ext (by kernel_rfl) (by kernel_rfl) ?_
            with_reducible refine wpQuiet_step (fun K hK => ?_)
            go_simp
            with_reducible refine hK _ ?_
            clear hK K
            with_reducible refine wpQuiet_step (fun K hK => ?_)
            go_simp
            with_reducible refine hK _ ?_
            clear hK K
            with_reducible refine wpQuiet_step (fun K hK => ?_)
            go_simp
            with_reducible refine hK _ ?_
            clear hK K
            with_reducible refine wpQuiet_step (fun K hK => ?_)
            refine qstep_valAt rfl rfl b (off + i * 13) cu HSU.out rfl HQ1.out (hK _ ?_)
            clear hK K
            with_reducible refine wpQuiet_step (fun K hK => ?_)
            go_simp
            with_reducible refine hK _ ?_
            clear hK K
            with_reducible refine wpQuiet_step (fun K hK => ?_)
            go_simp
            with_reducible refine hK _ ?_
            clear hK K
            with_reducible refine wpQuiet_step (fun K hK => ?_)
            go_simp
            with_reducible refine hK _ ?_
            clear hK K
            with_reducible refine wpQuiet_step (fun K hK => ?_)
            refine qstep_valAt rfl rfl b (off + k * 13) cv HSV.out rfl HQ2.out (hK _ ?_)
            clear hK K
            with_reducible refine wpQuiet_step (fun K hK => ?_)
            go_simp
            apply Exists.intro
            refine ⟨fun _ => ?_, hK _ ?_⟩
            (go_at_call 22; exact HP1.out _)
            clear hK K
            with_reducible refine wpQuiet_step (fun K hK => ?_)
            go_simp
            with_reducible refine hK _ ?_
            clear hK K
            refine wpQuiet_nil ?_
            rintro _ ⟨tq, rfl⟩
            have HBn : Hid (Below wl.heap.size wl tq.w') := HBb.out.trans (tq.h.mono HBb.out.size)
            clear HQ1 HQ2 HP1 HBb
            generalize tq.w' = wc at *
            have HTI : Hid (∀ wx, (∃ t : Ext wc, wx = t.w') → (convert 23 9 (.slice ai fi.length ci)).run Tryz.prog wx = .ok (.string (nstr fi)) wx) := by
              rintro _ ⟨t, rfl⟩
              exact ((HBI.out.move (keep_below HBn.out)).move (keep_below t.h)).text
            have HTK : Hid (∀ wx, (∃ t : Ext wc, wx = t.w') → (convert 23 9 (.slice ak fk.length ck)).run Tryz.prog wx = .ok (.string (nstr fk)) wx) := by
              rintro _ ⟨t, rfl⟩
              exact ((HBK.out.move (keep_below HBn.out)).move (keep_below t.h)).text
            have HXI : Hid (∀ wx, (∃ t : Ext wc, wx = t.w') → wx.cell? ⟨b5, o5 + i, none⟩ = some (.slice ai fi.length ci)) := by
              rintro _ ⟨t, rfl⟩
              exact keep_below t.h _ _ (keep_below HBn.out _ _ HCI.out)
            have HXK : Hid (∀ wx, (∃ t : Ext wc, wx = t.w') → wx.cell? ⟨b5, o5 + k, none⟩ = some (.slice ak fk.length ck)) := by
              rintro _ ⟨t, rfl⟩
              exact keep_below t.h _ _ (keep_below HBn.out _ _ HCK.out)
            rcases HTW.out with ⟨hE, hff⟩ | ⟨hE, hff, hbg⟩
            · as_aux_lemma =>
              rw [hE]
              subst hff
              generalize nstr fi = si at *
              clear hE HTW
              go_wp2_with fail
              refine region_ext (by kernel_rfl) (by kernel_rfl) ?_
              with_reducible refine wpQuiet_step (fun K hK => ?_)
              go_simp
              with_reducible refine hK _ ?_
              clear hK K
              with_reducible refine wpQuiet_step (fun K hK => ?_)
              go_simp
              with_reducible refine hK _ ?_
              clear hK K
              with_reducible refine wpQuiet_step (fun K hK => ?_)
              go_simp
              with_reducible refine hK _ ?_
              clear hK K
              with_reducible refine wpQuiet_step (fun K hK => ?_)
              go_simp
              with_reducible refine hK _ ?_
              clear hK K
              with_reducible refine wpQuiet_step (fun K hK => ?_)
              refine qstep_exec rfl (.slice ai fi.length ci) (fun wq hq => by have h0 := HXI.out wq hq; first | (go_simp; done) | (go_simp; rfl)) (hK _ ?_)
              clear hK K
              with_reducible refine wpQuiet_step (fun K hK => ?_)
              refine qstep_exec rfl (.string si) (fun wq hq => by have h0 := HTI.out wq hq; first | (go_simp; done) | (go_simp; rfl)) (hK _ ?_)
              clear hK K
              with_reducible refine wpQuiet_step (fun K hK => ?_)
              go_simp
              with_reducible refine hK _ ?_
              clear hK K
              with_reducible refine wpQuiet_step (fun K hK => ?_)
              go_simp
              with_reducible refine hK _ ?_
              clear hK K
              with_reducible refine wpQuiet_step (fun K hK => ?_)
              go_simp
              with_reducible refine hK _ ?_
              clear hK K
              with_reducible refine wpQuiet_step (fun K hK => ?_)
              refine qstep_exec rfl (.slice ak fi.length ck) (fun wq hq => by have h0 := HXK.out wq hq; first | (go_simp; done) | (go_simp; rfl)) (hK _ ?_)
              clear hK K
              with_reducible refine wpQuiet_step (fun K hK => ?_)
              refine qstep_exec rfl (.string si) (fun wq hq => by have h0 := HTK.out wq hq; first | (go_simp; done) | (go_simp; rfl)) (hK _ ?_)
              clear hK K
              repeat (
                with_reducible refine wpQuiet_step (fun K hK => ?_)
                go_simp
                with_reducible refine hK _ ?_
                clear hK K)
              refine wpQuiet_nil ?_
              rintro _ ⟨tr2, rfl⟩
              have HBo : Hid (Below wl.heap.size wl tr2.w') := HBn.out.trans (tr2.h.mono HBn.out.size)
              go_wp2_with fail
              go_roundw
              case rel => exact ⟨k + 1, by omega, by go_num, HBo⟩
              case measure => simp [intOf]; omega
            · as_aux_lemma =>
              rw [hE]
              have gs : ((nstr fi).toList == (nstr fk).toList) = false := by
                have h := str_bne (nstr fi) (nstr fk)
                rw [bne, decide_eq_false (fun e => hff (nstr_inj7 HBI.out.byte HBK.out.byte e))] at h
                simpa using h
              have HPB : Hid (∀ t : Ext wc, Calls Tryz.prog 23 #[.slice ai fi.length ci, .slice ak fk.length ck] t.w' fun e w'' => e = .returned (.bool false) ∧ ∃ t' : Ext wc, w'' = t'.w') := fun t => by
                rw [← hbg]
                exact Calls.ext_below (begin7_any t.w' _ _ fi fk ((HBI.out.move (keep_below HBn.out)).move (keep_below t.h)) ((HBK.out.move (keep_below HBn.out)).move (keep_below t.h)))
              generalize nstr fi = si at *
              generalize nstr fk = sk at *
              clear hE HTW hff hbg
              go_wp2_with fail
              refine region_ext (by kernel_rfl) (by kernel_rfl) ?_
              with_reducible refine wpQuiet_step (fun K hK => ?_)
              go_simp
              with_reducible refine hK _ ?_
              clear hK K
              with_reducible refine wpQuiet_step (fun K hK => ?_)
              go_simp
              with_reducible refine hK _ ?_
              clear hK K
              with_reducible refine wpQuiet_step (fun K hK => ?_)
              go_simp
              with_reducible refine hK _ ?_
              clear hK K
              with_reducible refine wpQuiet_step (fun K hK => ?_)
              go_simp
              with_reducible refine hK _ ?_
              clear hK K
              with_reducible refine wpQuiet_step (fun K hK => ?_)
              refine qstep_exec rfl (.slice ai fi.length ci) (fun wq hq => by have h0 := HXI.out wq hq; first | (go_simp; done) | (go_simp; rfl)) (hK _ ?_)
              clear hK K
              with_reducible refine wpQuiet_step (fun K hK => ?_)
              refine qstep_exec rfl (.string si) (fun wq hq => by have h0 := HTI.out wq hq; first | (go_simp; done) | (go_simp; rfl)) (hK _ ?_)
              clear hK K
              with_reducible refine wpQuiet_step (fun K hK => ?_)
              go_simp
              with_reducible refine hK _ ?_
              clear hK K
              with_reducible refine wpQuiet_step (fun K hK => ?_)
              go_simp
              with_reducible refine hK _ ?_
              clear hK K
              with_reducible refine wpQuiet_step (fun K hK => ?_)
              go_simp
              with_reducible refine hK _ ?_
              clear hK K
              with_reducible refine wpQuiet_step (fun K hK => ?_)
              refine qstep_exec rfl (.slice ak fk.length ck) (fun wq hq => by have h0 := HXK.out wq hq; first | (go_simp; done) | (go_simp; rfl)) (hK _ ?_)
              clear hK K
              with_reducible refine wpQuiet_step (fun K hK => ?_)
              refine qstep_exec rfl (.string sk) (fun wq hq => by have h0 := HTK.out wq hq; first | (go_simp; done) | (go_simp; rfl)) (hK _ ?_)
              clear hK K
              with_reducible refine wpQuiet_step (fun K hK => ?_)
              go_simp
              with_reducible refine hK _ ?_
              clear hK K
              with_reducible refine wpQuiet_step (fun K hK => ?_)
              go_simp
              with_reducible refine hK _ ?_
              clear hK K
              with_reducible refine wpQuiet_step (fun K hK => ?_)
              go_simp
              with_reducible refine hK _ ?_
              clear hK K
              with_reducible refine wpQuiet_step (fun K hK => ?_)
              go_simp
              with_reducible refine hK _ ?_
              clear hK K
              with_reducible refine wpQuiet_step (fun K hK => ?_)
              go_simp
              with_reducible refine hK _ ?_
              clear hK K
              with_reducible refine wpQuiet_step (fun K hK => ?_)
              go_simp
              with_reducible refine hK _ ?_
              clear hK K
              with_reducible refine wpQuiet_step (fun K hK => ?_)
              go_simp
              with_reducible refine hK _ ?_
              clear hK K
              with_reducible refine wpQuiet_step (fun K hK => ?_)
              go_simp
              with_reducible refine hK _ ?_
              clear hK K
              with_reducible refine wpQuiet_step (fun K hK => ?_)
              go_simp
              with_reducible refine hK _ ?_
              clear hK K
              with_reducible refine wpQuiet_step (fun K hK => ?_)
              refine qstep_exec rfl (.slice ai fi.length ci) (fun wq hq => by have h0 := HXI.out wq hq; first | (go_simp; done) | (go_simp; rfl)) (hK _ ?_)
              clear hK K
              with_reducible refine wpQuiet_step (fun K hK => ?_)
              go_simp
              with_reducible refine hK _ ?_
              clear hK K
              with_reducible refine wpQuiet_step (fun K hK => ?_)
              go_simp
              with_reducible refine hK _ ?_
              clear hK K
              with_reducible refine wpQuiet_step (fun K hK => ?_)
              go_simp
              with_reducible refine hK _ ?_
              clear hK K
              with_reducible refine wpQuiet_step (fun K hK => ?_)
              refine qstep_exec rfl (.slice ak fk.length ck) (fun wq hq => by have h0 := HXK.out wq hq; first | (go_simp; done) | (go_simp; rfl)) (hK _ ?_)
              clear hK K
              with_reducible refine wpQuiet_step (fun K hK => ?_)
              go_simp
              apply Exists.intro
              refine ⟨fun _ => ?_, hK _ ?_⟩
              (go_at_call 23; exact HPB.out _)
              clear hK K
              with_reducible refine wpQuiet_step (fun K hK => ?_)
              go_simp
              with_reducible refine hK _ ?_
              clear hK K
              with_reducible refine wpQuiet_step (fun K hK => ?_)
              go_simp
              with_reducible refine hK _ ?_
              clear hK K
              refine wpQuiet_nil ?_
              rintro _ ⟨tr2, rfl⟩
              have HBo : Hid (Below wl.heap.size wl tr2.w') := HBn.out.trans (tr2.h.mono HBn.out.size)
              go_wp2_with fail
              go_roundw
              case rel => exact ⟨k + 1, by omega, by go_num, HBo⟩
              case measure => simp [intOf]; omega
          case neg =>
            rcases Nat.lt_or_ge k tr.length with h1 | h1
            · as_aux_lemma =>
              have g3 : (k : Int) < (tr.length : Int) := by omega
              have g4 : ¬ (k : Int) < 40 := by omega
              have hkn := HKN.out
              clear hltk
              go_wp2_with fail
              go_roundw
              case rel => exact ⟨i + 1, by omega, by go_num, HBb⟩
              case measure => simp [intOf]; omega
            · as_aux_lemma =>
              have g3 : ¬ (k : Int) < (tr.length : Int) := by omega
              have hkn := HKN.out
              clear hltk
              go_wp2_with fail
              go_roundw
              case rel => exact ⟨i + 1, by omega, by go_num, HBb⟩
              case measure => simp [intOf]; omega
      have g1 : ¬ (i : Int) < (tr.length : Int) := by omega
      have HTA := hide (HTL.out.next HBa.out)
      have HWA : Hid (Below w.heap.size w wa) := HWL.out.trans (HBa.out.mono HWL.out.size)
      have HLa := hide (HLo.out.next HBa.out)
      clear HLo HTL HWL HF4 HF5 HBa
      have HLb := hide (HLa.out.next (below_alloc4 wa (.cells #[.int .i64 8, .bool false, .bool false, .int .u64 0, .int .u64 0, .string ⟨#[]⟩, .slice none 0 0, .int .i64 0, .int .u64 0, .int .u64 0, .string ⟨#[]⟩, .slice none 0 0, .slice a4 tr.length c4] 65)))
      have HRb := hide (heap_alloc_new wa (.cells #[.int .i64 8, .bool false, .bool false, .int .u64 0, .int .u64 0, .string ⟨#[]⟩, .slice none 0 0, .int .i64 0, .int .u64 0, .int .u64 0, .string ⟨#[]⟩, .slice none 0 0, .slice a4 tr.length c4] 65))
      have HTb := hide (HTA.out.next (below_alloc4 wa (.cells #[.int .i64 8, .bool false, .bool false, .int .u64 0, .int .u64 0, .string ⟨#[]⟩, .slice none 0 0, .int .i64 0, .int .u64 0, .int .u64 0, .string ⟨#[]⟩, .slice none 0 0, .slice a4 tr.length c4] 65)))
      have HWb := hide (HWA.out.trans ((below_alloc4 wa (.cells #[.int .i64 8, .bool false, .bool false, .int .u64 0, .int .u64 0, .string ⟨#[]⟩, .slice none 0 0, .int .i64 0, .int .u64 0, .int .u64 0, .string ⟨#[]⟩, .slice none 0 0, .slice a4 tr.length c4] 65)).mono HWA.out.size))
      have HTN : Hid (∀ wx v5 v6, Lo7 wp wx (.slice a4 tr.length c4) v5 v6 tr L vs F → Tin wx (tls tr) #[.int .i64 8, .bool false, .bool false, .int .u64 0, .int .u64 0, .string ⟨#[]⟩, .slice none 0 0, .int .i64 0, .int .u64 0, .int .u64 0, .string ⟨#[]⟩, .slice none 0 0, .slice a4 tr.length c4]) := fun wx v5 v6 h => h.tin
      have HS13 : Hid ((#[.int .i64 8, .bool false, .bool false, .int .u64 0, .int .u64 0, .string ⟨#[]⟩, .slice none 0 0, .int .i64 0, .int .u64 0, .int .u64 0, .string ⟨#[]⟩, .slice none 0 0, .slice a4 tr.length c4] : Array Value).size = 13) := rfl
      clear HLa HTA HWA hlt hi
      go_wp2_with fail
      clear g1
      generalize wa.alloc (.cells #[.int .i64 8, .bool false, .bool false, .int .u64 0, .int .u64 0, .string ⟨#[]⟩, .slice none 0 0, .int .i64 0, .int .u64 0, .int .u64 0, .string ⟨#[]⟩, .slice none 0 0, .slice a4 tr.length c4] 65) = wb at *
      generalize wa.heap.size = gx at *
      have HCB : Hid (∀ j x, (#[.int .i64 8, .bool false, .bool false, .int .u64 0, .int .u64 0, .string ⟨#[]⟩, .slice none 0 0, .int .i64 0, .int .u64 0, .int .u64 0, .string ⟨#[]⟩, .slice none 0 0, .slice a4 tr.length c4] : Array Value)[j]? = some x → wb.cell? ⟨gx, 0 + j, none⟩ = some x) := fun j x hx => by rw [Nat.zero_add]; exact blk_cell HRb.out hx
      refine (tree7_any (tls tr) wb _ (HTN.out _ _ _ HLb.out) HLb.out.much HTb.out).mono ?_
      rintro e wc ⟨rfl, hbc⟩
      have HLc := hide (HLb.out.next hbc)
      have HTc := hide (HTb.out.next hbc)
      have HWc : Hid (Below w.heap.size w wc) := HWb.out.trans (hbc.mono HWb.out.size)
      have HCC : Hid (∀ j x, (#[.int .i64 8, .bool false, .bool false, .int .u64 0, .int .u64 0, .string ⟨#[]⟩, .slice none 0 0, .int .i64 0, .int .u64 0, .int .u64 0, .string ⟨#[]⟩, .slice none 0 0, .slice a4 tr.length c4] : Array Value)[j]? = some x → wc.cell? ⟨gx, 0 + j, none⟩ = some x) := fun j x hx => keep_below hbc _ _ (HCB.out j x hx)
      clear hbc HLb HTb HWb HRb HCB
      by_cases hc : chkf (tls tr) 0 = 0
      case neg =>
        rw [decide_eq_false hc]
        clear hc
        go_wp2_with fail
        refine (lays7_any wc HTc.out).mono ?_
        rintro e wd ⟨rfl, hbd⟩
        have HWd : Hid (Below w.heap.size w wd) := HWc.out.trans (hbd.mono HWc.out.size)
        go_wp2_with fail
        go_ret
        exact ⟨rfl, HWd.out⟩
      obtain ⟨s, hls⟩ := HLc.out.list hc
      rw [decide_eq_true hc]
      have HLS := hide hls
      clear hls hc
      go_wp2_with (refine wpList_valAt rfl rfl gx 0 #[.int .i64 8, .bool false, .bool false, .int .u64 0, .int .u64 0, .string ⟨#[]⟩, .slice none 0 0, .int .i64 0, .int .u64 0, .int .u64 0, .string ⟨#[]⟩, .slice none 0 0, .slice a4 tr.length c4] rfl HS13.out HCC.out ?_)
      refine (encode_good wc (tls tr) s _ HLS.out.c HLS.out.r HLS.out.p HLS.out.l (HTN.out _ _ _ HLc.out) HTc.out).mono ?_
      rintro e wd ⟨vb, rfl, hod, hbd⟩
      have HLd := hide (HLc.out.next hbd)
      have HTd := hide (HTc.out.next hbd)
      have HWd : Hid (Below w.heap.size w wd) := HWc.out.trans (hbd.mono HWc.out.size)
      have HOd : Hid (wd.ownsRow wc.heap.size 5 1 vb (tfm s).length (bv (tfm s))) := by show World.ownsRow _ _ _ _ _ _ _; simpa using hod
      have HCD : Hid (∀ j x, (#[.int .i64 8, .bool false, .bool false, .int .u64 0, .int .u64 0, .string ⟨#[]⟩, .slice none 0 0, .int .i64 0, .int .u64 0, .int .u64 0, .string ⟨#[]⟩, .slice none 0 0, .slice a4 tr.length c4] : Array Value)[j]? = some x → wd.cell? ⟨gx, 0 + j, none⟩ = some x) := fun j x hx => keep_below hbd _ _ (HCC.out j x hx)
      clear hod hbd HLc HTc HWc HCC
      go_wp2_with (refine wpList_valAt rfl rfl gx 0 #[.int .i64 8, .bool false, .bool false, .int .u64 0, .int .u64 0, .string ⟨#[]⟩, .slice none 0 0, .int .i64 0, .int .u64 0, .int .u64 0, .string ⟨#[]⟩, .slice none 0 0, .slice a4 tr.length c4] rfl HS13.out HCD.out ?_)
      refine (sizeTop7 wd (tls tr) _ HLS.out.c HLS.out.q (by rw [HLS.out.n]; exact HLS.out.l) (HTN.out _ _ _ HLd.out) HTd.out).mono ?_
      rintro e we ⟨rfl, hbe⟩
      have HLe := hide (HLd.out.next hbe)
      have HTe := hide (HTd.out.next hbe)
      have HWe : Hid (Below w.heap.size w we) := HWd.out.trans (hbe.mono HWd.out.size)
      have HOe := hide ((Kp.of_below (S := fun _ => False) hbe).owns HOd.out (fun _ _ e => e))
      rw [HLS.out.n]
      clear hbe HLd HTd HWd HOd HCD
      have hkn := HKN.out
      go_wp2_with fail
      refine (lay_any 4 tr.length we (by omega) (by omega)).mono ?_
      rintro e wf ⟨vh, rfl, hof, hbf⟩
      have ehl : hlay 4 tr.length = hl 4 tr.length := by unfold hlay; rw [if_pos (by decide)]; rfl
      rw [ehl] at hof
      have HOF := hide hof
      have HLf := hide (HLe.out.next hbf)
      have HEF := hide hbf
      have HOf := hide ((Kp.of_below (S := fun _ => False) hbf).owns HOe.out (fun _ _ e => e))
      have HSF : Hid (we.heap.size ≤ wf.heap.size) := hbf.size
      have HLN : Hid ((hl 4 tr.length).length + F.flatten.length ≤ 1000000000) := by show _ ≤ _; rw [← List.length_append, ← HLS.out.f]; exact HLS.out.l
      have HAL : Hid (BSl wf _ F.flatten) := BSl.own HLf.out.a (fun x hx => HLS.out.y x (by rw [HLS.out.f]; exact List.mem_append_right _ hx))
      clear hof hbf ehl HLe
      go_wp2_with (at_builtin; refine append_bsl_at rfl _ _ rfl we.heap.size _ (hl 4 tr.length).length (hl 4 tr.length) rfl HOF.out _ F.flatten rfl HAL.out ?b1 ?b2 ?_)
      case b1 => have := HLN.out; omega
      case b2 => exact HSF.out
      intro vw wg hog hgg _
      have hkg := (Kp.refl (fun q => _ = some q) wf).grown hgg (fun k _ e => e)
      have hbg := hkg.below HSF.out (fun q e => (HOF.out.lt q e).1)
      have HTg := hide (HTe.out.next (HEF.out.trans hbg))
      have HWg : Hid (Below w.heap.size w wg) := HWe.out.trans ((HEF.out.trans hbg).mono HWe.out.size)
      have hvb := hkg.owns HOf.out (fun q hq e => by have h1 := (HOe.out.lt q hq).2; have h2 := (HOF.out.lt q e).1; omega)
      have HBV : Hid (BSl wg vb (tfm s)) := BSl.own hvb HLS.out.y
      have HBW : Hid (BSl wg vw (tfm s)) := BSl.own (by rw [HLS.out.f]; exact hog) HLS.out.y
      clear hog hgg hkg hbg hvb HEF HOF HOf HOe HLf HWe HTe HAL
      obtain ⟨aw, cw, hvw⟩ : ∃ aw cw, vw = .slice aw (tfm s).length cw := by
        obtain ⟨⟨a, c, h, _⟩, _⟩ := HBW.out
        exact ⟨a, c, h⟩
      subst hvw
      have tx1 := HBV.out.text
      have tx2 := HBW.out.text
      generalize nstr (tfm s) = stx at *
      go_wp2_with fail
      refine (num7_any _ wg).mono ?_
      rintro e w9 ⟨rfl, hw9⟩
      have hw9 := hw9.symm
      subst hw9
      go_wp2_with fail
      refine (num7_any _ wg).mono ?_
      rintro e w9 ⟨rfl, hw9⟩
      have hw9 := hw9.symm
      subst hw9
      go_wp2_with fail
      refine (lays7_any wg HTg.out).mono ?_
      rintro e wh ⟨rfl, hbh⟩
      have HWh : Hid (Below w.heap.size w wh) := HWg.out.trans (hbh.mono HWg.out.size)
      go_wp2_with fail
      go_ret
      exact ⟨rfl, HWh.out⟩
end
end Go.Proofs.YtjlknnpgngaooaaGreatDoor

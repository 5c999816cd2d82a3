import Derived.Test.YtadilnmkjcmnnaaGreatDoorJao
import Derived.Test.YtadilnmkjcmnnaaGreatDoorJl
import Derived.Test.YtadilnmkjcmnnaaGreatDoorJt
namespace Go.Proofs.YtadilnmkjcmnnaaGreatDoor
section
open Go.RowKit Go
/-- What ReadThere has in hand. -/
structure Rth (w wx : World) (vV vT : Value) : Prop where
  t : wx.heap[w.heap.size]? = some (.cells #[vV, vT] 56 (0, 0))
  l : Below w.heap.size w wx
theorem Rth.next {w wx wy : World} {vV vT : Value} (h : Rth w wx vV vT) (hb : Below wx.heap.size wx wy) : Rth w wy vV vT :=
  ⟨(hb.block _ (blk_lt h.t)).trans h.t, h.l.trans (hb.mono h.l.size)⟩
/-- A value in a variable. -/
structure Vv8 (wx : World) (g : Nat) (c : Array Value) (t : Tv) : Prop where
  x : wx.heap[g]? = some (.cells c 62 (0, 0))
  t : Tin wx t c
theorem Vv8.next {wx wy : World} {g : Nat} {c : Array Value} {t : Tv} (h : Vv8 wx g c t) (hb : Below wx.heap.size wx wy) : Vv8 wy g c t := ⟨(hb.block _ (blk_lt h.x)).trans h.x, h.t.move (keep_below hb)⟩
theorem Vv8.cells {wx : World} {g : Nat} {c : Array Value} {t : Tv} (h : Vv8 wx g c t) : ∀ j x, c[j]? = some x → wx.cell? ⟨g, 0 + j, none⟩ = some x := fun j x hx => by rw [Nat.zero_add]; exact blk_cell h.x hx
/-- The form that was laid. -/
structure Fm8 (wx : World) (v : Value) (b : List Nat) : Prop where
  b : BSl wx v b
  q : ∀ q, v.ownBlock = some q → q < wx.heap.size
theorem Fm8.next {wx wy : World} {v : Value} {b : List Nat} (h : Fm8 wx v b) (hb : Below wx.heap.size wx wy) : Fm8 wy v b := ⟨h.b.move (keep_below hb), fun q hq => Nat.lt_of_lt_of_le (h.q q hq) hb.size⟩
theorem vsl_part {w : World} {b off n i : Nat} {u : Tv} {cu : Array Value} (ht : Tin w u cu) (hc : ∀ j x, cu[j]? = some x → w.cell? ⟨b, off + i * 13 + j, none⟩ = some x) (h1 : 1 ≤ n) : VSl w (.slice (some ⟨b, off + i * 13, none⟩) 1 n) [u] := by
  refine ⟨⟨_, n, rfl, ⟨by simpa using h1, fun h => by cases h⟩, .inr ⟨b, off + i * 13, rfl, fun j t hj => ?_⟩⟩, by simp⟩
  have hi := (List.getElem?_eq_some_iff.1 hj).1
  simp at hi
  subst hi
  simp at hj
  subst hj
  exact ⟨cu, ht, fun j x hx => by simpa using hc j x hx⟩
set_option maxRecDepth 1000000 in
set_option maxHeartbeats 8000000 in
theorem rthere_any (w : World) (hT : Tabs w) (vV vT : Value) (is : List Tv) (ts : List Nat) (hV : VSl w vV is) (hTl : BSl w vT ts) :
    Calls Tryz.prog 4 #[.agg #[vV, vT]] w fun e w' => e = .returned (.bool true) ∧ Below w.heap.size w w' := by
  have HTT := hide hT
  have HTL := hide hTl
  obtain ⟨⟨aV, cV, rfl, hz1, hform⟩, hmax⟩ := hV
  obtain ⟨⟨aT, cT, rfl, hz2, hz3⟩, hz4, hz5⟩ := hTl
  have HF := hide hform
  have hcap := hz1.1
  have HX0 : Hid (Rth w (w.alloc (.cells #[.slice aV is.length cV, .slice aT ts.length cT] 56)) (.slice aV is.length cV) (.slice aT ts.length cT)) := ⟨heap_alloc_new w _, below_alloc4 w _⟩
  clear hT hform hz1 hz2 hz3 hz4 hz5
  go_enter Tryz.func4, Tryz.ntmps4
  go_wp2_with fail
  generalize w.alloc (.cells #[.slice aV is.length cV, .slice aT ts.length cT] 56) = w0 at *
  go_loopw [3] (fun vi wx => ∃ i : Nat, i ≤ is.length ∧ i ≤ 60 ∧ vi = .int .i64 (i : Nat) ∧ Hid (Rth w wx (.slice aV is.length cV) (.slice aT ts.length cT))) (fun vi _ => 60 - (intOf vi).toNat)
  case atStart => exact ⟨0, by omega, by omega, rfl, HX0⟩
  case round =>
    obtain ⟨i, hi, hi6, rfl, HX⟩ := hrel
    clear HX0
    have q0 : wr.cell? ⟨w.heap.size, 0, none⟩ = some (.slice aV is.length cV) := blk_cell (j := 0) HX.out.t rfl
    by_cases hil : i < is.length ∧ i < 60
    case neg => as_aux_lemma =>
      by_cases h1 : i < is.length
      · have g1 : (i : Int) < (is.length : Int) := by omega
        have g2 : ¬ (i : Int) < 60 := by omega
        clear hil h1 hi hi6
        go_wp2_with fail
        refine (reads8_any w HTT.out wr HX.out.l).mono ?_
        rintro e w2 ⟨rfl, hb2⟩
        have HB2 : Hid (Below w.heap.size w w2) := HX.out.l.trans (hb2.mono HX.out.l.size)
        clear hb2
        go_wp2_with fail
        go_ret
        exact ⟨rfl, HB2.out⟩
      · have g1 : ¬ (i : Int) < (is.length : Int) := by omega
        clear hil h1 hi hi6
        go_wp2_with fail
        refine (reads8_any w HTT.out wr HX.out.l).mono ?_
        rintro e w2 ⟨rfl, hb2⟩
        have HB2 : Hid (Below w.heap.size w w2) := HX.out.l.trans (hb2.mono HX.out.l.size)
        clear hb2
        go_wp2_with fail
        go_ret
        exact ⟨rfl, HB2.out⟩
    obtain ⟨hil, hi60⟩ := hil
    have g1 : (i : Int) < (is.length : Int) := by omega
    have g2 : (i : Int) < 60 := by omega
    obtain ⟨u, hu⟩ : ∃ u, is[i]? = some u := ⟨is[i], List.getElem?_eq_getElem hil⟩
    obtain ⟨bV, oV, rfl, hcells⟩ := HF.out.resolve_left (fun h => by rw [h] at hil; simp at hil)
    obtain ⟨cu, hcu, hcc⟩ := hcells i u hu
    have HTU := hide hcu
    have HCU := hide hcc
    clear hcells hcu hcc hu HF
    have HSU := hide HTU.out.size13
    have HCA : Hid (∀ k x, cu[k]? = some x → wr.cell? ⟨bV, oV + i * 13 + k, none⟩ = some x) := fun k x hx => keep_below HX.out.l _ _ (HCU.out k x hx)
    have hmk := row_mk8 wr zv cu 62
    have HG0 := hide (heap_alloc_new wr (.cells zv 62))
    have HA1 := hide HTU.out.all1
    have HIN : Hid ((Tryz.prog.info? 62).map (·.size) = some cu.size) := by show _ = _; rw [HSU.out]; exact infoV
    have HZV : Hid (zv.size = cu.size) := by show _ = _; rw [HSU.out]; rfl
    have HX1 := hide (HX.out.next hmk.1)
    have HV1 : Hid (Vv8 ((wr.alloc (.cells zv 62)).setRow wr.heap.size cu) wr.heap.size cu u) := ⟨hmk.2, HTU.out.move (keep_below HX1.out.l)⟩
    clear hmk
    go_upto_region 5 with (first
      | (refine wpList_storeRow rfl rfl wr.heap.size zv cu 62 rfl rfl HG0.out HIN.out HZV.out HA1.out ?_)
      | (refine wpList_valAt rfl rfl bV (oV + i * 13) cu rfl HSU.out HCA.out ?_))
    (try simp only [Act.put]); (try simp only [List.setIfInBounds_toArray, List.set_cons_zero, List.set_cons_succ])
    clear HG0 HIN HZV HA1 HCA HX q0
    unfold zv at HX1 HV1
    generalize (wr.alloc (.cells #[.int .i64 0, .bool false, .bool false, .int .u64 0, .int .u64 0, .string ⟨#[]⟩, .slice none 0 0, .int .i64 0, .int .u64 0, .int .u64 0, .string ⟨#[]⟩, .slice none 0 0, .slice none 0 0] 62)).setRow wr.heap.size cu = w1 at *
    generalize wr.heap.size = gv at *
    have q0 : w1.cell? ⟨w.heap.size, 0, none⟩ = some (.slice (some ⟨bV, oV, none⟩) is.length cV) := blk_cell (j := 0) HX1.out.t rfl
    have e1 : IntKind.i64.wrap ((i : Int) + 1) = (i : Int) + 1 := by rw [IntKind.wrap_i64]; omega
    have g3 : (i : Int) + 1 ≤ (cV : Int) := by omega
    go_wp2_with fail
    refine (much_any [u] w1 _ 20000 (vsl_part (HTU.out.move (keep_below HX1.out.l)) (fun j x hx => keep_below HX1.out.l _ _ (HCU.out j x hx)) (by omega)) (by omega)).mono ?_
    rintro e w2 ⟨r, rfl, hmu, hb2⟩
    have HMU := hide hmu
    have HX2 := hide (HX1.out.next hb2)
    have HV2 := hide (HV1.out.next hb2)
    clear hmu hb2 HX1 HV1 q0 e1 g3 HCU
    by_cases hr : 20000 < r
    · as_aux_lemma =>
      have g0 : (20000 : Int) < (r : Int) := by omega
      go_wp2_with fail
      go_roundw
      case rel => exact ⟨i + 1, by omega, by omega, by go_num, HX2⟩
      case measure => simp [intOf]; omega
    have g0 : ¬ (20000 : Int) < (r : Int) := by omega
    have gd : decide ((20000 : Int) < (r : Int)) = false := decide_eq_false g0
    have HM : Hid (tmuch u ≤ 20000) := by have := HMU.out.eq (by omega); simp [tmuchL] at this; show _ ≤ _; omega
    have HVC2 : Hid (∀ j x, cu[j]? = some x → w2.cell? ⟨gv, 0 + j, none⟩ = some x) := HV2.out.cells
    clear HMU hr
    go_wp2_with (refine wpList_execW rfl (exec_valAt (g := gv) (off := 0) (cs := cu) rfl rfl HSU.out HVC2.out) ?_)
    refine (check6_any u w2 cu HV2.out.t (by have := HM.out; omega) (HTT.out.next HX2.out.l)).mono ?_
    rintro e w3 ⟨rfl, hb3⟩
    have HX3 := hide (HX2.out.next hb3)
    have HV3 := hide (HV2.out.next hb3)
    clear hb3 HX2 HV2 HVC2
    go_wp2_with fail
    refine (num8_any w3 _).mono ?_
    rintro e w9 ⟨rfl, hw9⟩
    have hw9 := hw9.symm
    subst hw9
    by_cases hc : chkf u 0 = 0
    case neg => as_aux_lemma =>
      have gc : (((chkf u 0 : Nat) : Int) != 0) = true := by rw [bne_iff_ne]; omega
      generalize chkf u 0 = E at *
      go_wp2_with fail
      go_roundw
      case rel => exact ⟨i + 1, by omega, by omega, by go_num, HX3⟩
      case measure => simp [intOf]; omega
    rw [hc]
    obtain ⟨s, hth, hsc⟩ := thr_ex HV3.out.t hc HM.out
    have HTH := hide hth
    have HSC := hide hsc
    have HCH := hide (chk7_0 (by have := HM.out; omega) hc)
    have HVC3 : Hid (∀ j x, cu[j]? = some x → w3.cell? ⟨gv, 0 + j, none⟩ = some x) := HV3.out.cells
    clear hth hsc hc HM
    go_wp2_with (refine wpList_exec rfl (exec_valAt (g := gv) (off := 0) (cs := cu) rfl rfl HSU.out HVC3.out) ?_)
    refine (encode_good w3 u s cu HCH.out HSC.out HTH.out.p (by have := HTH.out.l; omega) HV3.out.t (HTT.out.next HX3.out.l)).mono ?_
    rintro e w4 ⟨vb, rfl, ho4, hb4⟩
    have HX4 := hide (HX3.out.next hb4)
    have HV4 := hide (HV3.out.next hb4)
    have HB4 : Hid (Fm8 w4 vb (tfm s)) := ⟨BSl.own (by simpa using ho4) HTH.out.y, fun q hq => (ho4.lt q hq).2⟩
    have HVC4 : Hid (∀ j x, cu[j]? = some x → w4.cell? ⟨gv, 0 + j, none⟩ = some x) := HV4.out.cells
    clear ho4 hb4 HX3 HV3 HVC3 HCH
    go_wp2_with (refine wpList_exec rfl (exec_valAt (g := gv) (off := 0) (cs := cu) rfl rfl HSU.out HVC4.out) ?_)
    refine (depth_any u w4 cu HV4.out.t (by have := HTH.out.x; omega)).mono ?_
    rintro e w5 ⟨rfl, hb5⟩
    have HX5 := hide (HX4.out.next hb5)
    have HV5 := hide (HV4.out.next hb5)
    have HB5 := hide (HB4.out.next hb5)
    have HVC5 : Hid (∀ j x, cu[j]? = some x → w5.cell? ⟨gv, 0 + j, none⟩ = some x) := HV5.out.cells
    clear hb5 HX4 HV4 HVC4 HB4
    go_wp2_with (refine wpList_exec rfl (exec_valAt (g := gv) (off := 0) (cs := cu) rfl rfl HSU.out HVC5.out) ?_)
    refine (HSC.out w5 cu HV5.out.t).mono ?_
    rintro e w6 ⟨cs, rfl, ht6, hb6⟩
    have HX6 := hide (HX5.out.next hb6)
    have HB6 := hide (HB5.out.next hb6)
    have HT6 := hide ht6
    have HSS := hide ht6.size13
    have hmk := row_mk8 w6 zv cs 62
    have HG0 := hide (heap_alloc_new w6 (.cells zv 62))
    have HA1 := hide HT6.out.all1
    have HIN : Hid ((Tryz.prog.info? 62).map (·.size) = some cs.size) := by show _ = _; rw [HSS.out]; exact infoV
    have HZV : Hid (zv.size = cs.size) := by show _ = _; rw [HSS.out]; rfl
    have HX7 := hide (HX6.out.next hmk.1)
    have HB7 := hide (HB6.out.next hmk.1)
    have HS7 : Hid (Vv8 ((w6.alloc (.cells zv 62)).setRow w6.heap.size cs) w6.heap.size cs s) := ⟨hmk.2, HT6.out.move (keep_below hmk.1)⟩
    clear hmk hb6 ht6 HX5 HV5 HVC5 HB5 HSC
    go_upto_region 9 with (refine wpList_storeRow rfl rfl w6.heap.size zv cs 62 rfl rfl HG0.out HIN.out HZV.out HA1.out ?_)
    (try simp only [Act.put]); (try simp only [List.setIfInBounds_toArray, List.set_cons_zero, List.set_cons_succ])
    clear HG0 HIN HZV HA1 HX6 HB6 HT6
    unfold zv at HX7 HB7 HS7
    generalize (w6.alloc (.cells #[.int .i64 0, .bool false, .bool false, .int .u64 0, .int .u64 0, .string ⟨#[]⟩, .slice none 0 0, .int .i64 0, .int .u64 0, .int .u64 0, .string ⟨#[]⟩, .slice none 0 0, .slice none 0 0] 62)).setRow w6.heap.size cs = w7 at *
    generalize w6.heap.size = gs at *
    obtain ⟨N1, hN1⟩ := HTH.out.all (Nat.le_refl (tdepth u))
    have HDC := hide (decode8_any w HTT.out w7 HX7.out.l vb (tfm s) HB7.out.b HB7.out.q (by have := HTH.out.l; omega) (tdepth u) HTH.out.x _ _ hN1)
    clear hN1
    obtain ⟨dd, hdd⟩ : ∃ dd, dd = tdepth u := ⟨_, rfl⟩
    have HDD := hide hdd
    rw [← hdd] at HDC
    rw [← hdd]
    clear hdd
    go_wp2_with fail
    refine HDC.out.mono ?_
    rintro e w8 ⟨hb8, cx, rfl, ht8⟩
    rw [thr_dflt0 s] at ht8 ⊢
    simp only [if_true] at ht8
    have HX8 := hide (HX7.out.next hb8)
    have HB8 := hide (HB7.out.next hb8)
    have HS8 := hide (HS7.out.next hb8)
    have HT8 := hide ht8.tin
    clear hb8 ht8 HX7 HB7 HS7 HDC
    have hmk := two_mk8 w8 cx (fcs 0 0)
    have hF0 := two_new8 w8
    have HN5 := hide hF0.r
    have HN6 := hide (hF0.setR cx).f
    have HC13 := hide HT8.out.size13
    have HI5 : Hid ((Tryz.prog.info? 62).map (·.size) = some cx.size) := by show _ = _; rw [HC13.out]; exact infoV
    have HZ5 : Hid (zv.size = cx.size) := by show _ = _; rw [HC13.out]; rfl
    have HA5 := hide HT8.out.all1
    have HIF : Hid ((Tryz.prog.info? 72).map (·.size) = some (fcs 0 0).size) := infoF8
    have HAF := hide (fcs_all 0 0)
    have HX9 := hide (HX8.out.next hmk.1)
    have HB9 := hide (HB8.out.next hmk.1)
    have HS9 := hide (HS8.out.next hmk.1)
    have HV9 : Hid (Vv8 ((((w8.alloc (.cells zv 62)).alloc (.cells zf 72)).setRow w8.heap.size cx).setRow (w8.heap.size + 1) (fcs 0 0)) w8.heap.size cx s) := ⟨hmk.2.1, HT8.out.move (keep_below hmk.1)⟩
    have HF9 := hide hmk.2.2
    clear hmk hF0 HT8 HX8 HB8 HS8
    unfold zv zf at HX9 HB9 HS9 HV9 HF9
    go_upto_region 10 with (first
      | (refine wpList_storeRow rfl rfl w8.heap.size zv cx 62 rfl rfl HN5.out HI5.out HZ5.out HA5.out ?_)
      | (refine wpList_storeRow rfl rfl (w8.heap.size + 1) zf (fcs 0 0) 72 rfl rfl HN6.out HIF.out rfl HAF.out ?_))
    (try simp only [Act.put]); (try simp only [List.setIfInBounds_toArray, List.set_cons_zero, List.set_cons_succ])
    clear HN5 HN6 HI5 HZ5 HA5 HIF HAF
    generalize (((w8.alloc (.cells #[.int .i64 0, .bool false, .bool false, .int .u64 0, .int .u64 0, .string ⟨#[]⟩, .slice none 0 0, .int .i64 0, .int .u64 0, .int .u64 0, .string ⟨#[]⟩, .slice none 0 0, .slice none 0 0] 62)).alloc (.cells #[.int .i64 0, .int .i64 0] 72)).setRow w8.heap.size cx).setRow (w8.heap.size + 1) (fcs 0 0) = wa at *
    generalize w8.heap.size = gx at *
    go_wp2_with fail
    refine (num8_any wa _).mono ?_
    rintro e w9 ⟨rfl, hw9⟩
    have hw9 := hw9.symm
    subst hw9
    have HVCa : Hid (∀ j x, cx[j]? = some x → wa.cell? ⟨gx, 0 + j, none⟩ = some x) := HV9.out.cells
    have HSCa : Hid (∀ j x, cs[j]? = some x → wa.cell? ⟨gs, 0 + j, none⟩ = some x) := HS9.out.cells
    go_wp2_with (first
      | (refine wpList_execW rfl (exec_fltAt (g := gx + 1) (c := fcs 0 0) rfl rfl rfl HF9.out) ?_)
      | (refine wpList_execW rfl (exec_neflt (e := 0) (p := 0) (e' := 0) (p' := 0) rfl rfl rfl) ?_)
      | (refine wpList_execW rfl (exec_valAt (g := gx) (off := 0) (cs := cx) rfl rfl HC13.out HVCa.out) ?_)
      | (refine wpList_execW rfl (exec_valAt (g := gs) (off := 0) (cs := cs) rfl rfl HSS.out HSCa.out) ?_))
    refine (rd8_eq s wa cx cs HV9.out.t HS9.out.t).mono ?_
    rintro e wb ⟨rfl, hbb⟩
    have HXb := hide (HX9.out.next hbb)
    have HBb := hide (HB9.out.next hbb)
    have HSb := hide (HS9.out.next hbb)
    clear hbb HX9 HB9 HS9 HV9 HF9 HVCa HSCa
    go_wp2_with fail
    have HBG := hide (begs8_any w HTT.out wb HXb.out.l vb u s HTH.out HBb.out.b HBb.out.q)
    rw [← HDD.out] at HBG
    refine HBG.out.mono ?_
    rintro e w11 ⟨rfl, hbc⟩
    have HX11 := hide (HXb.out.next hbc)
    have HB11 := hide (HBb.out.next hbc)
    have HS11 := hide (HSb.out.next hbc)
    clear hbc HXb HBb HSb HBG HC13
    go_upto_if 85 with fail
    go_cut [11, 12] from 19 to 143 (fun _ _ wx => Hid (Rth w wx (.slice (some ⟨bV, oV, none⟩) is.length cV) (.slice aT ts.length cT)) ∧ Hid (Fm8 wx vb (tfm s)) ∧ Hid (Vv8 wx gs cs s))
    case first =>
      by_cases hd0 : dd = 0
      · as_aux_lemma =>
        have g4 : ¬ (0 : Int) < (dd : Int) := by omega
        clear hd0
        go_wp2_with fail
        go_meet
        case rel => exact ⟨HX11, HB11, HS11⟩
      · as_aux_lemma =>
        have g4 : (0 : Int) < (dd : Int) := by omega
        obtain ⟨R, hR⟩ := mrun_some (tfm s) HTH.out.y (dd - 1)
        have H81 := hide (HTH.out.deep (e := dd - 1) (by have := HDD.out; omega) hR)
        have HDE := hide (decode8_any w HTT.out w11 HX11.out.l vb (tfm s) HB11.out.b HB11.out.q (by have := HTH.out.l; omega) (dd - 1) (by have := HDD.out; have := HTH.out.x; omega) _ R hR)
        have e2 : IntKind.i64.wrap ((dd : Int) - 1) = ((dd - 1 : Nat) : Int) := by have := HDD.out; have := HTH.out.x; rw [IntKind.wrap_i64]; omega
        obtain ⟨de, hde⟩ : ∃ de, de = dd - 1 := ⟨_, rfl⟩
        rw [← hde] at HDE e2
        clear hR hd0 hde
        go_wp2_with fail
        refine HDE.out.mono ?_
        rintro e w12 ⟨hb12, cy, rfl, hty⟩
        rw [H81.out] at hty ⊢
        rw [if_neg (by decide)] at hty
        generalize (dflt (tfm s) R).2 = P at *
        have HX12 := hide (HX11.out.next hb12)
        have HB12 := hide (HB11.out.next hb12)
        have HS12 := hide (HS11.out.next hb12)
        have HT12 := hide hty.tin
        clear hb12 hty HX11 HB11 HS11 HDE H81
        have hmk := two_mk8 w12 cy (fcs 81 P)
        have hF0 := two_new8 w12
        have HN5 := hide hF0.r
        have HN6 := hide (hF0.setR cy).f
        have HC13 := hide HT12.out.size13
        have HI5 : Hid ((Tryz.prog.info? 62).map (·.size) = some cy.size) := by show _ = _; rw [HC13.out]; exact infoV
        have HZ5 : Hid (zv.size = cy.size) := by show _ = _; rw [HC13.out]; rfl
        have HA5 := hide HT12.out.all1
        have HIF : Hid ((Tryz.prog.info? 72).map (·.size) = some (fcs 81 P).size) := infoF8
        have HAF := hide (fcs_all 81 P)
        have HX13 := hide (HX12.out.next hmk.1)
        have HB13 := hide (HB12.out.next hmk.1)
        have HS13 := hide (HS12.out.next hmk.1)
        have HV13 : Hid (Vv8 ((((w12.alloc (.cells zv 62)).alloc (.cells zf 72)).setRow w12.heap.size cy).setRow (w12.heap.size + 1) (fcs 81 P)) w12.heap.size cy (tz8 0)) := ⟨hmk.2.1, HT12.out.move (keep_below hmk.1)⟩
        have HF13 := hide hmk.2.2
        clear hmk hF0 HT12 HX12 HB12 HS12
        unfold zv zf at HX13 HB13 HS13 HV13 HF13
        go_upto_region 14 with (first
          | (refine wpList_storeRow rfl rfl w12.heap.size zv cy 62 rfl rfl HN5.out HI5.out HZ5.out HA5.out ?_)
          | (refine wpList_storeRow rfl rfl (w12.heap.size + 1) zf (fcs 81 P) 72 rfl rfl HN6.out HIF.out rfl HAF.out ?_))
        (try simp only [Act.put]); (try simp only [List.setIfInBounds_toArray, List.set_cons_zero, List.set_cons_succ])
        clear HN5 HN6 HI5 HZ5 HA5 HIF HAF
        generalize (((w12.alloc (.cells #[.int .i64 0, .bool false, .bool false, .int .u64 0, .int .u64 0, .string ⟨#[]⟩, .slice none 0 0, .int .i64 0, .int .u64 0, .int .u64 0, .string ⟨#[]⟩, .slice none 0 0, .slice none 0 0] 62)).alloc (.cells #[.int .i64 0, .int .i64 0] 72)).setRow w12.heap.size cy).setRow (w12.heap.size + 1) (fcs 81 P) = w13 at *
        generalize w12.heap.size = gy at *
        have c0 : w13.cell? ⟨gy + 1, 0, none⟩ = some (.int .i64 81) := blk_cell (j := 0) HF13.out rfl
        have HVC : Hid (∀ j x, cy[j]? = some x → w13.cell? ⟨gy, 0 + j, none⟩ = some x) := HV13.out.cells
        go_wp2_with fail
        refine (num8_any w13 _).mono ?_
        rintro e w9 ⟨rfl, hw9⟩
        have hw9 := hw9.symm
        subst hw9
        go_wp2_with (refine wpList_execW rfl (exec_valAt (g := gy) (off := 0) (cs := cy) rfl rfl HC13.out HVC.out) ?_)
        refine (rd8_eq (tz8 0) w13 cy _ HV13.out.t (tz8_tis _ (fun _ => False)).tin).mono ?_
        rintro e w14 ⟨rfl, hb14⟩
        have HX14 := hide (HX13.out.next hb14)
        have HB14 := hide (HB13.out.next hb14)
        have HS14 := hide (HS13.out.next hb14)
        clear hb14 HX13 HB13 HS13 HV13 HF13 c0 HVC
        go_wp2_with fail
        go_meet
        case rel => exact ⟨HX14, HB14, HS14⟩
    case rest =>
    obtain ⟨HX12, HB12, HS12⟩ := hcut
    clear HX11 HB11 HS11
    have q1 : wc.cell? ⟨w.heap.size, 1, none⟩ = some (.slice aT ts.length cT) := blk_cell (j := 1) HX12.out.t rfl
    go_wp2_with fail
    refine (head_any wc _ ts (HTL.out.move (keep_below HX12.out.l))).mono ?_
    rintro e w13 ⟨vt, rfl, hbt, hw13⟩
    have hw13 := hw13.symm
    subst hw13
    have HBT := hide hbt
    have HLT : Hid ((ts.take 1048576).length ≤ 1048576) := by show _ ≤ _; rw [List.length_take]; omega
    clear hbt q1
    generalize ts.take 1048576 = tl at *
    have HLS := hide HTH.out.l
    have HB0 := hide (below_alloc4 wc (.cells #[] 5))
    have HOE := hide (own_empty8 wc)
    have HBE := hide (HB12.out.b.move (keep_below HB0.out))
    go_wp2_with (at_builtin; refine append_bsl rfl _ _ rfl wc.heap.size _ 0 [] rfl HOE.out _ (tfm s) rfl HBE.out ?b1 ?b2 ?_)
    case b1 => have := HLS.out; omega
    case b2 => exact HB0.out.size
    intro v14 w14 ho14 hg14
    have hb14 : Below wc.heap.size wc w14 := HB0.out.grown hg14 HB0.out.size (fun q hq => Nat.le_of_eq (Option.some.inj (show some wc.heap.size = some q from hq)))
    have HO14 := hide ho14
    have HB14 := hide hb14
    have HT14 := hide (HBT.out.move (keep_below hb14))
    clear ho14 hg14 hb14 HBE HOE HB0
    go_wp2_with (at_builtin; refine append_bsl rfl _ _ rfl wc.heap.size _ (tfm s).length (tfm s) rfl HO14.out _ tl rfl HT14.out ?b1 ?b2 ?_)
    case b1 => have := HLS.out; have := HLT.out; omega
    case b2 => exact HB14.out.size
    intro v15 w15 ho15 hg15
    have hb15 : Below wc.heap.size wc w15 := HB14.out.grown hg15 HB14.out.size (fun q hq => (HO14.out.lt q hq).1)
    have HX15 := hide (HX12.out.next hb15)
    have HB15 := hide (HB12.out.next hb15)
    have HS15 := hide (HS12.out.next hb15)
    have HTB : Hid (∀ x ∈ tfm s ++ tl, x < 256) := fun x hx => by
      rcases List.mem_append.1 hx with h | h
      · exact HTH.out.y x h
      · exact HBT.out.byte x h
    have HA15 : Hid (Fm8 w15 v15 (tfm s ++ tl)) := ⟨BSl.own ho15 HTB.out, own_bq ho15⟩
    have HT15 := hide (HBT.out.move (keep_below hb15))
    clear ho15 hg15 hb15 HO14 HB14 HT14 HX12 HB12 HS12 HBT
    obtain ⟨N2, hN2⟩ := HTH.out.read HTH.out.x tl
    have HFI := hide (first8_any w HTT.out w15 HX15.out.l v15 (tfm s ++ tl) HA15.out.b HA15.out.q (by rw [List.length_append]; have := HLS.out; have := HLT.out; omega) 1024 (by omega) _ _ hN2)
    clear hN2
    go_wp2_with fail
    refine HFI.out.mono ?_
    rintro e w16 ⟨hb16, cz, rfl, htz⟩
    simp only [if_true] at htz ⊢
    have HX16 := hide (HX15.out.next hb16)
    have HB16 := hide (HB15.out.next hb16)
    have HS16 := hide (HS15.out.next hb16)
    have HA16 := hide (HA15.out.next hb16)
    have HTL16 := hide (HT15.out.move (keep_below hb16))
    have HT16 := hide htz.tin
    clear hb16 htz HX15 HB15 HS15 HA15 HFI HT15
    have hmk := two_mk8 w16 cz (fcs 0 0)
    have hF0 := two_new8 w16
    have HN5 := hide hF0.r
    have HN6 := hide (hF0.setR cz).f
    have HC13 := hide HT16.out.size13
    have HI5 : Hid ((Tryz.prog.info? 62).map (·.size) = some cz.size) := by show _ = _; rw [HC13.out]; exact infoV
    have HZ5 : Hid (zv.size = cz.size) := by show _ = _; rw [HC13.out]; rfl
    have HA5 := hide HT16.out.all1
    have HIF : Hid ((Tryz.prog.info? 72).map (·.size) = some (fcs 0 0).size) := infoF8
    have HAF := hide (fcs_all 0 0)
    have HX17 := hide (HX16.out.next hmk.1)
    have HB17 := hide (HB16.out.next hmk.1)
    have HS17 := hide (HS16.out.next hmk.1)
    have HA17 := hide (HA16.out.next hmk.1)
    have HV17 : Hid (Vv8 ((((w16.alloc (.cells zv 62)).alloc (.cells zf 72)).setRow w16.heap.size cz).setRow (w16.heap.size + 1) (fcs 0 0)) w16.heap.size cz s) := ⟨hmk.2.1, HT16.out.move (keep_below hmk.1)⟩
    have HF17 := hide hmk.2.2
    have HTL17 := hide (HTL16.out.move (keep_below hmk.1))
    clear hmk hF0 HT16 HX16 HB16 HS16 HA16 HTL16
    unfold zv zf at HX17 HB17 HS17 HV17 HF17 HA17 HTL17
    go_upto_region 19 with (first
      | (refine wpList_storeRow rfl rfl w16.heap.size zv cz 62 rfl rfl HN5.out HI5.out HZ5.out HA5.out ?_)
      | (refine wpList_storeRow rfl rfl (w16.heap.size + 1) zf (fcs 0 0) 72 rfl rfl HN6.out HIF.out rfl HAF.out ?_))
    (try simp only [Act.put]); (try simp only [List.setIfInBounds_toArray, List.set_cons_zero, List.set_cons_succ])
    clear HN5 HN6 HI5 HZ5 HA5 HIF HAF
    generalize (((w16.alloc (.cells #[.int .i64 0, .bool false, .bool false, .int .u64 0, .int .u64 0, .string ⟨#[]⟩, .slice none 0 0, .int .i64 0, .int .u64 0, .int .u64 0, .string ⟨#[]⟩, .slice none 0 0, .slice none 0 0] 62)).alloc (.cells #[.int .i64 0, .int .i64 0] 72)).setRow w16.heap.size cz).setRow (w16.heap.size + 1) (fcs 0 0) = w17 at *
    generalize w16.heap.size = gz at *
    obtain ⟨av, cv, hvb⟩ : ∃ av cv, vb = .slice av (tfm s).length cv := by
      obtain ⟨⟨av, cv, h, _⟩, _⟩ := HB17.out.b
      exact ⟨av, cv, h⟩
    subst hvb
    obtain ⟨at', ct, hvt⟩ : ∃ at' ct, vt = .slice at' tl.length ct := by
      obtain ⟨⟨av, cv, h, _⟩, _⟩ := HTL17.out
      exact ⟨av, cv, h⟩
    subst hvt
    have HVCa : Hid (∀ j x, cz[j]? = some x → w17.cell? ⟨gz, 0 + j, none⟩ = some x) := HV17.out.cells
    have HSCa : Hid (∀ j x, cs[j]? = some x → w17.cell? ⟨gs, 0 + j, none⟩ = some x) := HS17.out.cells
    go_wp2_with (first
      | (refine wpList_execW rfl (exec_fltAt (g := gz + 1) (c := fcs 0 0) rfl rfl rfl HF17.out) ?_)
      | (refine wpList_execW rfl (exec_neflt (e := 0) (p := 0) (e' := 0) (p' := 0) rfl rfl rfl) ?_)
      | (refine wpList_execW rfl (exec_valAt (g := gz) (off := 0) (cs := cz) rfl rfl HC13.out HVCa.out) ?_)
      | (refine wpList_execW rfl (exec_valAt (g := gs) (off := 0) (cs := cs) rfl rfl HSS.out HSCa.out) ?_))
    refine (rd8_eq s w17 cz cs HV17.out.t HS17.out.t).mono ?_
    rintro e w18 ⟨rfl, hb18⟩
    have HX18 := hide (HX17.out.next hb18)
    have HB18 := hide (HB17.out.next hb18)
    have HA18 := hide (HA17.out.next hb18)
    clear hb18 HX17 HB17 HS17 HV17 HF17 HA17 HVCa HSCa HC13 HTL17
    have hmk := one_mk8 w18 (fcs 0 0)
    have HN4 := hide (heap_alloc_new w18 (.cells zf 72))
    have HI4 : Hid ((Tryz.prog.info? 72).map (·.size) = some (fcs 0 0).size) := infoF8
    have HA4 := hide (fcs_all 0 0)
    have HX19 := hide (HX18.out.next hmk.1)
    have HA19 := hide (HA18.out.next hmk.1)
    have HF19 := hide hmk.2
    have HKX : Hid (∀ wy : World, Kp (fun q => q = w18.heap.size) ((w18.alloc (.cells zf 72)).setRow w18.heap.size (fcs 0 0)) wy → Rth w wy (.slice (some ⟨bV, oV, none⟩) is.length cV) (.slice aT ts.length cT) ∧ Fm8 wy v15 (tfm s ++ tl)) := fun wy hk => by
      have hb : Below w18.heap.size w18 wy := hmk.1.trans (hk.below hmk.1.size (fun q e => Nat.le_of_eq e.symm))
      exact ⟨HX18.out.next hb, HA18.out.next hb⟩
    clear hmk HX18 HA18 HB18
    unfold zf at HX19 HA19 HF19 HKX
    go_upto_region 22 with (refine wpList_storeRow rfl rfl w18.heap.size zf (fcs 0 0) 72 rfl rfl HN4.out HI4.out rfl HA4.out ?_)
    (try simp only [List.setIfInBounds_toArray, List.set_cons_zero, List.set_cons_succ])
    generalize (w18.alloc (.cells #[.int .i64 0, .int .i64 0] 72)).setRow w18.heap.size (fcs 0 0) = w19 at *
    clear HN4 HI4 HA4
    generalize w18.heap.size = gl at *
    obtain ⟨N3, hN3⟩ := HTH.out.read (Nat.le_refl (tdepth u)) tl
    rw [← HDD.out] at hN3
    have HD4 : Hid (dd ≤ 1024) := by show _ ≤ _; rw [HDD.out]; exact HTH.out.x
    have HRR := hide hN3
    have HDF := hide (thr_dflt s tl)
    clear hN3
    have HLD := hide HTH.out.l
    clear HTH HSS
    have HBL : Hid ((tfm s ++ tl).length ≤ 8388608) := by show _ ≤ _; rw [List.length_append]; have := HLS.out; have := HLT.out; omega
    by_cases h0 : tl.length = 0
    · as_aux_lemma =>
      have g5 : ¬ (0 : Int) < (tl.length : Int) := by omega
      have g6 : decide (0 < tl.length) = false := decide_eq_false (by omega)
      have HDG := HDF.out
      rw [if_pos h0] at HDG
      have HCH := fun (wy : World) (hy : Below w19.heap.size w19 wy) => check8_any w HTT.out wy ((HX19.out.next hy).l) v15 (tfm s ++ tl) (HA19.out.next hy).b (HA19.out.next hy).q HBL.out dd HD4.out _ _ HRR.out
      rw [HDG] at HCH
      have HCH2 := hide HCH
      clear HCH HDG h0
      go_upto_region 24 with fail
      refine heldStart (S := fun wy => Below w19.heap.size w19 wy) (by kernel_rfl) ?_
      have hS : Below w19.heap.size w19 w19.drew := (Below.refl _ _).drew
      refine heldTake 0 _ rfl (by kernel_rfl) (by kernel_rfl) (by kernel_rfl) (fun _ _ _ h => h) rfl hS (fun wy hy => by first | (go_simp; done) | (go_simp; rfl) | rfl) ?_
      (try simp only [Act.put]); (try simp only [List.setIfInBounds_toArray, List.set_cons_zero, List.set_cons_succ])
      refine heldTake 1 _ rfl (by kernel_rfl) (by kernel_rfl) (by kernel_rfl) (fun _ _ _ h => h) rfl hS (fun wy hy => by first | (go_simp; done) | (go_simp; rfl) | rfl) ?_
      (try simp only [Act.put]); (try simp only [List.setIfInBounds_toArray, List.set_cons_zero, List.set_cons_succ])
      refine heldTake 3 _ rfl (by kernel_rfl) (by kernel_rfl) (by kernel_rfl) (fun _ _ _ h => h) rfl hS (fun wy hy => exec_fltAt (g := gl) (c := fcs 0 0) rfl rfl rfl ((hy.block _ (blk_lt HF19.out)).trans HF19.out)) ?_
      (try simp only [Act.put]); (try simp only [List.setIfInBounds_toArray, List.set_cons_zero, List.set_cons_succ])
      refine heldStep 2 rfl (by kernel_rfl) (fun K hK => ?_)
      go_simp
      refine (HCH2.out _ hS).mono ?_
      rintro e wn ⟨hbn, rfl⟩
      refine (Hid.out hK) _ _ (hS.trans (hbn.mono hS.size)) (fun hS2 => ?_)
      clear hK K hS
      have hS := hS2
      clear hS2
      (try simp only)
      clear hbn
      refine heldTake 4 _ rfl (by kernel_rfl) (by kernel_rfl) (by kernel_rfl) (fun _ _ _ h => h) rfl hS (fun wy hy => exec_neflt (e := 0) (p := 0) (e' := 0) (p' := 0) rfl rfl rfl) ?_
      (try simp only [Act.put]); (try simp only [List.setIfInBounds_toArray, List.set_cons_zero, List.set_cons_succ])
      refine heldDone (by kernel_rfl) ?_
      go_wp2_with fail
      exact ⟨⟨i + 1, by omega, by omega, by simp, HX19.out.next hS⟩, by simp [intOf]; omega⟩
    · as_aux_lemma =>
      have g5 : (0 : Int) < (tl.length : Int) := by omega
      have g6 : decide (0 < tl.length) = true := decide_eq_true (by omega)
      have HDG := HDF.out
      rw [if_neg h0] at HDG
      have HIF : Hid ((Tryz.prog.info? 72).map (·.size) = some (fcs 85 (tfm s).length).size) := infoF8
      have HAF := hide (fcs_all 85 (tfm s).length)
      have HB20 : Hid (Kp (fun q => q = gl) w19 (w19.setRow gl (fcs 85 (tfm s).length))) := row_kp w19 gl _
      have HF20 : Hid ((w19.setRow gl (fcs 85 (tfm s).length)).heap[gl]? = some (.cells (fcs 85 (tfm s).length) 72 (0, 0))) := row_same HF19.out
      have HX20 := hide (HKX.out _ HB20.out)
      have HCH2 : Hid (∀ wy : World, Below (w19.setRow gl (fcs 85 (tfm s).length)).heap.size (w19.setRow gl (fcs 85 (tfm s).length)) wy → Calls Tryz.prog 25 #[v15, .int .i64 (dd : Nat)] wy (ChkP8 wy 85 (tfm s).length)) := fun wy hy => by
        have h := check8_any w HTT.out wy ((HX20.out.1.next hy).l) v15 (tfm s ++ tl) (HX20.out.2.next hy).b (HX20.out.2.next hy).q HBL.out dd HD4.out _ _ HRR.out
        rw [HDG] at h
        exact h
      clear h0 HDG HB20
      go_upto_region 24 with (refine wpList_storeRow rfl rfl gl (fcs 0 0) (fcs 85 (tfm s).length) 72 rfl rfl HF19.out HIF.out rfl HAF.out ?_)
      (try simp only [List.setIfInBounds_toArray, List.set_cons_zero, List.set_cons_succ])
      generalize w19.setRow gl (fcs 85 (tfm s).length) = w20 at *
      refine heldStart (S := fun wy => Below w20.heap.size w20 wy) (by kernel_rfl) ?_
      have hS : Below w20.heap.size w20 w20.drew := (Below.refl _ _).drew
      refine heldTake 0 _ rfl (by kernel_rfl) (by kernel_rfl) (by kernel_rfl) (fun _ _ _ h => h) rfl hS (fun wy hy => by first | (go_simp; done) | (go_simp; rfl) | rfl) ?_
      (try simp only [Act.put]); (try simp only [List.setIfInBounds_toArray, List.set_cons_zero, List.set_cons_succ])
      refine heldTake 1 _ rfl (by kernel_rfl) (by kernel_rfl) (by kernel_rfl) (fun _ _ _ h => h) rfl hS (fun wy hy => by first | (go_simp; done) | (go_simp; rfl) | rfl) ?_
      (try simp only [Act.put]); (try simp only [List.setIfInBounds_toArray, List.set_cons_zero, List.set_cons_succ])
      refine heldTake 3 _ rfl (by kernel_rfl) (by kernel_rfl) (by kernel_rfl) (fun _ _ _ h => h) rfl hS (fun wy hy => exec_fltAt (g := gl) (c := fcs 85 (tfm s).length) rfl rfl rfl ((hy.block _ (blk_lt HF20.out)).trans HF20.out)) ?_
      (try simp only [Act.put]); (try simp only [List.setIfInBounds_toArray, List.set_cons_zero, List.set_cons_succ])
      refine heldStep 2 rfl (by kernel_rfl) (fun K hK => ?_)
      go_simp
      refine (HCH2.out _ hS).mono ?_
      rintro e wn ⟨hbn, rfl⟩
      refine (Hid.out hK) _ _ (hS.trans (hbn.mono hS.size)) (fun hS2 => ?_)
      clear hK K hS
      have hS := hS2
      clear hS2
      (try simp only [Act.put]); (try simp only [List.setIfInBounds_toArray, List.set_cons_zero, List.set_cons_succ])
      clear hbn
      refine heldTake 4 _ rfl (by kernel_rfl) (by kernel_rfl) (by kernel_rfl) (fun _ _ _ h => h) rfl hS (fun wy hy => exec_neflt (e := 85) (p := (tfm s).length) (e' := 85) (p' := (tfm s).length) rfl rfl rfl) ?_
      (try simp only [Act.put]); (try simp only [List.setIfInBounds_toArray, List.set_cons_zero, List.set_cons_succ])
      refine heldDone (by kernel_rfl) ?_
      (try simp only [decide_true, and_self, Bool.not_true])
      go_wp2_with fail
      exact ⟨⟨i + 1, by omega, by omega, by simp, HX20.out.1.next hS⟩, by simp [intOf]; omega⟩
end
end Go.Proofs.YtadilnmkjcmnnaaGreatDoor

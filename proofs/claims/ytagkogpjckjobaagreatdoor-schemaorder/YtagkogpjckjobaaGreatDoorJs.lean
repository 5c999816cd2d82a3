import Derived.Test.YtagkogpjckjobaaGreatDoorJo
import Derived.Test.YtagkogpjckjobaaGreatDoorJp
import Derived.Test.YtagkogpjckjobaaGreatDoorJr
import Derived.Test.YtagkogpjckjobaaGreatDoorJl
import Derived.Test.YtagkogpjckjobaaGreatDoorJa
import Derived.Test.YtagkogpjckjobaaGreatDoorJc
import Derived.Test.YtagkogpjckjobaaGreatDoorJb
import Derived.SliceStrings
import Derived.Test.YtagkogpjckjobaaGreatDoorJi
import Derived.Test.YtagkogpjckjobaaGreatDoorRows
import Derived.Lib.LaidU8T
import Derived.Lib.LaidIn
namespace Go.Proofs.YtagkogpjckjobaaGreatDoor
section
open Go.RowKit Go
set_option maxRecDepth 1000000 in
set_option maxHeartbeats 8000000 in
theorem sorder_any (w : World) (hT : Tabs w) (hO : Otb w) (vL : Value) (m : Int) (c2 c3 c4 c5 c6 c7 c8 c9 c10 : Value) (l0 : List Tp) (hv : TSl w vL l0) (M : Tp) (hM : Tpi w M #[c2, c3, c4, c5, c6, c7, c8, c9, c10]) (hMf : M.fs.length ≤ 2199023255552) (hMc : M.cs.length ≤ 4398046511104) (hMw : M.ws.length ≤ 8796093022208) : Calls Tryz.prog 3 #[.agg #[vL, .int .i64 m, c2, c3, c4, c5, c6, c7, c8, c9, c10]] w fun e w' => e = .returned (.bool true) ∧ Below w.heap.size w w' := by
  have HT : Hid (∀ wy, Below w.heap.size w wy → Tabs wy) := fun wy hb => hT.next hb
  have HO : Hid (∀ wy, Below w.heap.size w wy → Otb wy) := fun wy hb => hO.next (keep_below hb)
  have HNU := hide (fun n W => num11_any n W)
  have HBG : Hid (∀ wy, Below w.heap.size w wy → Calls Tryz.prog 4 #[] wy fun e w' => e = .returned (.bool true) ∧ Below wy.heap.size wy w') := fun wy hb => begun11_any wy (HT.out wy hb) (HO.out wy hb)
  have HV := hide hv
  have HM := hide hM
  have HMB : Hid (M.fs.length ≤ 2199023255552 ∧ M.cs.length ≤ 4398046511104 ∧ M.ws.length ≤ 8796093022208) := ⟨hMf, hMc, hMw⟩
  have HIT := hide infoTp
  have HAT : Hid (∀ w, (isAgg 29).run Tryz.prog w = .ok true w) := aggTp
  have hb1 := below_alloc4 w (.cells #[vL, .int .i64 m, c2, c3, c4, c5, c6, c7, c8, c9, c10] 31)
  have HB1 := hide hb1
  have HX1 := hide (heap_alloc_new w (.cells #[vL, .int .i64 m, c2, c3, c4, c5, c6, c7, c8, c9, c10] 31))
  clear hT hO hv hb1 hM hMf hMc hMw
  go_enter Tryz.func3, Tryz.ntmps3
  go_upto_region 1 with fail
  generalize w.alloc (.cells #[vL, .int .i64 m, c2, c3, c4, c5, c6, c7, c8, c9, c10] 31) = w1 at *
  go_wp2_with fail
  refine (HBG.out w1 HB1.out).mono ?_
  rintro e w2 ⟨rfl, hb2⟩
  have H2 := hide hb2
  have HB2 : Hid (Below w.heap.size w w2) := HB1.out.trans (hb2.mono HB1.out.size)
  have q0 : w2.cell? ⟨w.heap.size, 0, none⟩ = some vL := blk_cell (j := 0) ((hb2.block _ (blk_lt HX1.out)).trans HX1.out) rfl
  clear hb2
  go_wp2_with fail
  refine (cut11_any w2 vL l0 (HV.out.mv (keep_below HB2.out))).mono ?_
  rintro e w3 ⟨v3, rfl, hP⟩
  have HB3 : Hid (Below w.heap.size w w3) := HB2.out.trans (hP.out.2.mono HB2.out.size)
  have H3 : Hid (Below w1.heap.size w1 w3) := H2.out.trans (hP.out.2.mono H2.out.size)
  have HL3 := hide hP.out.1
  obtain ⟨⟨a3, k3, hv3, _, _⟩, _⟩ := hP.out.1
  subst hv3
  have HSH := hide (cut_shrt l0)
  have HCL := hide (cut_len l0)
  generalize cutL l0 = l at *
  clear hP HV q0 HB2 H2
  go_wp2_with fail
  refine (copyTs_any w3 _ l HL3.out HSH.out (by have := HCL.out; omega)).mono ?_
  rintro e w4 ⟨v4, rfl, hP⟩
  have HB4 : Hid (Below w.heap.size w w4) := HB3.out.trans (hP.out.2.mono HB3.out.size)
  have H4 : Hid (Below w1.heap.size w1 w4) := H3.out.trans (hP.out.2.mono H3.out.size)
  have HL4 := hide (HL3.out.mv (keep_below hP.out.2))
  have HC4 := hide (open_any w4 (HT.out w4 HB4.out) (HO.out w4 HB4.out) v4 l hP.out.1 HSH.out)
  obtain ⟨⟨a4, k4, hv4, _, _⟩, _⟩ := hP.out.1
  subst hv4
  clear hP HL3 HB3 H3
  go_wp2_with fail
  refine HC4.out.mono ?_
  rintro e w5 ⟨⟨vp, rfl, hnil, hok⟩, hb5⟩
  have HB5 : Hid (Below w.heap.size w w5) := HB4.out.trans (hb5.mono HB4.out.size)
  have H45 := hide hb5
  have HOK := hide hok
  have HNL := hide hnil
  clear HC4 hb5 hok hnil
  obtain ⟨E, hE⟩ : ∃ E, E = (chk11 l).1 := ⟨_, rfl⟩
  rw [← hE]
  rw [← hE] at HOK HNL
  have HE := hide hE
  clear hE
  by_cases hE0 : E = 0
  rotate_left
  · have gE : ((E : Int) != 0) = true := by rw [bne_iff_ne]; omega
    have hvp := HNL.out hE0
    subst hvp
    clear hE0 HOK HNL HE
    go_wp2_with (first
      | (go_at_call 8
         refine (HNU.out _ _).mono ?_
         rintro e w6 ⟨rfl, rfl⟩)
      | (go_at_call 4
         refine (HBG.out _ HB5.out).mono ?_
         rintro e w7 ⟨rfl, hb7⟩
         have HB7 : Hid (Below w.heap.size w w7) := HB5.out.trans (hb7.mono HB5.out.size)
         clear hb7))
    go_ret
    exact ⟨rfl, HB7.out⟩
  have gE : ((E : Int) != 0) = false := by rw [hE0]; rfl
  obtain ⟨gt, hvp, hgt, htb⟩ := HOK.out hE0
  subst hvp
  have HOL : Hid (Okl l) := okl_of (by rw [← HE.out]; exact hE0)
  have HS5 : Hid (Spk w4 w5 w4.heap.size w5.heap.size gt l w5) := ⟨Tst.of htb hgt, Kp.refl _ _, H45.out⟩
  have H64 : Hid (l.length ≤ 64) := by have := HOL.out.m; show _ ≤ _; omega
  clear hE0 HOK HNL HE htb
  go_wp2_with (first
    | (go_at_call 8
       refine (HNU.out _ _).mono ?_
       rintro e wq ⟨rfl, hwq⟩
       have hwq := hwq.symm
       subst hwq))
  refine (tst_names HS5.out.t (HO.out w5 HB5.out) H64.out (tsl_n HL4.out)).mono ?_
  rintro e w6 ⟨gb, cb, rfl, hP⟩
  have HG6 : Hid (w5.heap.size ≤ gb ∧ gb < w6.heap.size) := hP.out.2.2
  have HN6 := hide hP.out.1
  have HS6 := hide (HS5.out.next hP.out.2.1).base
  have HBW : Hid (∀ wy, Below w4.heap.size w4 wy → Below w.heap.size w wy) := fun wy hy => HB4.out.trans (hy.mono HB4.out.size)
  have HB1W : Hid (∀ wy, Below w4.heap.size w4 wy → Below w1.heap.size w1 wy) := fun wy hy => H4.out.trans (hy.mono H4.out.size)
  have HP1 : Hid (∀ wy, Below w4.heap.size w4 wy → wy.heap[w.heap.size]? = some (.cells #[vL, .int .i64 m, c2, c3, c4, c5, c6, c7, c8, c9, c10] 31 (0, 0))) := fun wy hy => ((HB1W.out wy hy).block _ (blk_lt HX1.out)).trans HX1.out
  have HGT : Hid (gt < w5.heap.size) := HS5.out.lt
  obtain ⟨ns, hns⟩ : ∃ ns, ns = nms l := ⟨_, rfl⟩
  rw [← hns] at HN6 ⊢
  have HNL : Hid (ns.length = l.length + 9) := by show _ = _; rw [hns]; exact nms_len l
  have HNR : Hid (∀ (i : Nat) (s t : ByteArray), ns[i]? = some s → ns[i + 1]? = some t → bl11 s < bl11 t) := fun i s t h1 h2 => nms_rise HOL.out.gdl (l := l) (by rw [← hns]; exact h1) (by rw [← hns]; exact h2)
  have HNK : Hid (∀ s ∈ ns, (fnd l s).2 = true) := fun s hs => nms_known HOL.out.gdl (by rw [← hns]; exact hs)
  have HNE : Hid (∀ U, Alk l U → nms U = ns) := fun U h => by rw [hns]; exact (nms_eq h).symm
  have g10 : ((ns.length : Int) != (l.length : Int) + 9) = false := by have h := HNL.out; rw [bne_eq_false_iff_eq]; omega
  have hnm : ns.length ≤ 100 := by have h := HNL.out; have h2 := H64.out; omega
  clear hP hns gE HS5 hgt HB5 H45 HX1 HB1 H4
  go_wp2_with fail
  clear g10
  go_loopw [7] (fun vi wx => ∃ (k : Nat), k < ns.length ∧ vi = .int .i64 ((k : Int) + 1) ∧ Hid (Below w6.heap.size w6 wx)) (fun vi _ => ns.length + 1 - (intOf vi).toNat)
  case atStart => exact ⟨0, by have h := HNL.out; omega, rfl, Below.refl _ _⟩
  case round =>
    rename World => X0
    obtain ⟨k, hk, rfl, HB⟩ := hrel
    by_cases hlt : k + 1 < ns.length
    · as_aux_lemma =>
      have g1 : (k : Int) + 1 < (ns.length : Int) := by omega
      have g3 : (k : Int) < (ns.length : Int) := by omega
      obtain ⟨s, hs⟩ : ∃ s, ns[k]? = some s := ⟨ns[k], List.getElem?_eq_getElem (by omega)⟩
      obtain ⟨s', hs'⟩ : ∃ s, ns[k + 1]? = some s := ⟨ns[k + 1], List.getElem?_eq_getElem hlt⟩
      have hrs := HNR.out k s s' hs hs'
      have x1 : ∀ t' : Ext X0, t'.w'.cell? ⟨gb, k, none⟩ = some (.string s) := fun t' => keep_below t'.h _ _ (keep_below HB.out _ _ (ssl_cell HN6.out hs))
      have x2 : ∀ t' : Ext X0, t'.w'.cell? ⟨gb, k + 1, none⟩ = some (.string s') := fun t' => keep_below t'.h _ _ (keep_below HB.out _ _ (ssl_cell HN6.out hs'))
      have g6 : (0 : Int) ≤ (k : Int) + 1 := by omega
      have wk : IntKind.i64.wrap (k : Int) = (k : Int) := by rw [IntKind.wrap_i64]; omega
      obtain ⟨hle, hbe⟩ := rise_no hrs
      clear hs hs' hrs
      go_wp2_with fail
      refine region_ext (by kernel_rfl) (by kernel_rfl) ?_
      with_reducible refine wpQuiet_step (fun K hK => ?_)
      go_simp
      with_reducible refine hK _ ?_
      clear hK K
      with_reducible refine wpQuiet_step (fun K hK => ?_)
      go_simp
      with_reducible refine hK _ ?_
      clear hK K
      with_reducible refine wpQuiet_step (fun K hK => ?_)
      go_simp
      with_reducible refine hK _ ?_
      clear hK K
      with_reducible refine wpQuiet_step (fun K hK => ?_)
      go_simp
      with_reducible refine hK _ ?_
      clear hK K
      with_reducible refine wpQuiet_step (fun K hK => ?_)
      go_simp
      with_reducible refine hK _ ?_
      clear hK K
      with_reducible refine wpQuiet_step (fun K hK => ?_)
      go_simp
      with_reducible refine hK _ ?_
      clear hK K
      with_reducible refine wpQuiet_step (fun K hK => ?_)
      go_simp
      with_reducible refine hK _ ?_
      clear hK K
      with_reducible refine wpQuiet_step (fun K hK => ?_)
      go_simp
      with_reducible refine hK _ ?_
      clear hK K
      with_reducible refine wpQuiet_step (fun K hK => ?_)
      go_simp
      with_reducible refine hK _ ?_
      clear hK K
      with_reducible refine wpQuiet_step (fun K hK => ?_)
      go_simp
      with_reducible refine hK _ ?_
      clear hK K
      refine wpQuiet_nil ?_
      rintro wx ⟨t2, rfl⟩
      have HB2 : Hid (Below w6.heap.size w6 t2.w') := HB.out.trans (t2.h.mono HB.out.size)
      go_wp2_with fail
      go_roundw
      case rel => (repeat (first | exact ⟨⟨k + 1, by omega, by go_num, HB2⟩, rfl⟩ | exact ⟨k + 1, by omega, by go_num, HB2⟩ | apply Exists.intro))
      case measure => simp [intOf]; omega
    have g1 : ¬ (k : Int) + 1 < (ns.length : Int) := by omega
    have HSX := hide (HS6.out.next HB.out)
    have q1 : X0.cell? ⟨w.heap.size, 1, none⟩ = some (.int .i64 m) := blk_cell (j := 1) (HP1.out _ HSX.out.b) rfl
    have H60 := hide HB.out
    clear HB hlt hk HS6
    go_wp2_with fail
    clear g1 q1
    refine (turned_any X0 _ l (HL4.out.mv (keep_below HSX.out.b)) HSH.out (by have := H64.out; omega) m).mono ?_
    rintro e w7 ⟨g2, rfl, hP⟩
    obtain ⟨kk, va, vb, hkk, hblk, hge, hta, htb, hb7⟩ := hP.out
    have HS7 := hide (HSX.out.next hb7)
    have HNT := hide HS7.out.t.ntx
    have HG2 : Hid (g2 ≠ gt) := by
      have h1 := HGT.out
      have h2 := HG6.out
      have h3 := H60.out.size
      show g2 ≠ gt
      omega
    have HRW : Hid (∀ k : Nat, k < 2 → ∃ (au : Option Addr) (cu : Nat) (U : List Tp), Alk l U ∧ ∀ wy, Kp (fun q => q = gt) w7 wy → wy.cell? ⟨g2, k, none⟩ = some (.slice au U.length cu) ∧ TSl wy (.slice au U.length cu) U) := fun k hk => by
      have hrow : ∀ (v : Value) (U : List Tp), TSl w7 v U → (#[va, vb] : Array Value)[k]? = some v → Alk l U → ∃ (au : Option Addr) (cu : Nat) (U : List Tp), Alk l U ∧ ∀ wy, Kp (fun q => q = gt) w7 wy → wy.cell? ⟨g2, k, none⟩ = some (.slice au U.length cu) ∧ TSl wy (.slice au U.length cu) U := fun v U hU hc hA => by
        have hU2 := hU
        obtain ⟨⟨au, cu, rfl, _⟩, _⟩ := hU2
        exact ⟨au, cu, U, hA, fun wy hy => ⟨blk_cell ((hy.block _ (blk_lt hblk) HG2.out).trans hblk) hc, tsl_ntx hU hy HNT.out⟩⟩
      rcases (show k = 0 ∨ k = 1 by omega) with rfl | rfl
      · exact hrow va _ hta rfl (alk_rev HOL.out.gdl)
      · exact hrow vb _ htb rfl (alk_rot HOL.out.gdl kk hkk)
    have HN7 : Hid (∀ wy, Kp (fun q => q = gt ∨ w6.heap.size ≤ q) w6 wy → SSl wy (.slice (some ⟨gb, 0, none⟩) ns.length cb) ns) := fun wy hy => ssl_blk HN6.out hy (fun e => by
      have h1 := HGT.out
      have h2 := HG6.out
      have e' : gb = gt ∨ w6.heap.size ≤ gb := e
      omega)
    have H67 : Hid (w6.heap.size ≤ w7.heap.size) := HS7.out.k.size
    clear hP hblk hge hta htb hb7 hkk HSX H60 HN6 HNT HG2
    go_wp2_with fail
    go_loopw [9] (fun vi wx => ∃ (k : Nat), k ≤ 2 ∧ vi = .int .i64 (k : Nat) ∧ Hid (Spk w4 w6 w4.heap.size w5.heap.size gt l wx) ∧ Hid (Kp (fun q => q = gt) w7 wx)) (fun vi _ => 2 - (intOf vi).toNat)
    case atStart => exact ⟨0, by omega, rfl, HS7, Kp.refl _ _⟩
    case round =>
      rename World => X1
      obtain ⟨k, hk, rfl, HS, HK⟩ := hrel
      clear HS7
      by_cases hlt : k < 2
      · as_aux_lemma =>
        have g1 : (k : Int) < 2 := by omega
        obtain ⟨au, cu, U, hA, hU⟩ := HRW.out k hlt
        have HAL := hide hA
        have q1 : X1.cell? ⟨g2, k, none⟩ = some (.slice au U.length cu) := (hU X1 HK.out).1
        have HTU := hide (hU X1 HK.out).2
        have HOU := hide (hA.okl HOL.out)
        have HCU : Hid ((chk11 U).1 = 0) := by show _ = _; rw [okl_chk HOU.out]
        have HSU := hide (alk_shrt hA HSH.out)
        have HOC := hide (open_any X1 (HT.out X1 (HBW.out _ HS.out.b)) (HO.out X1 (HBW.out _ HS.out.b)) _ U HTU.out HSU.out)
        have HU64 : Hid (U.length ≤ 64) := by have := HOU.out.m; show _ ≤ _; omega
        have HRU := hide (tsl_r HTU.out)
        have HRL := hide (tsl_r HL4.out)
        have HNU2 := hide (tsl_n HTU.out)
        have HX17 : Hid (w7.heap.size ≤ X1.heap.size) := HK.out.size
        have HX15 : Hid (w5.heap.size ≤ X1.heap.size) := by have h1 := HK.out.size; have h2 := H67.out; have h3 := HG6.out; show _ ≤ _; omega
        clear hA hU
        go_wp2_with fail
        refine HOC.out.mono ?_
        rintro e X2 ⟨⟨vp, rfl, hnil, hok⟩, hb2⟩
        obtain ⟨gu, hvp, hgu, htb⟩ := hok HCU.out
        subst hvp
        rw [HCU.out]
        have HTB := hide (Tst.of htb hgu)
        have HS2 := hide (HS.out.next hb2)
        have HK2 : Hid (Kp (fun q => q = gt) w7 X2) := HK.out.trans (Kp.of_below (S := fun _ => False) hb2) (fun _ _ e => e.elim)
        have HGU := hide hgu
        clear hnil hok htb hb2 q1 HOC HS HK hgu
        go_wp2_with (first
          | (go_at_call 8
             refine (HNU.out _ _).mono ?_
             rintro e wq ⟨rfl, hwq⟩
             have hwq := hwq.symm
             subst hwq))
        refine (tst_names HTB.out (HO.out X2 (HBW.out _ HS2.out.b)) HU64.out HNU2.out).mono ?_
        rintro e X3 ⟨gc, cc, rfl, hP⟩
        rw [HNE.out U HAL.out] at hP ⊢
        have hb3 := hP.out.2.1
        have HN3 := hide hP.out.1
        have HT3 := hide (HTB.out.next hb3)
        have HS3 := hide (HS2.out.next hb3)
        have HK3 : Hid (Kp (fun q => q = gt) w7 X3) := HK2.out.trans (Kp.of_below (S := fun _ => False) hb3) (fun _ _ e => e.elim)
        have HSN : Hid (∀ wy, Kp (fun q => q = gt ∨ q = gu) X3 wy → SSl wy (.slice (some ⟨gb, 0, none⟩) ns.length cb) ns) := fun wy hy => HN7.out wy ((HS3.out.k.mono (fun _ _ e => .inl e)).trans hy (fun q hq e => by
          have h1 := HGU.out
          have h2 := HK3.out.size
          have h3 := H67.out
          have h4 : w6.heap.size ≤ gu := by have h5 := HX17.out; have h6 := H67.out; have h7 := HGU.out; omega
          omega))
        clear hP hb3 HTB HS2 HK2
        go_wp2_with fail
        refine (eqS_same HN3.out (HSN.out _ (Kp.refl _ _))).mono ?_
        rintro e X4 ⟨rfl, hb4⟩
        have HA4 : Hid (Als w4 X4 w4.heap.size w5.heap.size gt X1.heap.size X2.heap.size gu l U X4) := ⟨HS3.out.t.next hb4, HT3.out.next hb4, Kp.refl _ _, HS3.out.b.trans (hb4.mono HS3.out.b.size)⟩
        have HS4 := hide (HS3.out.next hb4)
        have HK4 : Hid (Kp (fun q => q = gt) w7 X4) := HK3.out.trans (Kp.of_below (S := fun _ => False) hb4) (fun _ _ e => e.elim)
        have HSN4 : Hid (∀ wy, Kp (fun q => q = gt ∨ q = gu) X4 wy → SSl wy (.slice (some ⟨gb, 0, none⟩) ns.length cb) ns) := fun wy hy => HSN.out wy ((Kp.mono (Kp.of_below (S := fun _ => False) hb4) (fun _ _ e => e.elim)).trans hy (fun _ _ e => e))
        clear hb4 HN3 HT3 HS3 HK3 HSN
        go_wp2_with fail
        refine (alike_any HA4.out HX15.out (HO.out _ HB4.out) (Nat.le_refl _) HSH.out HSU.out HRL.out HRU.out H64.out HU64.out _ ns HSN4.out (fun s hs => alk_hq HAL.out s)).mono ?_
        rintro e X5 ⟨rfl, hP⟩
        have HS5 : Hid (Spk w4 w6 w4.heap.size w5.heap.size gt l X5) := ⟨hP.out.t1, HS4.out.k.trans hP.out.k (fun q hq e => by
          have h1 := HGU.out
          have h4 : w6.heap.size ≤ gu := by have h5 := HX17.out; have h6 := H67.out; have h7 := HGU.out; omega
          omega), hP.out.b⟩
        have HK5 : Hid (Kp (fun q => q = gt) w7 X5) := HK4.out.trans hP.out.k (fun q hq e => by
          have h1 := HGU.out
          have h4 : w7.heap.size ≤ gu := by have h5 := HX17.out; have h7 := HGU.out; omega
          omega)
        clear hP HS4 HK4 HA4 HSN4
        go_wp2_with fail
        go_roundw
        case rel => (repeat (first | exact ⟨⟨k + 1, by omega, by go_num, HS5, HK5⟩, rfl⟩ | exact ⟨k + 1, by omega, by go_num, HS5, HK5⟩ | apply Exists.intro))
        case measure => simp [intOf]; omega
      have g1 : ¬ (k : Int) < 2 := by omega
      clear hlt hk HK HRW
      have HPM : Hid (∀ wy, Below w4.heap.size w4 wy → ∀ j u, (#[c2, c3, c4, c5, c6, c7, c8, c9, c10] : Array Value)[j]? = some u → wy.cell? ⟨w.heap.size, 2 + j, none⟩ = some u) := fun wy hy => sub_cell (HP1.out wy hy) (fun j u hj => by
        rcases j with _ | _ | _ | _ | _ | _ | _ | _ | _ | j
        all_goals first
          | exact hj
          | (simp at hj))
      go_upto_region 24 with fail
      clear g1
      refine heldStart (S := fun wy => Spk w4 w6 w4.heap.size w5.heap.size gt l wy) (by kernel_rfl) ?_
      have hbd : Below X1.heap.size X1 X1.drew := Below.drew (Below.refl _ _)
      have hS : Spk w4 w6 w4.heap.size w5.heap.size gt l X1.drew := HS.out.next hbd
      clear hbd HS
      generalize X1.drew = X2 at *
      have HX26 : Hid (w6.heap.size ≤ X2.heap.size) := hS.k.size
      have HX24 : Hid (w4.heap.size ≤ X2.heap.size) := hS.b.size
      have HX25 : Hid (w5.heap.size ≤ X2.heap.size) := hS.t.top_le
      refine heldTake 0 _ rfl (by kernel_rfl) (by kernel_rfl) (by kernel_rfl) (fun _ _ _ h => h) rfl hS (fun wy hy => by first | (go_simp; done) | (go_simp; rfl) | rfl) ?_
      (try simp only [Act.put]); (try simp only [List.setIfInBounds_toArray, List.set_cons_zero, List.set_cons_succ])
      refine heldTake 2 _ rfl (by kernel_rfl) (by kernel_rfl) (by kernel_rfl) (fun _ _ _ h => h) rfl hS (fun wy hy => by first | (go_simp; done) | (go_simp; rfl) | rfl) ?_
      (try simp only [Act.put]); (try simp only [List.setIfInBounds_toArray, List.set_cons_zero, List.set_cons_succ])
      refine heldTake 3 _ rfl (by kernel_rfl) (by kernel_rfl) (by kernel_rfl) (fun _ _ _ h => h) rfl hS (fun wy hy => exec_aggAt (g := w.heap.size) (off := 2) (cs := #[c2, c3, c4, c5, c6, c7, c8, c9, c10]) HIT.out HAT.out rfl rfl rfl (HPM.out wy hy.b)) ?_
      (try simp only [Act.put]); (try simp only [List.setIfInBounds_toArray, List.set_cons_zero, List.set_cons_succ])
      refine heldStep 1 rfl (by kernel_rfl) (fun K1 hK1 => ?_)
      go_simp
      refine (copyTs2_any X2 _ l (HL4.out.mv (keep_below hS.b)) HSH.out (by have := H64.out; omega)).mono ?_
      rintro e X3 ⟨ax, nx, cx, L3, rfl, hP3⟩
      have HP3 := hP3
      have hS1 : Spk w4 w6 w4.heap.size w5.heap.size gt l X3 := hS.next hP3.out.b
      clear hP3
      refine (Hid.out hK1) _ _ hS1 (fun hS2 => ?_)
      clear hK1 K1 hS
      have hS := hS2
      clear hS2
      (try simp only [Act.put]); (try simp only [List.setIfInBounds_toArray, List.set_cons_zero, List.set_cons_succ])
      clear hS1
      refine heldStep 4 rfl (by kernel_rfl) (fun K1 hK1 => ?_)
      go_simp
      refine (copyT_wid X3 M #[c2, c3, c4, c5, c6, c7, c8, c9, c10] (HM.out.move (keep_below (HBW.out _ hS.b))) HMB.out.1 HMB.out.2.1 HMB.out.2.2).mono ?_
      rintro e X4 ⟨cM, rfl, hP4⟩
      have HP4 := hP4
      have hS1 : Spk w4 w6 w4.heap.size w5.heap.size gt l X4 := hS.next hP4.out.2.1
      have HO4 := hide (HP3.out.next hP4.out.2.1)
      have HZ9 := hide hP4.out.1.size9
      clear hP4
      refine (Hid.out hK1) _ _ hS1 (fun hS2 => ?_)
      clear hK1 K1 hS
      have hS := hS2
      clear hS2
      (try simp only [Act.put]); (try simp only [List.setIfInBounds_toArray, List.set_cons_zero, List.set_cons_succ])
      clear hS1
      refine heldStep 5 rfl (by kernel_rfl) (fun K1 hK1 => ?_)
      refine step_row1 infoTp3 Tryz.underlying22 (by decide) (by decide) rfl rfl rfl HZ9.out ?_
      have hb5 := below_alloc4 X4 (.cells cM 29)
      have hS1 : Spk w4 w6 w4.heap.size w5.heap.size gt l (X4.alloc (.cells cM 29)) := hS.next hb5
      have HO5 := hide (HO4.out.next hb5)
      have HN5 := hide (heap_alloc_new X4 (.cells cM 29))
      have HK5 : Hid (∀ wy, Kp (fun q => (Value.slice ax nx cx).ownBlock = some q) (X4.alloc (.cells cM 29)) wy → Tpi wy M cM) := fun wy hy => HP4.out.2.2 (fun q => (Value.slice ax nx cx).ownBlock = some q) wy (fun q e => (HP3.out.o.lt q e).2) ((Kp.mono (Kp.of_below (S := fun _ => False) hb5) (fun _ _ e => e.elim)).trans hy (fun _ _ e => e))
      have HB5 : Hid (Below X2.heap.size X2 (X4.alloc (.cells cM 29))) := HO5.out.b
      have HON : Hid (∀ u ∈ gfl [cM], u.oneCell' = true) := fun u hu => by
        have h := HP4.out.1.all1
        rw [Array.all_eq_true_iff_forall_mem] at h
        exact h u (by simpa [gfl] using hu)
      refine (Hid.out hK1) _ _ hS1 (fun hS2 => ?_)
      clear hK1 K1 hS
      have hS := hS2
      clear hS2
      (try simp only [Act.put]); (try simp only [List.setIfInBounds_toArray, List.set_cons_zero, List.set_cons_succ])
      clear hb5 hS1 HO4 HP3 HP4
      generalize hX5 : X4.alloc (.cells cM 29) = X5 at *
      clear hX5
      generalize X4.heap.size = g5 at *
      refine heldStep 6 rfl (by kernel_rfl) (fun K1 hK1 => ?_)
      refine step_append_gs infoTp3 Tryz.underlying22 rfl (by decide) (by decide) rfl rfl rfl HO5.out.o (M := [cM]) (ad := some ⟨g5, 0, none⟩) (c := 1) rfl (fun c hc => by rw [List.mem_singleton.1 hc]; exact HZ9.out) HON.out (by have h1 := HO5.out.n; have h2 := H64.out; simp only [List.length_singleton]; omega) (fun e => by cases e) (.inr ⟨g5, 0, rfl, fun i d hd j u hu => by
        have hi : i = 0 := by
          have := (List.getElem?_eq_some_iff.1 hd).1
          simpa using this
        subst hi
        have e : cM = d := by simpa using hd
        subst e
        have h := blk_cell HN5.out hu
        simpa using h⟩) HB5.out.size ?_
      intro v6 X6 ho6 hg6
      have h6 := opw_one HO5.out hg6 ho6 (HK5.out X6 (kp_grown hg6)) (by rw [List.length_append, List.length_singleton]; have := H64.out; omega)
      have hkg := kp_grown hg6
      have HQ6 : Hid (∀ q, (Value.slice ax nx cx).ownBlock = some q → X2.heap.size ≤ q) := fun q e => (HO5.out.o.lt q e).1
      obtain ⟨a6, c6', hv6, _⟩ := own_formG ho6
      subst hv6
      have HT6 := hide h6.1
      have hS1 : Spk w4 w6 w4.heap.size w5.heap.size gt l X6 := by
        refine ⟨?_, hS.k.trans hkg (fun q hq e => by have h1 := HQ6.out q e; have h2 := HX26.out; omega), hS.b.trans (hkg.below hS.b.size (fun q e => by have h1 := HQ6.out q e; have h2 := HX24.out; omega))⟩
        rcases id HO5.out.o.2 with ⟨e, _⟩ | ⟨A, cap, cur, e, _, hc, _⟩
        · rw [e] at hkg
          exact hS.t.next (hkg.below (Nat.le_refl _) (fun q e => by cases e))
        · rw [e] at hkg HQ6
          exact hS.t.other (A := A) (hkg.mono (fun q _ e => (Option.some.inj e).symm)) (.inr (Nat.le_trans HX25.out (HQ6.out A rfl))) hc
      generalize (L3.length + [cM].length) = n6 at *
      clear ho6 hg6 h6 hkg HQ6 HO5 HK5 HB5 HON HN5 HZ9
      refine (Hid.out hK1) _ _ hS1 (fun hS2 => ?_)
      clear hK1 K1 hS
      have hS := hS2
      clear hS2
      (try simp only [Act.put]); (try simp only [List.setIfInBounds_toArray, List.set_cons_zero, List.set_cons_succ])
      clear hS1
      have HX65 : Hid (w5.heap.size ≤ X6.heap.size) := hS.t.top_le
      have HX66 : Hid (w6.heap.size ≤ X6.heap.size) := hS.k.size
      refine heldStep 7 rfl (by kernel_rfl) (fun K1 hK1 => ?_)
      go_simp
      refine (open_wid X6 (HT.out _ (HBW.out _ hS.b)) (HO.out _ (HBW.out _ hS.b)) _ (l ++ [M]) HT6.out (wid_more HSH.out HMB.out.1 HMB.out.2.1)).mono ?_
      rintro e X7 ⟨⟨vp, rfl, hnil, hok⟩, hb7⟩
      have HOK := hide hok
      have HNI := hide hnil
      have hS1 : Spk w4 w6 w4.heap.size w5.heap.size gt l X7 := hS.next hb7
      obtain ⟨E, hE⟩ : ∃ E, E = (chk11 (l ++ [M])).1 := ⟨_, rfl⟩
      rw [← hE]
      rw [← hE] at HOK HNI
      have HE := hide hE
      clear hE hnil hok
      refine (Hid.out hK1) _ _ hS1 (fun hS2 => ?_)
      clear hK1 K1 hS
      have hS := hS2
      clear hS2
      (try simp only [Act.put]); (try simp only [List.setIfInBounds_toArray, List.set_cons_zero, List.set_cons_succ])
      clear hS1
      refine heldTake 8 _ rfl (by kernel_rfl) (by kernel_rfl) (by kernel_rfl) (fun _ _ _ h => h) rfl hS (fun wy hy => by first | (go_simp; done) | (go_simp; rfl) | rfl) ?_
      (try simp only [Act.put]); (try simp only [List.setIfInBounds_toArray, List.set_cons_zero, List.set_cons_succ])
      refine heldTake 9 _ rfl (by kernel_rfl) (by kernel_rfl) (by kernel_rfl) (fun _ _ _ h => h) rfl hS (fun wy hy => by first | (go_simp; done) | (go_simp; rfl) | rfl) ?_
      (try simp only [Act.put]); (try simp only [List.setIfInBounds_toArray, List.set_cons_zero, List.set_cons_succ])
      refine heldTake 10 _ rfl (by kernel_rfl) (by kernel_rfl) (by kernel_rfl) (fun _ _ _ h => h) rfl hS (fun wy hy => by first | (go_simp; done) | (go_simp; rfl) | rfl) ?_
      (try simp only [Act.put]); (try simp only [List.setIfInBounds_toArray, List.set_cons_zero, List.set_cons_succ])
      refine heldTake 11 _ rfl (by kernel_rfl) (by kernel_rfl) (by kernel_rfl) (fun _ _ _ h => h) rfl hS (fun wy hy => by first | (go_simp; done) | (go_simp; rfl) | rfl) ?_
      (try simp only [Act.put]); (try simp only [List.setIfInBounds_toArray, List.set_cons_zero, List.set_cons_succ])
      refine heldTake 12 _ rfl (by kernel_rfl) (by kernel_rfl) (by kernel_rfl) (fun _ _ _ h => h) rfl hS (fun wy hy => by first | (go_simp; done) | (go_simp; rfl) | rfl) ?_
      (try simp only [Act.put]); (try simp only [List.setIfInBounds_toArray, List.set_cons_zero, List.set_cons_succ])
      refine heldDone (by kernel_rfl) ?_
      have HS := hide hS
      clear hb7 hS
      by_cases hE0 : E = 0
      rotate_left
      · have gE : ((E : Int) == 0) = false := by rw [beq_eq_false_iff_ne]; omega
        have hvp := HNI.out hE0
        subst hvp
        clear hE0 HOK HNI HE
        go_wp2_with (first
          | (go_at_call 8
             refine (HNU.out _ _).mono ?_
             rintro e wq ⟨rfl, hwq⟩
             have hwq := hwq.symm
             subst hwq))
        refine (spoken_any HS.out.base (HO.out w4 HB4.out) (Nat.le_refl _) HSH.out HOL.out _ HL4.out).mono ?_
        rintro e Y1 ⟨rfl, hP⟩
        have hbY := hP.out.b
        clear hP
        go_wp2_with fail
        refine (HBG.out Y1 (HBW.out _ hbY)).mono ?_
        rintro e Y2 ⟨rfl, hb9⟩
        have HB9 : Hid (Below w.heap.size w Y2) := (HBW.out _ hbY).trans (hb9.mono (HBW.out _ hbY).size)
        clear hb9 hbY
        go_wp2_with fail
        go_ret
        exact ⟨rfl, HB9.out⟩
      obtain ⟨gw, hvp, hgw, htb⟩ := HOK.out hE0
      subst hvp
      have HOE : Hid (Okl (l ++ [M])) := okl_of (by rw [← HE.out]; exact hE0)
      have HTB := hide (Tst.of htb hgw)
      have HSE : Hid (Shrt (l ++ [M])) := chk_shrt (by rw [← HE.out]; exact hE0)
      have HE64 : Hid ((l ++ [M]).length ≤ 64) := by have := HOE.out.m; show _ ≤ _; omega
      have HRE := hide (tsl_r HT6.out)
      have HRL := hide (tsl_r HL4.out)
      have HGW := hide hgw
      subst hE0
      clear HOK HNI HE htb hgw
      go_wp2_with (first
        | (go_at_call 8
           refine (HNU.out _ _).mono ?_
           rintro e wq ⟨rfl, hwq⟩
           have hwq := hwq.symm
           subst hwq))
      have HA4 : Hid (Als w4 X7 w4.heap.size w5.heap.size gt X6.heap.size X7.heap.size gw l (l ++ [M]) X7) := ⟨HS.out.t, HTB.out, Kp.refl _ _, HS.out.b⟩
      have HSN4 : Hid (∀ wy, Kp (fun q => q = gt ∨ q = gw) X7 wy → SSl wy (.slice (some ⟨gb, 0, none⟩) ns.length cb) ns) := fun wy hy => HN7.out wy ((HS.out.k.mono (fun _ _ e => .inl e)).trans hy (fun q hq e => by
        have h1 := HGW.out
        have h2 := HX66.out
        omega))
      refine (alike_any HA4.out HX65.out (HO.out _ HB4.out) (Nat.le_refl _) HSH.out HSE.out HRL.out HRE.out H64.out HE64.out _ ns HSN4.out (fun s hs => ext_hq HOL.out HOE.out (HNK.out s hs))).mono ?_
      rintro e X8 ⟨rfl, hP⟩
      replace HS : Hid (Spk w4 w6 w4.heap.size w5.heap.size gt l X8) := ⟨hP.out.t1, HS.out.k.trans hP.out.k (fun q hq e => by
        have h1 := HGW.out
        have h4 := HX66.out
        omega), hP.out.b⟩
      clear hP HA4 HSN4 HTB
      go_wp2_with fail
      refine (spoken_any HS.out.base (HO.out w4 HB4.out) (Nat.le_refl _) HSH.out HOL.out _ HL4.out).mono ?_
      rintro e Y1 ⟨rfl, hP⟩
      have hbY := hP.out.b
      clear hP
      go_wp2_with fail
      refine (HBG.out Y1 (HBW.out _ hbY)).mono ?_
      rintro e Y2 ⟨rfl, hb9⟩
      have HB9 : Hid (Below w.heap.size w Y2) := (HBW.out _ hbY).trans (hb9.mono (HBW.out _ hbY).size)
      clear hb9 hbY
      go_wp2_with fail
      go_ret
      exact ⟨rfl, HB9.out⟩
end
section
open Go.ChangeShapes Go.WideShapes Go.ChangeAt Go.RowKit Go.Deep Go.Joins Go
theorem Tryz.cells_str : Tryz.prog.cellsOf 9 = 1 := by kernel_rfl
section
variable {H : Type} {enc : TypeId × Value → H} {P : Program} {w : World} {base : Nat} {spare : Nat → Bool} {held : Bool}
end
end
section
open Go.ChangeShapes Go.WideShapes Go.ChangeAt Go.RowKit Go.Deep Go.Joins Go
theorem weight_le {H : Type} {t : TypeId} {d : DataW H} (h : (d.weights Tryz.prog t).all (· ≤ reachBytes) = true) {n : Nat} (hn : n ∈ d.weights Tryz.prog t) : n ≤ 140737488351232 := by
  have := List.all_eq_true.1 h n hn
  unfold reachBytes at this
  simpa using this
theorem weight_each {H : Type} {ts : List TypeId} {ds : List (DataW H)} (h : (DataW.weightsEach Tryz.prog ts ds).all (· ≤ reachBytes) = true) {j : Nat} {t : TypeId} {d : DataW H} (ht : ts[j]? = some t) (hd : ds[j]? = some d) : (d.weights Tryz.prog t).all (· ≤ reachBytes) = true :=
  List.all_eq_true.2 fun n hn => List.all_eq_true.1 h n (DataW.weights_mem_each ht hd n hn)
theorem Tryz.bytesStr : Tryz.prog.bytesOf 9 = 16 := by kernel_rfl
theorem ssl_open {H : Type} {enc : TypeId × Value → H} {w : World} {base fuel : Nat} {held : Bool} {v : Value} {x : DataW H × List MemPlace} (h : DataW.trod enc Tryz.prog w base (fun _ => true) held fuel 27 [v] = some x) (hW : (x.1.weights Tryz.prog 27).all (· ≤ reachBytes) = true) : ∃ ks, SSl w v ks := by
  rcases open_strings Tryz.underlying27 Tryz.underlying9 Tryz.cells_str h with ⟨hcs, _⟩ | ⟨a, len, cap, ss, hcs, _, hl, hm, hmm, hx, hel, hsz⟩
  · injection hcs with hcs _
    subst hcs
    exact ⟨[], ⟨none, 0, rfl, ⟨by simp, fun _ => rfl⟩, .inl rfl⟩, by simp, by simp⟩
  · injection hcs with hcs _
    subst hcs
    simp only [if_true] at hmm
    have hlen : (ss.take len).length = len := by rw [List.length_take]; omega
    unfold maxLen at hm
    have hw1 : len ≤ 140737488351232 := by
      have h1 := weight_le hW (n := ((strs (H := H) (ss.take len)).length + (strs (H := H) (ss.drop len)).length) * Tryz.prog.bytesOf 9) (by rw [hx]; simp only [DataW.weights, Tryz.underlying27]; exact List.mem_cons_self ..)
      rw [Tryz.bytesStr] at h1
      have h2 : (strs (H := H) (ss.take len)).length = len := by simp [strs]; omega
      omega
    have hw2 : ∀ s ∈ ss.take len, s.size ≤ 140737488351232 := fun s hs => by
      refine weight_le hW ?_
      rw [hx]
      simp only [DataW.weights, Tryz.underlying27]
      refine List.mem_cons.2 (.inr (List.mem_append.2 (.inl (weights_all (d := .lit (.string s.data.toList)) (List.mem_map.2 ⟨s, hs, rfl⟩) _ ?_))))
      simp only [DataW.weights, List.mem_singleton]
      rfl
    refine ⟨ss.take len, ⟨some a, cap, by rw [hlen], ⟨by rw [hlen]; exact hl, fun h => by cases h⟩, ?_⟩, by rw [hlen]; exact hw1, hw2⟩
    by_cases hz : len = 0
    · exact .inl (by rw [hz]; rfl)
    · obtain ⟨b, off, spot⟩ := a
      have hspot : spot = none := by
        have := hel 0 (by omega)
        simpa [Addr.add] using World.cell?_spot this
      subst hspot
      refine .inr ⟨b, off, rfl, fun j s hj => ?_⟩
      have hjl : j < len := by
        have := (List.getElem?_eq_some_iff.1 hj).1
        omega
      have h1 := hel j (by omega)
      rw [addr_add] at h1
      rw [h1]
      rw [List.getElem?_take_of_lt hjl] at hj
      rw [List.getD_eq_getElem?_getD, hj]
      rfl
end
section
open Go.ChangeShapes Go.WideShapes Go.ChangeAt Go.RowKit Go.Deep Go.Joins Go
/-! ### Types as arguments -/
theorem gsl_of {α : Type} {n : Nat} {P : World → α → Array Value → Prop} {w : World} {a : Addr} {len cap : Nat} [Inhabited α] (hn : 0 < n) (hP : ∀ x c, P w x c → c.size = n) (hl : len ≤ cap) (hm : len ≤ 140737488351232) (each : ∀ i, i < len → ∃ t cs', P w t cs' ∧ ∀ j u, cs'[j]? = some u → w.cell? ((a.add (i * n)).add j) = some u) : ∃ is, GSl n P w (.slice (some a) len cap) is := by
  have hch : ∀ i, ∃ t : α, i < len → ∃ cs', P w t cs' ∧ ∀ j u, cs'[j]? = some u → w.cell? ((a.add (i * n)).add j) = some u := fun i => by
    by_cases hi : i < len
    · obtain ⟨t, h⟩ := each i hi
      exact ⟨t, fun _ => h⟩
    · exact ⟨default, fun h => absurd h hi⟩
  obtain ⟨f, hf⟩ := Classical.axiomOfChoice hch
  have hln : ((List.range len).map f).length = len := by simp
  refine ⟨(List.range len).map f, ⟨some a, cap, by rw [hln], ⟨by rw [hln]; exact hl, fun h => by cases h⟩, ?_⟩, by rw [hln]; omega⟩
  by_cases hz : len = 0
  · exact .inl (by rw [hz]; rfl)
  · obtain ⟨b, off, spot⟩ := a
    have hspot : spot = none := by
      obtain ⟨t, cs', ht, hc⟩ := each 0 (by omega)
      have hs := hP t cs' ht
      have := hc 0 (cs'[0]'(by omega)) (Array.getElem?_eq_getElem _)
      simpa [Addr.add] using World.cell?_spot this
    subst hspot
    refine .inr ⟨b, off, rfl, fun i t hi => ?_⟩
    have hil : i < len := by
      have := (List.getElem?_eq_some_iff.1 hi).1
      omega
    rw [List.getElem?_map, List.getElem?_range hil] at hi
    injection hi with hi
    subst hi
    obtain ⟨cs', h1, h2⟩ := hf i hil
    refine ⟨cs', h1, fun j u hu => ?_⟩
    have := h2 j u hu
    rw [addr_add, addr_add] at this
    exact this
/-- A slice of structs opened, one struct's opening given. -/
theorem gsl_open {H : Type} {enc : TypeId × Value → H} {α : Type} [Inhabited α] {n : Nat} {P : World → α → Array Value → Prop} {S T : TypeId} {w : World} {base fuel : Nat} {held : Bool} {v : Value} {x : DataW H × List MemPlace} (hS : Tryz.prog.underlying S = some (.slice T)) (hcT : Tryz.prog.cellsOf T = n) (hbT : 0 < Tryz.prog.bytesOf T) (hn : 0 < n) (hP : ∀ x c, P w x c → c.size = n)
    (one : ∀ (fuel : Nat) (cs : List Value) (x : DataW H × List MemPlace), DataW.trod enc Tryz.prog w base (fun _ => true) held fuel T cs = some x → (x.1.weights Tryz.prog T).all (· ≤ reachBytes) = true → ∃ t, P w t cs.toArray)
    (h : DataW.trod enc Tryz.prog w base (fun _ => true) held fuel S [v] = some x) (hW : (x.1.weights Tryz.prog S).all (· ≤ reachBytes) = true) : ∃ is, GSl n P w v is := by
  rcases DataW.trod_slice hS h with ⟨hcs, _⟩ | ⟨a, len, cap, elems, rest, m, hfm, hcs, hx9, hb, hl, hm, hlen2, hel, _, _⟩
  · injection hcs with hcs _
    subst hcs
    exact ⟨[], GSl.nil⟩
  · injection hcs with hcs _
    subst hcs
    have hm2 : len ≤ 140737488351232 := by
      have h1 := weight_le hW (n := ((elems.map (·.1)).length + (rest.map (·.1)).length) * Tryz.prog.bytesOf T) (by rw [hx9]; simp only [DataW.weights, hS]; exact List.mem_cons_self ..)
      rw [List.length_map] at h1
      have h2 : len * 1 ≤ (elems.length + (rest.map (·.1)).length) * Tryz.prog.bytesOf T := Nat.mul_le_mul (by omega) hbT
      omega
    have hwe : ∀ (i : Nat) (z : DataW H × List MemPlace), elems[i]? = some z → (z.1.weights Tryz.prog T).all (· ≤ reachBytes) = true := fun i z hz => List.all_eq_true.2 fun n hn => by
      refine List.all_eq_true.1 hW n ?_
      rw [hx9]
      simp only [DataW.weights, hS]
      exact List.mem_cons.2 (.inr (List.mem_append.2 (.inl (weights_all (List.mem_map.2 ⟨z, List.mem_of_getElem? hz, rfl⟩) n hn))))
    refine gsl_of hn hP hl hm2 fun i hi => ?_
    have h1 := hel i hi
    rw [hcT] at h1
    have h2 : ∃ z, elems[i]? = some z := ⟨elems[i]'(by omega), List.getElem?_eq_getElem (by omega)⟩
    obtain ⟨z, hz⟩ := h2
    rw [hz] at h1
    obtain ⟨cs', h3, h4⟩ := Option.bind_eq_some_iff.1 h1
    obtain ⟨t, ht⟩ := one m cs' z h4 (hwe i z hz)
    obtain ⟨_, hln, hcell⟩ := World.cells?_some h3
    refine ⟨t, cs'.toArray, ht, fun j u hu => ?_⟩
    rw [List.getElem?_toArray] at hu
    have hj : j < n := by
      have := (List.getElem?_eq_some_iff.1 hu).1
      omega
    rw [hcell j hj]
    exact hu
instance : Inhabited Rf := ⟨zrf⟩
instance : Inhabited Fd := ⟨⟨⟨#[]⟩, ⟨#[]⟩, zrf, false⟩⟩
instance : Inhabited Cz := ⟨⟨⟨#[]⟩, ⟨#[]⟩⟩⟩
instance : Inhabited Tp := ⟨ztp⟩
theorem cellsRf : Tryz.prog.cellsOf 24 = 2 := by kernel_rfl
theorem cellsFd : Tryz.prog.cellsOf 80 = 5 := by kernel_rfl
theorem cellsCz : Tryz.prog.cellsOf 82 = 2 := by kernel_rfl
theorem cellsTp : Tryz.prog.cellsOf 29 = 9 := by kernel_rfl
theorem cells3 : Tryz.prog.cellsOf 3 = 1 := by kernel_rfl
theorem cells2 : Tryz.prog.cellsOf 2 = 1 := by kernel_rfl
theorem cells4 : Tryz.prog.cellsOf 4 = 1 := by kernel_rfl
theorem cells9 : Tryz.prog.cellsOf 9 = 1 := by kernel_rfl
theorem cellsFs : Tryz.prog.cellsOf 25 = 1 := by kernel_rfl
theorem cellsCs : Tryz.prog.cellsOf 26 = 1 := by kernel_rfl
theorem cellsWs : Tryz.prog.cellsOf 27 = 1 := by kernel_rfl
theorem bytesFd : Tryz.prog.bytesOf 80 = 64 := by kernel_rfl
theorem bytesCz : Tryz.prog.bytesOf 82 = 32 := by kernel_rfl
theorem bytesTp : Tryz.prog.bytesOf 29 = 136 := by kernel_rfl
theorem str_le {H : Type} {x : DataW H × List MemPlace} {s : ByteArray} (hx : x = (.lit (.string s.data.toList), [])) (hW : (x.1.weights Tryz.prog 9).all (· ≤ reachBytes) = true) : s.size ≤ 140737488351232 := by
  refine weight_le (t := 9) hW ?_
  rw [hx]
  simp only [DataW.weights, List.mem_singleton]
  rfl
set_option maxRecDepth 100000 in
theorem ref_open {H : Type} {enc : TypeId × Value → H} {w : World} {base fuel : Nat} {held : Bool} {c0 c1 : Value} {x : DataW H × List MemPlace} (h : DataW.trod enc Tryz.prog w base (fun _ => true) held fuel 24 [c0, c1] = some x) (hW : (x.1.weights Tryz.prog 24).all (· ≤ reachBytes) = true) : ∃ r : Rf, c0 = .string r.n ∧ c1 = .bool r.z ∧ r.n.size ≤ 140737488351232 := by
  obtain ⟨y0, y1, n, hx, _, h0, h1⟩ := trod_struct2 Tryz.underlying24 h
  have g0 : DataW.trod enc Tryz.prog w base (fun _ => true) held n 9 [c0] = some y0 := by simpa [cells9] using h0
  have g1 : DataW.trod enc Tryz.prog w base (fun _ => true) held n 4 [c1] = some y1 := by simpa [cells4] using h1
  obtain ⟨s, e0, hy0, _⟩ := DataW.trod_string Tryz.underlying9 g0
  obtain ⟨z, e1, _⟩ := DataW.trod_bool Tryz.underlying4 g1
  have hWE : (DataW.weightsEach Tryz.prog [9, 4] [y0.1, y1.1]).all (· ≤ reachBytes) = true := by
    rw [hx] at hW
    simp only [DataW.weights, Tryz.underlying24] at hW
    exact hW
  injection e0 with e0 _
  injection e1 with e1 _
  exact ⟨⟨s, z⟩, e0, e1, str_le hy0 (weight_each hWE (j := 0) rfl rfl)⟩
set_option maxRecDepth 100000 in
theorem field_open {H : Type} {enc : TypeId × Value → H} {w : World} {base : Nat} {held : Bool} (fuel : Nat) (cs : List Value) (x : DataW H × List MemPlace) (h : DataW.trod enc Tryz.prog w base (fun _ => true) held fuel 80 cs = some x) (hW : (x.1.weights Tryz.prog 80).all (· ≤ reachBytes) = true) : ∃ f, Fdi w f cs.toArray := by
  obtain ⟨xs, n, _, hx, hlen, hxl, hf⟩ := DataW.trod_struct Tryz.underlying80 h
  rw [cellsFd] at hlen
  match cs, hlen, xs, hxl with
  | [c0, c1, c2, c3, c4], _, [y0, y1, y2, y3], _ =>
    have g0 : DataW.trod enc Tryz.prog w base (fun _ => true) held n 9 [c0] = some y0 := by simpa [cells9] using hf 0 _ rfl
    have g1 : DataW.trod enc Tryz.prog w base (fun _ => true) held n 9 [c1] = some y1 := by simpa [cells9] using hf 1 _ rfl
    have g2 : DataW.trod enc Tryz.prog w base (fun _ => true) held n 24 [c2, c3] = some y2 := by simpa [cellsRf] using hf 2 _ rfl
    have g3 : DataW.trod enc Tryz.prog w base (fun _ => true) held n 4 [c4] = some y3 := by simpa [cells4] using hf 3 _ rfl
    have hWE : (DataW.weightsEach Tryz.prog [9, 9, 24, 4] [y0.1, y1.1, y2.1, y3.1]).all (· ≤ reachBytes) = true := by
      rw [hx] at hW
      simp only [DataW.weights, Tryz.underlying80] at hW
      exact hW
    obtain ⟨s0, e0, hy0, _⟩ := DataW.trod_string Tryz.underlying9 g0
    obtain ⟨s1, e1, hy1, _⟩ := DataW.trod_string Tryz.underlying9 g1
    obtain ⟨r, e2, e3, hr⟩ := ref_open g2 (weight_each hWE (j := 2) rfl rfl)
    obtain ⟨z, e4, _⟩ := DataW.trod_bool Tryz.underlying4 g3
    injection e0 with e0 _
    injection e1 with e1 _
    injection e4 with e4 _
    subst e0
    subst e1
    subst e2
    subst e3
    subst e4
    exact ⟨⟨s0, s1, r, z⟩, rfl, str_le hy0 (weight_each hWE (j := 0) rfl rfl), str_le hy1 (weight_each hWE (j := 1) rfl rfl), hr⟩
set_option maxRecDepth 100000 in
theorem case_open {H : Type} {enc : TypeId × Value → H} {w : World} {base : Nat} {held : Bool} (fuel : Nat) (cs : List Value) (x : DataW H × List MemPlace) (h : DataW.trod enc Tryz.prog w base (fun _ => true) held fuel 82 cs = some x) (hW : (x.1.weights Tryz.prog 82).all (· ≤ reachBytes) = true) : ∃ f, Czi w f cs.toArray := by
  obtain ⟨xs, n, _, hx, hlen, hxl, hf⟩ := DataW.trod_struct Tryz.underlying82 h
  rw [cellsCz] at hlen
  match cs, hlen, xs, hxl with
  | [c0, c1], _, [y0, y1], _ =>
    have g0 : DataW.trod enc Tryz.prog w base (fun _ => true) held n 9 [c0] = some y0 := by simpa [cells9] using hf 0 _ rfl
    have g1 : DataW.trod enc Tryz.prog w base (fun _ => true) held n 9 [c1] = some y1 := by simpa [cells9] using hf 1 _ rfl
    have hWE : (DataW.weightsEach Tryz.prog [9, 9] [y0.1, y1.1]).all (· ≤ reachBytes) = true := by
      rw [hx] at hW
      simp only [DataW.weights, Tryz.underlying82] at hW
      exact hW
    obtain ⟨s0, e0, hy0, _⟩ := DataW.trod_string Tryz.underlying9 g0
    obtain ⟨s1, e1, hy1, _⟩ := DataW.trod_string Tryz.underlying9 g1
    injection e0 with e0 _
    injection e1 with e1 _
    subst e0
    subst e1
    exact ⟨⟨s0, s1⟩, rfl, str_le hy0 (weight_each hWE (j := 0) rfl rfl), str_le hy1 (weight_each hWE (j := 1) rfl rfl)⟩
theorem i64_wf {z : Int} (h : (Lit.int .i64 z).wf = true) : -9223372036854775808 ≤ z ∧ z ≤ 9223372036854775807 := by
  simp [Lit.wf, IntKind.min, IntKind.max, IntKind.bits, IntKind.signed] at h
  omega
set_option maxRecDepth 100000 in
/-- A type opened. -/
theorem type_open {H : Type} {enc : TypeId × Value → H} {w : World} {base : Nat} {held : Bool} (fuel : Nat) (cs : List Value) (x : DataW H × List MemPlace) (h : DataW.trod enc Tryz.prog w base (fun _ => true) held fuel 29 cs = some x) (hW : (x.1.weights Tryz.prog 29).all (· ≤ reachBytes) = true) : ∃ t, Tpi w t cs.toArray := by
  obtain ⟨xs, n, _, hx, hlen, hxl, hf⟩ := DataW.trod_struct Tryz.underlying29 h
  rw [cellsTp] at hlen
  match cs, hlen, xs, hxl with
  | [c0, c1, c2, c3, c4, c5, c6, c7, c8], _, [y0, y1, y2, y3, y4, y5, y6, y7], _ =>
    have g0 : DataW.trod enc Tryz.prog w base (fun _ => true) held n 9 [c0] = some y0 := by simpa [cells9] using hf 0 _ rfl
    have g1 : DataW.trod enc Tryz.prog w base (fun _ => true) held n 3 [c1] = some y1 := by simpa [cells3] using hf 1 _ rfl
    have g2 : DataW.trod enc Tryz.prog w base (fun _ => true) held n 2 [c2] = some y2 := by simpa [cells2] using hf 2 _ rfl
    have g3 : DataW.trod enc Tryz.prog w base (fun _ => true) held n 2 [c3] = some y3 := by simpa [cells2] using hf 3 _ rfl
    have g4 : DataW.trod enc Tryz.prog w base (fun _ => true) held n 24 [c4, c5] = some y4 := by simpa [cellsRf] using hf 4 _ rfl
    have g5 : DataW.trod enc Tryz.prog w base (fun _ => true) held n 25 [c6] = some y5 := by simpa [cellsFs] using hf 5 _ rfl
    have g6 : DataW.trod enc Tryz.prog w base (fun _ => true) held n 26 [c7] = some y6 := by simpa [cellsCs] using hf 6 _ rfl
    have g7 : DataW.trod enc Tryz.prog w base (fun _ => true) held n 27 [c8] = some y7 := by simpa [cellsWs] using hf 7 _ rfl
    have hWE : (DataW.weightsEach Tryz.prog [9, 3, 2, 2, 24, 25, 26, 27] [y0.1, y1.1, y2.1, y3.1, y4.1, y5.1, y6.1, y7.1]).all (· ≤ reachBytes) = true := by
      rw [hx] at hW
      simp only [DataW.weights, Tryz.underlying29] at hW
      exact hW
    obtain ⟨s0, e0, hy0, _⟩ := DataW.trod_string Tryz.underlying9 g0
    obtain ⟨n1, e1, _, w1⟩ := DataW.trod_int Tryz.underlying3 g1
    obtain ⟨n2, e2, _, w2⟩ := DataW.trod_int Tryz.underlying2 g2
    obtain ⟨n3, e3, _, w3⟩ := DataW.trod_int Tryz.underlying2 g3
    obtain ⟨r, e4, e5, hr⟩ := ref_open g4 (weight_each hWE (j := 4) rfl rfl)
    obtain ⟨fs, h5⟩ := gsl_open (P := Fdi) Tryz.underlying25 cellsFd (by rw [bytesFd]; decide) (by decide) (fun f c hc => by rw [hc.1]; rfl) field_open g5 (weight_each hWE (j := 5) rfl rfl)
    obtain ⟨cz, h6⟩ := gsl_open (P := Czi) Tryz.underlying26 cellsCz (by rw [bytesCz]; decide) (by decide) (fun f c hc => by rw [hc.1]; rfl) case_open g6 (weight_each hWE (j := 6) rfl rfl)
    obtain ⟨ws, h7⟩ := ssl_open g7 (weight_each hWE (j := 7) rfl rfl)
    injection e0 with e0 _
    injection e1 with e1 _
    injection e2 with e2 _
    injection e3 with e3 _
    subst e0
    subst e1
    subst e2
    subst e3
    subst e4
    subst e5
    exact ⟨⟨s0, n1, n2, n3, r, fs, cz, ws⟩, ⟨⟨c6, c7, c8, rfl, h5, h6, h7⟩, ⟨str_le hy0 (weight_each hWE (j := 0) rfl rfl), hr, i64_wf w1, i64_wf w2, i64_wf w3⟩⟩⟩
theorem types_open {H : Type} {enc : TypeId × Value → H} {w : World} {base fuel : Nat} {held : Bool} {v : Value} {x : DataW H × List MemPlace} (h : DataW.trod enc Tryz.prog w base (fun _ => true) held fuel 22 [v] = some x) (hW : (x.1.weights Tryz.prog 22).all (· ≤ reachBytes) = true) : ∃ l, TSl w v l :=
  gsl_open (P := Tpi) Tryz.underlying22 cellsTp (by rw [bytesTp]; decide) (by decide) (fun _ _ hc => hc.size9) type_open h hW
end
section
open Go.ChangeShapes Go.WideShapes Go.ChangeAt Go.RowKit Go.Deep Go.Joins
theorem cellsTn2 : Tryz.prog.cellsOf 31 = 11 := by kernel_rfl
theorem cellsTs2 : Tryz.prog.cellsOf 22 = 1 := by kernel_rfl
theorem bytes9 : Tryz.prog.bytesOf 9 = 16 := by kernel_rfl
set_option maxRecDepth 100000 in
/-- A slice's length by its weight. -/
theorem len_open {H : Type} {enc : TypeId × Value → H} {S T : TypeId} {w : World} {base fuel : Nat} {held : Bool} {a : Option Addr} {n cap : Nat} {x : DataW H × List MemPlace} (hS : Tryz.prog.underlying S = some (.slice T)) (h : DataW.trod enc Tryz.prog w base (fun _ => true) held fuel S [.slice a n cap] = some x) (hW : (x.1.weights Tryz.prog S).all (· ≤ reachBytes) = true) : n * Tryz.prog.bytesOf T ≤ 140737488351232 := by
  rcases DataW.trod_slice hS h with ⟨hcs, _⟩ | ⟨a', len, cap', elems, rest, m, hfm, hcs, hx9, hb, hl, hm, hlen2, hel, _, _⟩
  · injection hcs with hcs _
    injection hcs with _ e _
    rw [e, Nat.zero_mul]
    exact Nat.zero_le _
  · injection hcs with hcs _
    injection hcs with _ e _
    have h1 := weight_le hW (n := ((elems.map (·.1)).length + (rest.map (·.1)).length) * Tryz.prog.bytesOf T) (by rw [hx9]; simp only [DataW.weights, hS]; exact List.mem_cons_self ..)
    rw [List.length_map] at h1
    refine Nat.le_trans (Nat.mul_le_mul_right _ ?_) (show _ ≤ 140737488351232 from h1)
    omega
set_option maxRecDepth 100000 in
/-- A type's lists by their weight. -/
theorem type_wide {H : Type} {enc : TypeId × Value → H} {w : World} {base : Nat} {held : Bool} (fuel : Nat) (c0 c1 c2 c3 c4 c5 c6 c7 c8 : Value) (x : DataW H × List MemPlace) (h : DataW.trod enc Tryz.prog w base (fun _ => true) held fuel 29 [c0, c1, c2, c3, c4, c5, c6, c7, c8] = some x) (hW : (x.1.weights Tryz.prog 29).all (· ≤ reachBytes) = true) (t : Tp) (ht : Tpi w t #[c0, c1, c2, c3, c4, c5, c6, c7, c8]) : t.fs.length ≤ 2199023255552 ∧ t.cs.length ≤ 4398046511104 ∧ t.ws.length ≤ 8796093022208 := by
  obtain ⟨xs, n, _, hx, hlen, hxl, hf⟩ := DataW.trod_struct Tryz.underlying29 h
  match xs, hxl with
  | [y0, y1, y2, y3, y4, y5, y6, y7], _ =>
    have g5 : DataW.trod enc Tryz.prog w base (fun _ => true) held n 25 [c6] = some y5 := by simpa [cells9, cells3, cells2, cellsRf, cellsFs, cellsCs, cellsWs] using hf 5 _ rfl
    have g6 : DataW.trod enc Tryz.prog w base (fun _ => true) held n 26 [c7] = some y6 := by simpa [cells9, cells3, cells2, cellsRf, cellsFs, cellsCs, cellsWs] using hf 6 _ rfl
    have g7 : DataW.trod enc Tryz.prog w base (fun _ => true) held n 27 [c8] = some y7 := by simpa [cells9, cells3, cells2, cellsRf, cellsFs, cellsCs, cellsWs] using hf 7 _ rfl
    have hWE : (DataW.weightsEach Tryz.prog [9, 3, 2, 2, 24, 25, 26, 27] [y0.1, y1.1, y2.1, y3.1, y4.1, y5.1, y6.1, y7.1]).all (· ≤ reachBytes) = true := by
      rw [hx] at hW
      simp only [DataW.weights, Tryz.underlying29] at hW
      exact hW
    obtain ⟨⟨vf, vc, vw, e, ⟨⟨af, cf, ef, _⟩, _⟩, ⟨⟨ac, cc, ec, _⟩, _⟩, ⟨⟨aw, cw, ew, _⟩, _⟩⟩, _⟩ := ht
    unfold tpc at e
    have e' := congrArg Array.toList e
    simp only [List.cons.injEq] at e'
    obtain ⟨_, _, _, _, _, _, e6, e7, e8, _⟩ := e'
    rw [e6, ef] at g5
    rw [e7, ec] at g6
    rw [e8, ew] at g7
    have h5 := len_open Tryz.underlying25 g5 (weight_each hWE (j := 5) rfl rfl)
    have h6 := len_open Tryz.underlying26 g6 (weight_each hWE (j := 6) rfl rfl)
    have h7 := len_open Tryz.underlying27 g7 (weight_each hWE (j := 7) rfl rfl)
    rw [bytesFd] at h5
    rw [bytesCz] at h6
    rw [bytes9] at h7
    exact ⟨Nat.le_trans ((Nat.le_div_iff_mul_le (by decide)).2 h5) (by decide), Nat.le_trans ((Nat.le_div_iff_mul_le (by decide)).2 h6) (by decide), Nat.le_trans ((Nat.le_div_iff_mul_le (by decide)).2 h7) (by decide)⟩
set_option maxRecDepth 100000 in
/-- The whole of a Turned: its list, where it begins, the type more. -/
theorem turned_open2 {H : Type} {enc : TypeId × Value → H} {w : World} {base b0 : Nat} {r : Reach} {held : Bool} {v : Value} {d : DataW H} {p : List MemPlace} (hv : Value.okWide Tryz.prog w r b0 31 v) (h : DataW.Trod enc Tryz.prog w base (fun _ => true) held 31 v d p) (hW : (d.weights Tryz.prog 31).all (· ≤ reachBytes) = true) :
    ∃ (vL : Value) (m : Int) (c2 c3 c4 c5 c6 c7 c8 c9 c10 : Value) (l : List Tp) (t : Tp), v = .agg #[vL, .int .i64 m, c2, c3, c4, c5, c6, c7, c8, c9, c10] ∧ TSl w vL l ∧ Tpi w t #[c2, c3, c4, c5, c6, c7, c8, c9, c10] ∧ t.fs.length ≤ 2199023255552 ∧ t.cs.length ≤ 4398046511104 ∧ t.ws.length ≤ 8796093022208 := by
  obtain ⟨cs, rfl, hsz⟩ := okWide_struct Tryz.underlying31 hv
  obtain ⟨l⟩ := cs
  match l, hsz.trans cellsTn2 with
  | [vL, c1, c2, c3, c4, c5, c6, c7, c8, c9, c10], _ =>
    obtain ⟨fuel, hf⟩ := h
    obtain ⟨xs, n, _, hx, hl, hlen, hff⟩ := DataW.trod_struct Tryz.underlying31 hf
    match xs, hlen with
    | [y0, y1, y2], _ =>
      have g0 : DataW.trod enc Tryz.prog w base (fun _ => true) held n 22 [vL] = some y0 := by simpa [Value.cells, cellsTs2] using hff 0 _ rfl
      have g1 : DataW.trod enc Tryz.prog w base (fun _ => true) held n 3 [c1] = some y1 := by simpa [Value.cells, cellsTs2, cells3] using hff 1 _ rfl
      have g2 : DataW.trod enc Tryz.prog w base (fun _ => true) held n 29 [c2, c3, c4, c5, c6, c7, c8, c9, c10] = some y2 := by simpa [Value.cells, cellsTs2, cells3, cellsTp] using hff 2 _ rfl
      have hd : d = .agg [y0.1, y1.1, y2.1] := by
        have := congrArg Prod.fst hx
        simpa using this
      have hWE : (DataW.weightsEach Tryz.prog [22, 3, 29] [y0.1, y1.1, y2.1]).all (· ≤ reachBytes) = true := by
        rw [hd] at hW
        simp only [DataW.weights, Tryz.underlying31] at hW
        exact hW
      obtain ⟨ts, hts⟩ := types_open g0 (weight_each hWE (j := 0) rfl rfl)
      obtain ⟨m, e1, _, _⟩ := DataW.trod_int Tryz.underlying3 g1
      obtain ⟨t, ht⟩ := type_open n _ y2 g2 (weight_each hWE (j := 2) rfl rfl)
      injection e1 with e1 _
      subst e1
      exact ⟨vL, m, c2, c3, c4, c5, c6, c7, c8, c9, c10, ts, t, rfl, hts, ht, type_wide n _ _ _ _ _ _ _ _ _ y2 g2 (weight_each hWE (j := 2) rfl rfl) t ht⟩
end
section
open Go.RowKit Go
theorem acc_eq : (Rows.laid_unicode_utf8_acceptRanges : DataW Unit) = Lib.acceptData := by kernel_rfl
theorem fst_eq : Rows.laid_unicode_utf8_first = Lib.firstData := by kernel_rfl
end
section
open Go.ChangeShapes Go.WideShapes Go.ChangeAt Go.RowKit Go Go.Lib
theorem biN : Tryz.prog.globalNamed "trellis/schema.builtIn" = some 0 := by kernel_rfl
theorem biT : (Tryz.prog.globals[0]?).map (·.type) = some 73 := by kernel_rfl
theorem biC : Tryz.prog.cellsOf 72 = 2 := by kernel_rfl
theorem biS : Tryz.prog.cellsOf 9 = 1 := by kernel_rfl
theorem biI : Tryz.prog.cellsOf 3 = 1 := by kernel_rfl
def biD : List (DataW Unit) := owns.map fun p => .agg [.lit (.string p.1.data.toList), .lit (.int .i64 (p.2 : Nat))]
theorem bi_eq : (Rows.laid_trellis_schema_builtIn : DataW Unit) = .agg biD := by kernel_rfl
theorem ocs_at : ∀ (i : Nat) (p : ByteArray × Nat), owns[i]? = some p → ocs[2 * i]? = some (.string p.1) ∧ ocs[2 * i + 1]? = some (.int .i64 (p.2 : Nat)) := fun i p h => by
  rcases i with _ | _ | _ | _ | _ | _ | _ | _ | _ | i
  all_goals first
    | (obtain rfl := Option.some.inj h; exact ⟨rfl, rfl⟩)
    | (simp [owns] at h)
theorem otb_of_reads {w : World} (h : VarReads Tryz.prog w "trellis/schema.builtIn" (.agg biD)) : Otb w := by
  obtain ⟨g, t, cs, fuel, p, hg, hty, hvar, hd⟩ := h
  obtain rfl := Option.some.inj (biN.symm.trans hg)
  obtain rfl := Option.some.inj (biT.symm.trans hty)
  have key : ∀ i q, owns[i]? = some q → w.cell? ⟨0, 2 * i, none⟩ = some (.string q.1) ∧ w.cell? ⟨0, 2 * i + 1, none⟩ = some (.int .i64 (q.2 : Nat)) := fun i q hq => by
    have hi : i < 9 := by have := (List.getElem?_eq_some_iff.1 hq).1; rw [owns_len] at this; exact this
    obtain ⟨fuel', d, r, hdi, he⟩ := array_elem Tryz.underlying73 hd i hi
    rw [biC] at he
    unfold biD at hdi
    rw [List.getElem?_map, hq] at hdi
    have hdi := (Option.some.inj hdi).symm
    subst hdi
    obtain ⟨y0, y1, n, hx, _, h0, h1⟩ := trod_struct2 Tryz.underlying72 he
    obtain ⟨s, e0, hy0, _⟩ := DataW.trod_string Tryz.underlying9 h0
    obtain ⟨z, e1, hy1, _⟩ := DataW.trod_int Tryz.underlying3 h1
    have hx1 := congrArg Prod.fst hx
    simp only [DataW.agg.injEq, List.cons.injEq, and_true] at hx1
    rw [hy0, hy1] at hx1
    have hs : q.1.data.toList = s.data.toList := by
      have := hx1.1
      simpa using this
    have hz : ((q.2 : Nat) : Int) = z := by
      have := hx1.2
      simpa using this
    have hs2 : s = q.1 := by
      obtain ⟨⟨l⟩⟩ := s
      obtain ⟨⟨⟨m⟩⟩, _⟩ := q
      simp only at hs
      rw [hs]
    subst hs2
    subst hz
    rw [World.var?_cell hg hvar (2 * i), World.var?_cell hg hvar (2 * i + 1), ← Array.getElem?_toList, ← Array.getElem?_toList]
    have c0 := congrArg (·[0]?) e0
    have c1 := congrArg (·[0]?) e1
    simp only [biS, biI, List.getElem?_take, List.getElem?_drop] at c0 c1
    exact ⟨by simpa [Nat.mul_comm] using c0, by simpa [Nat.mul_comm] using c1⟩
  refine ⟨fun j u hj => ?_⟩
  rw [Nat.zero_add]
  have hj18 : j < 18 := (Array.getElem?_eq_some_iff.1 hj).1
  obtain ⟨q, hq⟩ : ∃ q, owns[j / 2]? = some q := ⟨owns[j / 2]'(by rw [owns_len]; omega), List.getElem?_eq_getElem _⟩
  obtain ⟨a1, a2⟩ := key _ _ hq
  obtain ⟨b1, b2⟩ := ocs_at _ _ hq
  rcases Nat.mod_two_eq_zero_or_one j with hm | hm
  · have e : 2 * (j / 2) = j := by omega
    rw [e] at a1 b1
    rw [a1, ← hj, b1]
  · have e : 2 * (j / 2) + 1 = j := by omega
    rw [e] at a2 b2
    rw [a2, ← hj, b2]
theorem tabs11_of_laid {W : World} (h : laidMet Tryz.prog [("unicode/utf8.acceptRanges", Rows.laid_unicode_utf8_acceptRanges), ("trellis/schema.builtIn", Rows.laid_trellis_schema_builtIn), ("unicode/utf8.first", Rows.laid_unicode_utf8_first)] W) : Tabs W ∧ Otb W := by
  rw [acc_eq, fst_eq, bi_eq] at h
  exact ⟨utf8Tabs_of_readsT (U8Types.of196 Tryz.laysValid) ⟨by kernel_rfl, by kernel_rfl, by kernel_rfl, by kernel_rfl, by kernel_rfl, by kernel_rfl, by kernel_rfl⟩ (Lib.laidMet.reads h (.tail _ (.tail _ (.head _)))) (Lib.laidMet.reads h (.head _)), otb_of_reads (Lib.laidMet.reads h (.tail _ (.head _)))⟩
/-- The settled world, the three tables laid. -/
noncomputable def laidWorld11 (os : Os) : World :=
  let w0 := World.holding Tryz.prog os ⟨#[], #[], []⟩
  let put (h : Array Obj) (g : Nat) (cs : Array Value) : Array Obj := h.modify g fun
    | .cells _ t frozen => .cells cs t frozen
    | o => o
  let h1 := put w0.heap 1 (Lib.firstTab.map fun z => Value.int .u8 z).toArray
  let h2 := put h1 2 ((List.range 16).flatMap fun i => [Value.int .u8 (Lib.accLo i), Value.int .u8 (Lib.accHi i)]).toArray
  let h3 := put h2 0 ocs
  { w0 with heap := h3 }
theorem laid_met11 (os : Os) (args : Array Value) : laidMet Tryz.prog [("unicode/utf8.acceptRanges", Rows.laid_unicode_utf8_acceptRanges), ("trellis/schema.builtIn", Rows.laid_trellis_schema_builtIn), ("unicode/utf8.first", Rows.laid_unicode_utf8_first)] ((laidWorld11 os).forCall (fun _ _ => 0) ⟨#[], args, []⟩).memory := by
  rw [acc_eq, fst_eq]
  exact (LaidIn.of_run (l := [("unicode/utf8.acceptRanges", Lib.acceptData), ("trellis/schema.builtIn", Rows.laid_trellis_schema_builtIn), ("unicode/utf8.first", Lib.firstData)]) [2, 0, 1] 8 (by kernel_rfl) (by kernel_rfl) (by kernel_rfl) (by kernel_rfl)).met
end
end Go.Proofs.YtagkogpjckjobaaGreatDoor

import Derived.Test.YtglbllkmhedlfaaDoorJi
import Derived.Test.YtglbllkmhedlfaaDoorJd
import Derived.Test.YtglbllkmhedlfaaDoorJa
import Derived.Test.YtglbllkmhedlfaaDoorJc
namespace Go.Proofs.YtglbllkmhedlfaaDoor
section
open Go.RowKit Go
/-- What the reference's Order does. -/
def OrdC (ks : List ByteArray) : Prop := ∀ (w : World) (v : Value), SSl w v ks → ks.length ≤ 100000 → Calls Tryd.prog 25 #[v] w fun e w' => ∃ v' ps, e = .returned v' ∧ Srp ks ks.length ps ∧ w'.ownsRow w.heap.size 3 1 v' ps.length (ivs ps) ∧ Below w.heap.size w w'
theorem SSl.take {w : World} {b off n cap h : Nat} {ks : List ByteArray} (hs : SSl w (.slice (some ⟨b, off, none⟩) n cap) ks) (hh : h ≤ ks.length) : SSl w (.slice (some ⟨b, off, none⟩) h cap) (ks.take h) := by
  obtain ⟨⟨a, c, hv, hn, hc⟩, h1, h2⟩ := hs
  injection hv with e1 e2 e3
  subst e1 e2 e3
  have hl : (ks.take h).length = h := by rw [List.length_take]; omega
  refine ⟨⟨_, _, by rw [hl], ⟨by omega, hn.2⟩, ?_⟩, by omega, fun s hs => h2 s (List.mem_of_mem_take hs)⟩
  rcases hc with hc | ⟨b', off', ha, hc⟩
  · exact .inl (by rw [hc]; simp)
  · refine .inr ⟨b', off', ha, fun j s hj => hc j s ?_⟩
    have hjl := (List.getElem?_eq_some_iff.1 hj).1
    rw [List.getElem?_take_of_lt (by omega)] at hj
    exact hj
theorem SSl.drop {w : World} {b off n cap h : Nat} {ks : List ByteArray} (hs : SSl w (.slice (some ⟨b, off, none⟩) n cap) ks) (hh : h ≤ ks.length) : SSl w (.slice (some ⟨b, off + h, none⟩) (n - h) (cap - h)) (ks.drop h) := by
  obtain ⟨⟨a, c, hv, hn, hc⟩, h1, h2⟩ := hs
  injection hv with e1 e2 e3
  subst e1 e2 e3
  have hl : (ks.drop h).length = ks.length - h := List.length_drop
  refine ⟨⟨_, _, by rw [hl], ⟨by omega, fun h => by cases h⟩, ?_⟩, by omega, fun s hs => h2 s (List.mem_of_mem_drop hs)⟩
  rcases hc with hc | ⟨b', off', ha, hc⟩
  · exact .inl (by rw [hc]; simp)
  · injection ha with ha
    injection ha with ha1 ha2
    subst ha1 ha2
    refine .inr ⟨_, _, rfl, fun j s hj => ?_⟩
    rw [Nat.add_assoc]
    rw [List.getElem?_drop] at hj
    exact hc _ s hj
set_option maxRecDepth 1000000 in
theorem OrdC.small {ks : List ByteArray} (h : ks.length ≤ 1) : OrdC ks := by
  intro w v hv hl
  obtain ⟨⟨a, cap, rfl, hn, hc⟩, h1, h2⟩ := hv
  clear hc h1 h2 hl hn
  by_cases h0 : ks.length = 0
  · as_aux_lemma =>
    have e : ks = [] := List.length_eq_zero_iff.1 h0
    subst e
    go_enter Tryd.func25, Tryd.ntmps25
    go_wp2_with fail
    go_ret
    exact ⟨_, [], rfl, srp_nil, World.ownsRow_nil _ _ _ _, Below.refl _ _⟩
  · as_aux_lemma =>
    obtain ⟨s, e⟩ := List.length_eq_one_iff.1 (show ks.length = 1 by omega)
    subst e
    clear h h0
    go_enter Tryd.func25, Tryd.ntmps25
    go_wp2_with (at_builtin; refine append_nat rfl _ _ rfl w.heap.size _ [] rfl (World.ownsRow_nil _ _ _ _) 0 rfl (by simp) (Nat.le_refl _) ?_)
    intro v5 w5 ho5 hb5
    have HO5 := hide ho5
    have HB5 := hide hb5
    clear ho5 hb5
    go_wp2_with fail
    go_ret
    exact ⟨_, [0], rfl, srp_single s, HO5.out, HB5.out⟩
set_option maxRecDepth 1000000 in
set_option maxHeartbeats 20000000 in
theorem order_step (ks : List ByteArray) (ih : ∀ l : List ByteArray, l.length < ks.length → OrdC l) : OrdC ks := by
  intro w v hv hl
  by_cases hsm : ks.length ≤ 1
  · exact OrdC.small hsm w v hv hl
  have HS0 := hide hv
  have HIH := hide ih
  clear ih
  obtain ⟨⟨a, cap, rfl, hn, hc⟩, h1, h2⟩ := hv
  have HSZ := hide h2
  obtain ⟨b, off, rfl, hcc⟩ := hc.resolve_left (fun h => by rw [h] at hsm; simp at hsm)
  have HCC := hide hcc
  clear hc hcc h1 h2
  have hcap := hn.1
  clear hn
  obtain ⟨h, hh⟩ : ∃ h, h = ks.length / 2 := ⟨_, rfl⟩
  have hq : ((ks.length : Int) / 2) = (h : Int) := by omega
  have hq2 : Int.tdiv (ks.length : Int) 2 = (h : Int) := by rw [Int.tdiv_eq_ediv_of_nonneg (by omega)]; exact hq
  have hhl : h < ks.length := by omega
  have hhp : 0 < h := by omega
  have g1 : ((ks.length : Int) == 1) = false := beq_eq_false_iff_ne.2 (by omega)
  have g0 : ((ks.length : Int) == 0) = false := beq_eq_false_iff_ne.2 (by omega)
  have gh : (h : Int) ≤ (cap : Int) := by omega
  have gh2 : (h : Int) ≤ (ks.length : Int) := by omega
  have gc : (ks.length : Int) ≤ (cap : Int) := by omega
  have HN : Hid (h = ks.length / 2) := hh
  have HBe : Hid (Below w.heap.size w w) := Below.refl _ _
  clear hh hsm
  go_enter Tryd.func25, Tryd.ntmps25
  go_wp2_with fail
  refine (HIH.out (ks.take h) (by rw [List.length_take]; omega) w _ (HS0.out.take (by omega)) (by rw [List.length_take]; omega)).mono ?_
  rintro e w1 ⟨va, pa, rfl, hsa, hoa, hb1⟩
  have hla : (ks.take h).length = h := by rw [List.length_take]; omega
  rw [hla] at hsa
  have hpa : pa.length = h := hsa.len
  have HSA := hide hsa
  have HB1 := hide hb1
  have hia : ISl w1 va pa := ISl.own hoa rfl (by omega)
  have HIA := hide hia
  clear hsa hoa hb1 hia hla
  go_wp2_with fail
  refine (HIH.out (ks.drop h) (by rw [List.length_drop]; omega) w1 _ ((HS0.out.move (keep_below HB1.out)).drop (by omega)) (by rw [List.length_drop]; omega)).mono ?_
  rintro e w3 ⟨vb, pb, rfl, hsb, hob, hb2⟩
  rw [List.length_drop] at hsb
  have hpb : pb.length = ks.length - h := hsb.len
  have HSB := hide hsb
  have hib : ISl w3 vb pb := ISl.own hob rfl (by omega)
  have hia : ISl w3 va pa := HIA.out.move (keep_below hb2)
  have HB3 : Hid (Below w.heap.size w w3) := HB1.out.trans (hb2.mono HB1.out.size)
  have HC3 : Hid (∀ j s, ks[j]? = some s → w3.cell? ⟨b, off + j, none⟩ = some (.string s)) := fun j s hj => keep_below HB3.out _ _ (HCC.out j s hj)
  have HPA : Hid (∀ p ∈ pa, p < h) := HSA.out.lt
  have HPB : Hid (∀ p ∈ pb, p < ks.length - h) := HSB.out.lt
  have HWA := hide (srp_left HSA.out)
  have HWB := hide (srp_right HSB.out)
  clear hsb hob hb2 HIA HB1 HCC HS0 HIH gh gh2 gc g0 g1 hq hq2
  obtain ⟨⟨aa, ca, rfl, hna, hca⟩, _⟩ := hia
  obtain ⟨ba, oa, rfl, hcca⟩ := hca.resolve_left (fun h => by rw [h] at hpa; simp at hpa; omega)
  obtain ⟨⟨ab, cb, rfl, hnb, hcb⟩, _⟩ := hib
  obtain ⟨bb, ob, rfl, hccb⟩ := hcb.resolve_left (fun h => by rw [h] at hpb; simp at hpb; omega)
  have HCA := hide hcca
  have HCB := hide hccb
  have HPL : Hid (pa.length = h ∧ pb.length = ks.length - h) := ⟨hpa, hpb⟩
  have hpa2 : pa.length ≤ 100000 := by omega
  have hpb2 : pb.length ≤ 100000 := by omega
  clear hca hcca hcb hccb hna hnb w1 hpa hpb
  go_wp2_with fail
  go_loopw [3, 7, 8] (fun vv ii kk wx => ∃ (i k : Nat) (os : List Nat), i ≤ pa.length ∧ k ≤ pb.length ∧ ii = .int .i64 (i : Nat) ∧ kk = .int .i64 (k : Nat) ∧ Hid (Mrg ks pa (pb.map (h + ·)) i k os) ∧ Hid (wx.ownsRow w3.heap.size 3 1 vv os.length (ivs os)) ∧ Hid (Below w3.heap.size w3 wx)) (fun _ ii kk _ => pa.length + pb.length - (intOf ii).toNat - (intOf kk).toNat)
  case atStart => exact ⟨0, 0, [], by omega, by omega, rfl, rfl, Mrg.start _ _ _, World.ownsRow_nil _ _ _ _, Below.refl _ _⟩
  case round =>
    obtain ⟨i, k, os, hi, hk, rfl, rfl, HM, HO, HBw⟩ := hrel
    obtain ⟨ax, cx, hvx⟩ := own_slice HO.out
    subst hvx
    have HLN : Hid (os.length < 1099511627776) := by
      have h1 := HM.out.len hi (by rw [List.length_map]; exact hk)
      show _ < _
      omega
    have hce : ∀ (p : Addr) (x : Value), w3.cell? p = some x → ∀ t : Ext wr, t.w'.cell? p = some x := fun p x hx t => keep_below t.h _ _ (keep_below HBw.out _ _ hx)
    by_cases hkb : k < pb.length
    · obtain ⟨y, hy⟩ : ∃ y, pb[k]? = some y := ⟨pb[k], List.getElem?_eq_getElem hkb⟩
      have hyl := HPB.out y (List.mem_of_getElem? hy)
      obtain ⟨m, hm⟩ : ∃ m, m = h + y := ⟨_, rfl⟩
      obtain ⟨sy, hsy⟩ : ∃ s, ks[m]? = some s := ⟨ks[m], List.getElem?_eq_getElem (by omega)⟩
      have HMY : Hid ((pb.map (h + ·))[k]? = some m) := by show _ = _; rw [List.getElem?_map, hy, hm]; rfl
      have HKY : Hid (kat ks m = sl sy) := by show sl (ks.getD _ _) = _; rw [List.getD_eq_getElem?_getD, hsy]; rfl
      have HSY := hide (HSZ.out sy (List.mem_of_getElem? hsy))
      have cB := hce _ _ (HCB.out k y hy)
      have cBw := keep_below HBw.out _ _ (HCB.out k y hy)
      have cE := hce _ _ (HC3.out _ sy hsy)
      have gk : (k : Int) < (pb.length : Int) := by omega
      have gke : ((k : Int) == (pb.length : Int)) = false := beq_eq_false_iff_ne.2 (by omega)
      have ey : (h : Int) + (y : Int) = (m : Int) := by omega
      have wm : IntKind.i64.wrap (m : Int) = (m : Int) := by rw [IntKind.wrap_i64]; omega
      have gy2 : (m : Int) < (ks.length : Int) := by omega
      have HML : Hid (m < ks.length) := by show _ < _; omega
      clear hm
      clear hy hsy
      by_cases hia : i < pa.length
      · obtain ⟨x, hx⟩ : ∃ x, pa[i]? = some x := ⟨pa[i], List.getElem?_eq_getElem hia⟩
        have hxl := HPA.out x (List.mem_of_getElem? hx)
        obtain ⟨sx, hsx⟩ : ∃ s, ks[x]? = some s := ⟨ks[x], List.getElem?_eq_getElem (by omega)⟩
        have HMX := hide hx
        have HKX : Hid (kat ks x = sl sx) := by show sl (ks.getD _ _) = _; rw [List.getD_eq_getElem?_getD, hsx]; rfl
        have cA := hce _ _ (HCA.out i x hx)
        have cAw := keep_below HBw.out _ _ (HCA.out i x hx)
        have cF := hce _ _ (HC3.out _ sx hsx)
        have gi : (i : Int) < (pa.length : Int) := by omega
        have gx : (x : Int) < (ks.length : Int) := by omega
        have HBC0 : Hid (∀ t : Ext wr, Calls Tryd.prog 39 #[.string sy, .string sx] t.w' fun e w'' => e = .returned (.bool (bfr (sl sy) (sl sx))) ∧ ∃ t' : Ext wr, w'' = t'.w') := fun t => Calls.ext_below (rbefore_any t.w' sy sx (by have := HSY.out; omega))
        clear hx hsx hce
        rcases Bool.eq_false_or_eq_true (bfr (sl sy) (sl sx)) with hbf | hbf
        · as_aux_lemma =>
          have HBC := HBC0
          rw [hbf] at HBC
          have HM2 : Hid (Mrg ks pa (pb.map (h + ·)) i (k + 1) (os ++ [m])) := HM.out.right HWA.out HWB.out HMY.out (fun x' hx' => by
            have e := hx'.symm.trans HMX.out
            injection e with e
            rw [e, HKX.out, HKY.out]
            exact bfr_asym hbf)
          clear HBC0 hbf HM
          go_wp2_with fail
          refine region_ext (by kernel_rfl) (by kernel_rfl) ?_
          repeat (
            with_reducible refine wpQuiet_step (fun K hK => ?_)
            go_simp
            first
              | (with_reducible refine hK _ ?_; clear hK K)
              | (rw [if_neg (by decide)]; with_reducible refine hK _ ?_; clear hK K)
              | (apply Exists.intro
                 refine ⟨fun _ => ?_, hK _ ?_⟩
                 (go_at_call 39; exact HBC.out _)
                 clear hK K))
          refine wpQuiet_nil ?_
          rintro _ ⟨tq, rfl⟩
          have HB2 : Hid (Below w3.heap.size w3 tq.w') := HBw.out.trans (tq.h.mono HBw.out.size)
          have HO2 : Hid (tq.w'.ownsRow w3.heap.size 3 1 (.slice ax os.length cx) os.length (ivs os)) := (Kp.of_below (S := fun _ => False) tq.h).owns HO.out (fun _ _ e => e)
          have cA2 := keep_below tq.h _ _ cBw
          clear HBw HO HBC cE cF cBw
          generalize tq.w' = w4 at *
          clear tq
          go_wp2_with (at_builtin; refine append_nat rfl _ _ rfl w3.heap.size _ os rfl HO2.out m rfl HLN.out HB2.out.size ?_)
          intro v5 w5 ho5 hb5
          have HO5 : Hid (w5.ownsRow w3.heap.size 3 1 v5 (os ++ [m]).length (ivs (os ++ [m]))) := by show World.ownsRow _ _ _ _ _ _ _; rw [List.length_append]; exact ho5
          have HB5 : Hid (Below w3.heap.size w3 w5) := HB2.out.trans hb5
          clear ho5 hb5 HO2 HB2
          go_wp2_with fail
          go_roundw
          case rel => exact ⟨i, k + 1, _, by omega, by omega, by go_num, by go_num, HM2, HO5, HB5⟩
          case measure => simp [intOf]; omega
        · as_aux_lemma =>
          have HBC := HBC0
          rw [hbf] at HBC
          have HM2 : Hid (Mrg ks pa (pb.map (h + ·)) (i + 1) k (os ++ [x])) := HM.out.left HWA.out HWB.out HMX.out (fun y' hy' => by
            have e := hy'.symm.trans HMY.out
            injection e with e
            rw [e, HKX.out, HKY.out]
            exact hbf)
          clear HBC0 hbf HM
          go_wp2_with fail
          refine region_ext (by kernel_rfl) (by kernel_rfl) ?_
          repeat (
            with_reducible refine wpQuiet_step (fun K hK => ?_)
            go_simp
            first
              | (with_reducible refine hK _ ?_; clear hK K)
              | (rw [if_neg (by decide)]; with_reducible refine hK _ ?_; clear hK K)
              | (apply Exists.intro
                 refine ⟨fun _ => ?_, hK _ ?_⟩
                 (go_at_call 39; exact HBC.out _)
                 clear hK K))
          refine wpQuiet_nil ?_
          rintro _ ⟨tq, rfl⟩
          have HB2 : Hid (Below w3.heap.size w3 tq.w') := HBw.out.trans (tq.h.mono HBw.out.size)
          have HO2 : Hid (tq.w'.ownsRow w3.heap.size 3 1 (.slice ax os.length cx) os.length (ivs os)) := (Kp.of_below (S := fun _ => False) tq.h).owns HO.out (fun _ _ e => e)
          have cA2 := keep_below tq.h _ _ cAw
          clear HBw HO HBC cE cF cAw
          generalize tq.w' = w4 at *
          clear tq
          go_wp2_with (at_builtin; refine append_nat rfl _ _ rfl w3.heap.size _ os rfl HO2.out x rfl HLN.out HB2.out.size ?_)
          intro v5 w5 ho5 hb5
          have HO5 : Hid (w5.ownsRow w3.heap.size 3 1 v5 (os ++ [x]).length (ivs (os ++ [x]))) := by show World.ownsRow _ _ _ _ _ _ _; rw [List.length_append]; exact ho5
          have HB5 : Hid (Below w3.heap.size w3 w5) := HB2.out.trans hb5
          clear ho5 hb5 HO2 HB2
          go_wp2_with fail
          go_roundw
          case rel => exact ⟨i + 1, k, _, by omega, by omega, by go_num, by go_num, HM2, HO5, HB5⟩
          case measure => simp [intOf]; omega
      · as_aux_lemma =>
        have hie : i = pa.length := by omega
        subst hie
        clear hia hi
        have HM2 : Hid (Mrg ks pa (pb.map (h + ·)) pa.length (k + 1) (os ++ [m])) := HM.out.right HWA.out HWB.out HMY.out (fun x' hx' => by
          have := (List.getElem?_eq_some_iff.1 hx').1
          omega)
        clear HM hce
        go_wp2_with fail
        refine region_ext (by kernel_rfl) (by kernel_rfl) ?_
        repeat (
          with_reducible refine wpQuiet_step (fun K hK => ?_)
          go_simp
          first
            | (with_reducible refine hK _ ?_; clear hK K)
            | (rw [if_neg (by decide)]; with_reducible refine hK _ ?_; clear hK K))
        refine wpQuiet_nil ?_
        rintro _ ⟨tq, rfl⟩
        have HB2 : Hid (Below w3.heap.size w3 tq.w') := HBw.out.trans (tq.h.mono HBw.out.size)
        have HO2 : Hid (tq.w'.ownsRow w3.heap.size 3 1 (.slice ax os.length cx) os.length (ivs os)) := (Kp.of_below (S := fun _ => False) tq.h).owns HO.out (fun _ _ e => e)
        have cA2 := keep_below tq.h _ _ cBw
        clear HBw HO cBw
        generalize tq.w' = w4 at *
        clear tq
        go_wp2_with (at_builtin; refine append_nat rfl _ _ rfl w3.heap.size _ os rfl HO2.out m rfl HLN.out HB2.out.size ?_)
        intro v5 w5 ho5 hb5
        have HO5 : Hid (w5.ownsRow w3.heap.size 3 1 v5 (os ++ [m]).length (ivs (os ++ [m]))) := by show World.ownsRow _ _ _ _ _ _ _; rw [List.length_append]; exact ho5
        have HB5 : Hid (Below w3.heap.size w3 w5) := HB2.out.trans hb5
        clear ho5 hb5 HO2 HB2
        go_wp2_with fail
        go_roundw
        case rel => exact ⟨pa.length, k + 1, _, by omega, by omega, by go_num, by go_num, HM2, HO5, HB5⟩
        case measure => simp [intOf]; omega
    · have HKE : Hid (k = pb.length) := by show _ = _; omega
      by_cases hia : i < pa.length
      · as_aux_lemma =>
        obtain ⟨x, hx⟩ : ∃ x, pa[i]? = some x := ⟨pa[i], List.getElem?_eq_getElem hia⟩
        have cAw := keep_below HBw.out _ _ (HCA.out i x hx)
        have gi : (i : Int) < (pa.length : Int) := by omega
        have hke := HKE.out
        subst hke
        clear HKE hkb hk
        have HM2 : Hid (Mrg ks pa (pb.map (h + ·)) (i + 1) pb.length (os ++ [x])) := HM.out.left HWA.out HWB.out hx (fun y' hy' => by
          have := (List.getElem?_eq_some_iff.1 hy').1
          rw [List.length_map] at this
          omega)
        clear HM hce hx
        go_wp2_with fail
        refine region_ext (by kernel_rfl) (by kernel_rfl) ?_
        repeat (
          with_reducible refine wpQuiet_step (fun K hK => ?_)
          go_simp
          first
            | (with_reducible refine hK _ ?_; clear hK K)
            | (rw [if_neg (by decide)]; with_reducible refine hK _ ?_; clear hK K))
        refine wpQuiet_nil ?_
        rintro _ ⟨tq, rfl⟩
        have HB2 : Hid (Below w3.heap.size w3 tq.w') := HBw.out.trans (tq.h.mono HBw.out.size)
        have HO2 : Hid (tq.w'.ownsRow w3.heap.size 3 1 (.slice ax os.length cx) os.length (ivs os)) := (Kp.of_below (S := fun _ => False) tq.h).owns HO.out (fun _ _ e => e)
        have cA2 := keep_below tq.h _ _ cAw
        clear HBw HO cAw
        generalize tq.w' = w4 at *
        clear tq
        go_wp2_with (at_builtin; refine append_nat rfl _ _ rfl w3.heap.size _ os rfl HO2.out x rfl HLN.out HB2.out.size ?_)
        intro v5 w5 ho5 hb5
        have HO5 : Hid (w5.ownsRow w3.heap.size 3 1 v5 (os ++ [x]).length (ivs (os ++ [x]))) := by show World.ownsRow _ _ _ _ _ _ _; rw [List.length_append]; exact ho5
        have HB5 : Hid (Below w3.heap.size w3 w5) := HB2.out.trans hb5
        clear ho5 hb5 HO2 HB2
        go_wp2_with fail
        go_roundw
        case rel => exact ⟨i + 1, pb.length, _, by omega, by omega, by go_num, by go_num, HM2, HO5, HB5⟩
        case measure => simp [intOf]; omega
      · as_aux_lemma =>
        have gi : ¬ (i : Int) < (pa.length : Int) := by omega
        have gi2 : ¬ i < pa.length := by omega
        have gi3 : decide (i < pa.length) = false := decide_eq_false gi2
        have gi4 : decide ((i : Int) < (pa.length : Int)) = false := decide_eq_false gi
        have gk : ¬ (k : Int) < (pb.length : Int) := by omega
        have HR : Hid (Srp ks ks.length os) := by
          have e1 : i = pa.length := by omega
          have h1 := HM.out
          rw [e1, HKE.out] at h1
          exact h1.done HSA.out HSB.out (by omega)
        have HBZ : Hid (Below w.heap.size w wr) := HB3.out.trans (HBw.out.mono HB3.out.size)
        have HOZ : Hid (wr.ownsRow w.heap.size 3 1 (.slice ax os.length cx) os.length (ivs os)) := own_mono HO.out HB3.out.size
        clear HM hce
        go_wp2_with fail
        go_ret
        exact ⟨_, rfl, os, HR.out, HOZ.out, HBZ.out⟩
theorem orderR_any (ks : List ByteArray) : OrdC ks := by
  have key : ∀ N, ∀ l : List ByteArray, l.length = N → OrdC l := by
    intro N
    induction N using Nat.strongRecOn with
    | _ N ih =>
      intro l hl
      exact order_step l fun m hm => ih m.length (by omega) m rfl
  exact key _ ks rfl
end
section
open Go.RowKit Go
/-- What the reference's Sorted has in hand: its argument's block, the result's, the copy's (g), rows behind it, the order (vl). -/
structure Tus (w wx : World) (g : Nat) (cs : Array Value) (t : Tv) (vy vK vI vl : Value) (ps : List Nat) (kk : List ByteArray) (ms : List Tv) (L : List (Array Value)) : Prop where
  b : Below w.heap.size w wx
  p : wx.heap[w.heap.size]? = some (.cells cs 38 (0, 0))
  r : wx.heap[w.heap.size + 1]? = some (.cells zv 38 (0, 0))
  gg : w.heap.size + 2 ≤ g
  x : wx.heap[g]? = some (.cells (vcs t vy vK vI) 38 (0, 0))
  y : wx.ownsRow (w.heap.size + 2) 5 1 vy t.y.length (bv t.y)
  yg : ∀ q, vy.ownBlock = some q → q < g
  l : wx.ownsRow (g + 1) 3 1 vl ps.length (ivs ps)
  k : wx.ownsRow (g + 1) 9 1 vK kk.length (sv kk)
  o : wx.ownsRow (g + 1) 38 13 vI L.length (vfl L)
  n : L.length = ms.length
  h : ∀ c ∈ L, one13 c
  t : ∀ (j : Nat) (u : Tv) (c : Array Value), ms[j]? = some u → L[j]? = some c → Tis wx (fun q => q ≤ g ∨ vK.ownBlock = some q ∨ vI.ownBlock = some q) u c
theorem own_dis {w : World} {B B' n n' s s' : Nat} {v v' : Value} {e e' : TypeId} {xs ys : List Value} (h : w.ownsRow B e s v n xs) (h' : w.ownsRow B' e' s' v' n' ys) (hne : e ≠ e') (q : Nat) (h1 : v.ownBlock = some q) (h2 : v'.ownBlock = some q) : False := by
  rcases h.2 with ⟨e1, _⟩ | ⟨g1, c1, cur1, e1, _, e2, _⟩
  · rw [e1] at h1
    cases h1
  rcases h'.2 with ⟨e3, _⟩ | ⟨g2, c2, cur2, e3, _, e4, _⟩
  · rw [e3] at h2
    cases h2
  rw [e1] at h1
  rw [e3] at h2
  injection h1 with h1
  injection h2 with h2
  have h1 : g1 = q := h1
  have h2 : g2 = q := h2
  subst h1
  subst h2
  rw [e2] at e4
  injection e4 with e4
  injection e4 with _ e4 _
  exact hne e4
theorem Tus.next {w wx wy : World} {g : Nat} {cs : Array Value} {t : Tv} {vy vK vI vl : Value} {ps : List Nat} {kk : List ByteArray} {ms : List Tv} {L : List (Array Value)} (h : Tus w wx g cs t vy vK vI vl ps kk ms L) (hb : Below wx.heap.size wx wy) : Tus w wy g cs t vy vK vI vl ps kk ms L := by
  have hk : Kp (fun _ => False) wx wy := Kp.of_below hb
  exact ⟨h.b.trans (hb.mono h.b.size), (hb.block _ (blk_lt h.p)).trans h.p, (hb.block _ (blk_lt h.r)).trans h.r, h.gg, (hb.block _ (blk_lt h.x)).trans h.x, hk.owns h.y (fun _ _ e => e), h.yg, hk.owns h.l (fun _ _ e => e), hk.owns h.k (fun _ _ e => e), hk.owns h.o (fun _ _ e => e), h.n, h.h, fun j u c hu hc => (h.t j u c hu hc).kp (Kp.of_below hb)⟩
/-- A key more. -/
theorem Tus.addk {w wx wy : World} {g : Nat} {cs : Array Value} {t : Tv} {vy vK vI vl vK2 : Value} {ps : List Nat} {kk kk2 : List ByteArray} {ms : List Tv} {L : List (Array Value)} (h : Tus w wx g cs t vy vK vI vl ps kk ms L) (ho : wy.ownsRow (g + 1) 9 1 vK2 kk2.length (sv kk2)) (hg : wx.grownBy wy vK.ownBlock) (hq : vK2.ownBlock = vK.ownBlock ∨ vK2.ownBlock = some wx.heap.size) : Tus w (wy.setCell ⟨g, 11, none⟩ vK2) g cs t vy vK2 vI vl ps kk2 ms L := by
  have hk1 : Kp (fun q => vK.ownBlock = some q) wx wy := (Kp.refl _ _).grown hg (fun k _ e => e)
  have hgg := h.gg
  have hlt := fun q hq => h.k.lt q hq
  have hli := fun q hq => h.o.lt q hq
  have hxl := blk_lt h.x
  have hx2 : wy.heap[g]? = some (.cells (vcs t vy vK vI) 38 (0, 0)) := (hk1.block _ hxl (fun e => by have := hlt _ e; omega)).trans h.x
  have hk2 : Kp (fun q => q = g) wy (wy.setCell ⟨g, 11, none⟩ vK2) := (Kp.refl _ _).setCell _ _ (fun _ => rfl)
  have hkA : Kp (fun q => vK.ownBlock = some q ∨ q = g) wx (wy.setCell ⟨g, 11, none⟩ vK2) := (hk1.mono (fun _ _ e => .inl e)).trans hk2 (fun _ _ e => .inr e)
  have hb := h.b.size
  have hl2 := fun q hq => ho.lt q hq
  refine ⟨h.b.trans (hkA.below hb (fun q e => by rcases e with e | e; have := hlt _ e; omega; omega)), ?_, ?_, h.gg, ?_, ?_, h.yg, ?_, ?_, ?_, h.n, h.h, ?_⟩
  · exact (hkA.block _ (blk_lt h.p) (fun e => by rcases e with e | e; have := hlt _ e; omega; omega)).trans h.p
  · exact (hkA.block _ (blk_lt h.r) (fun e => by rcases e with e | e; have := hlt _ e; omega; omega)).trans h.r
  · rw [blk_set 11 _ hx2, setK]
  · exact hkA.owns h.y (fun q hq e => by have h1 := h.yg q hq; rcases e with e | e; have := hlt _ e; omega; omega)
  · exact hkA.owns h.l (fun q hq e => by
      rcases e with e | e
      · exact own_dis h.l h.k (by decide) q hq e
      · have := h.l.lt q hq
        omega)
  · exact hk2.owns ho (fun q hq e => by have := hl2 q hq; omega)
  · refine hkA.owns h.o (fun q hq e => ?_)
    rcases e with e | e
    · exact own_dis h.k h.o (by decide) q e hq
    · have := hli q hq
      omega
  · intro j u c hu hc
    refine ((h.t j u c hu hc).widen.kp (hkA.mono (fun q _ e => ?_))).mono (fun q e => ?_)
    · rcases e with e | e
      · exact .inl (.inr (.inl e))
      · exact .inl (.inl (by omega))
    · rcases e with e | e | e
      · exact .inl (.inl e)
      · rcases hq with e2 | e2
        · exact .inl (.inr (.inl (e2.symm.trans e)))
        · rw [e2] at e
          injection e with e
          exact .inr (by omega)
      · exact .inl (.inr (.inr e))
/-- An item more. -/
theorem Tus.addi {w wx wy : World} {g : Nat} {cs : Array Value} {t : Tv} {vy vK vI vl vI2 : Value} {ps : List Nat} {kk : List ByteArray} {ms : List Tv} {L : List (Array Value)} {u : Tv} {c : Array Value} (h : Tus w wx g cs t vy vK vI vl ps kk ms L) (hc1 : one13 c) (hu : Tis wx (fun q => q ≤ g ∨ vK.ownBlock = some q ∨ vI.ownBlock = some q) u c) (ho : wy.ownsRow (g + 1) 38 13 vI2 (L.length + 1) (vfl L ++ c.toList)) (hg : wx.grownBy wy vI.ownBlock) (hq : vI2.ownBlock = vI.ownBlock ∨ vI2.ownBlock = some wx.heap.size) : Tus w (wy.setCell ⟨g, 12, none⟩ vI2) g cs t vy vK vI2 vl ps kk (ms ++ [u]) (L ++ [c]) := by
  have hk1 : Kp (fun q => vI.ownBlock = some q) wx wy := (Kp.refl _ _).grown hg (fun k _ e => e)
  have hgg := h.gg
  have hlt := fun q hq => h.k.lt q hq
  have hli := fun q hq => h.o.lt q hq
  have hxl := blk_lt h.x
  have hx2 : wy.heap[g]? = some (.cells (vcs t vy vK vI) 38 (0, 0)) := (hk1.block _ hxl (fun e => by have := hli _ e; omega)).trans h.x
  have hk2 : Kp (fun q => q = g) wy (wy.setCell ⟨g, 12, none⟩ vI2) := (Kp.refl _ _).setCell _ _ (fun _ => rfl)
  have hkA : Kp (fun q => vI.ownBlock = some q ∨ q = g) wx (wy.setCell ⟨g, 12, none⟩ vI2) := (hk1.mono (fun _ _ e => .inl e)).trans hk2 (fun _ _ e => .inr e)
  have hb := h.b.size
  have hl2 := fun q hq => ho.lt q hq
  have hT : ∀ (x : Tv) (d : Array Value), Tis wx (fun q => q ≤ g ∨ vK.ownBlock = some q ∨ vI.ownBlock = some q) x d → Tis (wy.setCell ⟨g, 12, none⟩ vI2) (fun q => q ≤ g ∨ vK.ownBlock = some q ∨ vI2.ownBlock = some q) x d := fun x d hx => by
    refine (hx.widen.kp (hkA.mono (fun q _ e => ?_))).mono (fun q e => ?_)
    · rcases e with e | e
      · exact .inl (.inr (.inr e))
      · exact .inl (.inl (by omega))
    · rcases e with e | e | e
      · exact .inl (.inl e)
      · exact .inl (.inr (.inl e))
      · rcases hq with e2 | e2
        · exact .inl (.inr (.inr (e2.symm.trans e)))
        · rw [e2] at e
          injection e with e
          exact .inr (by omega)
  refine ⟨h.b.trans (hkA.below hb (fun q e => by rcases e with e | e; have := hli _ e; omega; omega)), ?_, ?_, h.gg, ?_, ?_, h.yg, ?_, ?_, ?_, by simp [h.n], ?_, ?_⟩
  · exact (hkA.block _ (blk_lt h.p) (fun e => by rcases e with e | e; have := hli _ e; omega; omega)).trans h.p
  · exact (hkA.block _ (blk_lt h.r) (fun e => by rcases e with e | e; have := hli _ e; omega; omega)).trans h.r
  · rw [blk_set 12 _ hx2, setI]
  · exact hkA.owns h.y (fun q hq e => by have h1 := h.yg q hq; rcases e with e | e; have := hli _ e; omega; omega)
  · exact hkA.owns h.l (fun q hq e => by
      rcases e with e | e
      · exact own_dis h.l h.o (by decide) q hq e
      · have := h.l.lt q hq
        omega)
  · refine hkA.owns h.k (fun q hq e => ?_)
    rcases e with e | e
    · exact own_dis h.k h.o (by decide) q hq e
    · have := hlt q hq
      omega
  · have h2 := hk2.owns ho (fun q hq e => by have := hl2 q hq; omega)
    rw [List.length_append, vfl_app]
    have e : vfl [c] = c.toList := by simp [vfl]
    rw [e]
    exact h2
  · intro d hd
    rcases List.mem_append.1 hd with hd | hd
    · exact h.h d hd
    · rw [List.mem_singleton.1 hd]
      exact hc1
  · intro j x d hx hd
    have hn := h.n
    rcases Nat.lt_or_ge j ms.length with h1 | h1
    · rw [List.getElem?_append_left h1] at hx
      rw [List.getElem?_append_left (by omega)] at hd
      exact hT x d (h.t j x d hx hd)
    · rw [List.getElem?_append_right h1] at hx
      rw [List.getElem?_append_right (by omega)] at hd
      have e1 := (List.getElem?_eq_some_iff.1 hx).1
      simp at e1
      have e2 : j - ms.length = 0 := by omega
      have e3 : j - L.length = 0 := by omega
      rw [e2] at hx
      rw [e3] at hd
      simp at hx hd
      rw [← hx, ← hd]
      exact hT u c hu
theorem Tus.tis {w wx wz : World} {g : Nat} {cs : Array Value} {t : Tv} {vy vK vI vl : Value} {ps : List Nat} {kk : List ByteArray} {ms : List Tv} {L : List (Array Value)} (h : Tus w wx g cs t vy vK vI vl ps kk ms L) (hb : Tbd t) (hyb : ∀ x ∈ t.y, x < 256) (hkp : Kp (fun q => q = w.heap.size + 1) wx wz) (hkz : ∀ s ∈ kk, s.size ≤ 140737488351232) (hkl : kk.length ≤ 140737488351232) (hml : ms.length ≤ 140737488351232) : Tis wz (fun q => q < w.heap.size) (Tv.mk t.k t.f t.g t.n t.b t.s t.y t.l kk ms) (vcs t vy vK vI) := by
  have hz := h.b.size
  have hgg := h.gg
  have hyz := hkp.owns h.y (fun q hq e => by have := h.y.lt q hq; omega)
  have hkz2 := hkp.owns h.k (fun q hq e => by have := h.k.lt q hq; omega)
  have hoz := hkp.owns h.o (fun q hq e => by have := h.o.lt q hq; omega)
  have hn := h.n
  have hbig : ∀ c ∈ L, c.size = 13 := fun c hc => (h.h c hc).1
  obtain ⟨a, cap, hvI, hcap, hform⟩ : ∃ a cap, vI = .slice a ms.length cap ∧ (ms.length ≤ cap ∧ (a = none → cap = 0)) ∧ (ms = [] ∨ ∃ b off, a = some ⟨b, off, none⟩ ∧ ¬ b < w.heap.size ∧ ∀ i, i < ms.length → ∀ j u, (L.getD i #[])[j]? = some u → wz.cell? ⟨b, off + i * 13 + j, none⟩ = some u) := by
    rcases id hoz.2 with ⟨e, h0⟩ | ⟨g', cap, cur, e, _, _, h1, _⟩
    · have e2 : ms = [] := List.length_eq_zero_iff.1 (by omega)
      subst e2
      exact ⟨none, 0, e, ⟨by simp, fun _ => rfl⟩, .inl rfl⟩
    · refine ⟨_, cap, by rw [e, hn], ⟨by omega, fun h => by cases h⟩, .inr ⟨g', 0, rfl, fun hs => ?_, fun i hi j u hu => ?_⟩⟩
      · have h2 := hoz.lt g' (by rw [e]; rfl)
        omega
      · rw [Nat.zero_add]
        have hc : L[i]? = some (L[i]'(by omega)) := List.getElem?_eq_getElem (by omega)
        have hoz2 := hoz
        rw [e] at hoz2
        refine own_val hoz2 hbig hc j u ?_
        rw [List.getD_eq_getElem?_getD, hc] at hu
        exact hu
  refine Tis.mk (Tv.mk t.k t.f t.g t.n t.b t.s t.y t.l kk ms) vy vK vI ⟨hb.n, hb.b, hb.s, hb.y, hb.l, hb.d⟩ (BSl.own hyz hyb) (fun _ q hq hs => by have := hyz.lt q hq; omega) (SSl.own hkz2 rfl hkl hkz) (fun _ q hq hs => by have := h.k.lt q hq; omega) (fun i => L.getD i #[]) a cap hvI hcap hml (fun i u hu => ?_) hform
  have hil := (List.getElem?_eq_some_iff.1 hu).1
  have hil2 : i < ms.length := hil
  have hc : L[i]? = some (L[i]'(by omega)) := List.getElem?_eq_getElem (by omega)
  have h1 := (h.t i u _ hu hc).kp (hkp.mono (fun q _ e => .inl (by omega)))
  have h2 := h1.mono (fun q (e : q < w.heap.size) => .inl (by omega))
  rw [List.getD_eq_getElem?_getD, hc]
  exact h2
end
section
open Go.RowKit Go
def RsrC (t : Tv) : Prop := ∀ (w : World) (cs : Array Value), Tin w t cs → Trk t → tmuch t ≤ 100000 → Calls Tryd.prog 16 #[.agg cs] w fun e w' => ∃ c s, e = .returned (.agg c) ∧ Tis w' (fun q => q < w.heap.size) s c ∧ SrtR t s ∧ Below w.heap.size w w'
theorem end_rs6 {wx : World} {R : Nat} {c : Array Value} {tmps : Array Value} (hn : c.size = 13) (hr : wx.heap[R]? = some (.cells c 38 (0, 0))) (hp : tmps.getD 2 undef = .pointer (some ⟨R, 0, none⟩)) : (results Tryd.f16 tmps).run Tryd.prog wx = .ok (.agg c) wx := by
  refine (results_one (p := 2) (ty := 38) rfl _ _ _).trans ?_
  rw [hp]
  have h1 := run_loadVar_row (P := Tryd.prog) wx R 38 38 c (0, 0) _ hr Tryd.underlying38 rfl (by rw [hn]; exact infoV)
  simp [asAddr, h1, Result.andThen]
/-- What a region of Sorted holds throughout. -/
def S16 (w : World) (cs : Array Value) (g : Nat) (vl : Value) (ps : List Nat) (wy : World) : Prop := Below w.heap.size w wy ∧ wy.heap[w.heap.size]? = some (.cells cs 38 (0, 0)) ∧ wy.ownsRow (g + 1) 3 1 vl ps.length (ivs ps)
set_option maxRecDepth 1000000 in
set_option maxHeartbeats 8000000 in
theorem rsorted_step (t : Tv) (ih : ∀ u ∈ t.is, RsrC u) : RsrC t := by
  intro w cs ht hk hm
  have HIH := hide ih
  have HTI := hide ht
  have HTK := hide hk
  have hme := tmuch_eq t
  have HMM := hide hm
  have HML : Hid (tmuchL t.is ≤ 100000 ∧ t.is.length ≤ 100000 ∧ t.ks.length ≤ 100000) := by
    have := tmuchL_len t.is
    exact ⟨by omega, by omega, by omega⟩
  have HSZ := hide ht.size13
  clear ih hk hm hme
  obtain ⟨vy0, vk0, vi0, rfl, hy, hkk, hvv, hb⟩ := ht.parts
  have HBD := hide hb
  have HSK := hide hkk
  obtain ⟨⟨ak, ck, rfl, _, hkf⟩, hkm, hkz⟩ := hkk
  obtain ⟨⟨ai, ci, rfl, _, hfi⟩, hvm⟩ := hvv
  have HFI := hide hfi
  have HKF := hide hkf
  have HKZ := hide hkz
  have HYB := hide hy.byte
  have HC0 : Hid ((vcs t vy0 (.slice ak t.ks.length ck) (.slice ai t.is.length ci))[0]? = some (.int .i64 t.k)) := rfl
  have HC11 : Hid ((vcs t vy0 (.slice ak t.ks.length ck) (.slice ai t.is.length ci))[11]? = some (.slice ak t.ks.length ck)) := rfl
  have HC12 : Hid ((vcs t vy0 (.slice ak t.ks.length ck) (.slice ai t.is.length ci))[12]? = some (.slice ai t.is.length ci)) := rfl
  generalize vcs t vy0 (.slice ak t.ks.length ck) (.slice ai t.is.length ci) = cs at *
  clear ht hb hy hfi hkf hkz
  have HP0 : Hid (((w.alloc (.cells cs 38)).alloc (.cells zv 38)).heap[w.heap.size]? = some (.cells cs 38 (0, 0))) := blk_alloc _ (heap_alloc_new w _)
  have HR0 : Hid (((w.alloc (.cells cs 38)).alloc (.cells zv 38)).heap[w.heap.size + 1]? = some (.cells zv 38 (0, 0))) := by
    have h := heap_alloc_new (w.alloc (.cells cs 38)) (.cells zv 38)
    have e : (w.alloc (.cells cs 38)).heap.size = w.heap.size + 1 := by simp
    rw [e] at h
    exact h
  have HB0 : Hid (Below w.heap.size w ((w.alloc (.cells cs 38)).alloc (.cells zv 38))) := (below_alloc4 w _).trans ((below_alloc4 _ _).mono (by simp))
  have HZ0 : Hid (((w.alloc (.cells cs 38)).alloc (.cells zv 38)).heap.size = w.heap.size + 2) := by show _ = _; simp
  have HV0 : Hid (∀ j u, cs[j]? = some u → ((w.alloc (.cells cs 38)).alloc (.cells zv 38)).cell? ⟨w.heap.size, 0 + j, none⟩ = some u) := fun j u hu => by rw [Nat.zero_add]; exact blk_cell HP0.out hu
  unfold zv at HP0 HB0 HZ0 HV0
  have HR0' : Hid (((w.alloc (.cells cs 38)).alloc (.cells #[.int .i64 0, .bool false, .bool false, .int .u64 0, .int .u64 0, .string ⟨#[]⟩, .slice none 0 0, .int .i64 0, .int .u64 0, .int .u64 0, .string ⟨#[]⟩, .slice none 0 0, .slice none 0 0] 38)).heap[w.heap.size + 1]? = some (.cells zv 38 (0, 0))) := HR0.out
  clear HR0
  go_enter Tryd.func16, Tryd.ntmps16
  go_upto_region 1 with fail
  generalize ((w.alloc (.cells cs 38)).alloc (.cells #[.int .i64 0, .bool false, .bool false, .int .u64 0, .int .u64 0, .string ⟨#[]⟩, .slice none 0 0, .int .i64 0, .int .u64 0, .int .u64 0, .string ⟨#[]⟩, .slice none 0 0, .slice none 0 0] 38)) = w0 at *
  go_wp2_with (refine wpList_valAt rfl rfl w.heap.size 0 cs rfl HSZ.out HV0.out ?_)
  refine (copyValue_any t w0 cs (HTI.out.move (keep_below HB0.out)) HMM.out).mono ?_
  rintro e w1 ⟨c1, rfl, hn1, hb1⟩
  have HON := hide hn1.one
  cases hn1 with
  | mk _ vy vk1 vi1 L1 hbd1 hyb1 hy1 hgy1 hk1 hgk1 hkl1 hks1 hv1 hgi1 hil1 hL1 h131 hcs1 =>
  have HI1 : Hid ((w1.alloc (.cells (vcs t vy vk1 vi1) 38)).heap[w1.heap.size]? = some (.cells (vcs t vy vk1 vi1) 38 (0, 0))) := heap_alloc_new w1 _
  have HB2 : Hid (Below w1.heap.size w1 (w1.alloc (.cells (vcs t vy vk1 vi1) 38))) := below_alloc4 w1 _
  have HBR : Hid (Below w0.heap.size w0 (w1.alloc (.cells (vcs t vy vk1 vi1) 38))) := hb1.trans (HB2.out.mono hb1.size)
  have HY2 : Hid ((w1.alloc (.cells (vcs t vy vk1 vi1) 38)).ownsRow (w.heap.size + 2) 5 1 vy t.y.length (bv t.y)) := by
    have h := (Kp.of_below (S := fun _ => False) HB2.out).owns hy1 (fun _ _ h => h)
    rw [HZ0.out] at h
    exact h
  have HYG := hide hgy1
  have HGE : Hid (w.heap.size + 2 ≤ w1.heap.size) := by have := hb1.size; have := HZ0.out; show _ ≤ _; omega
  have HAL : Hid ((vcs t vy vk1 vi1).all (·.oneCell') = true) := by
    show _ = _
    rw [Array.all_eq_true']
    intro x hx
    exact HON.out.2 x (by simpa using hx)
  have HG1 : Hid ((w1.alloc (.cells zv 38)).heap[w1.heap.size]? = some (.cells zv 38 (0, 0))) := heap_alloc_new w1 _
  have HP2 : Hid ((w1.alloc (.cells (vcs t vy vk1 vi1) 38)).heap[w.heap.size]? = some (.cells cs 38 (0, 0))) := (HBR.out.block _ (blk_lt HP0.out)).trans HP0.out
  have HR2 : Hid ((w1.alloc (.cells (vcs t vy vk1 vi1) 38)).heap[w.heap.size + 1]? = some (.cells zv 38 (0, 0))) := (HBR.out.block _ (blk_lt HR0'.out)).trans HR0'.out
  have HBW : Hid (Below w.heap.size w (w1.alloc (.cells (vcs t vy vk1 vi1) 38))) := HB0.out.trans (HBR.out.mono HB0.out.size)
  have c12 := blk_cell (j := 12) HI1.out rfl
  have f12 := blk_frozen 12 HI1.out
  have HX3 : Hid (((w1.alloc (.cells (vcs t vy vk1 vi1) 38)).setCell ⟨w1.heap.size, 12, none⟩ (.slice none 0 0)).heap[w1.heap.size]? = some (.cells (vcs t vy vk1 (.slice none 0 0)) 38 (0, 0))) := blk_set 12 _ HI1.out
  have c11 := blk_cell (j := 11) HX3.out rfl
  have f11 := blk_frozen 11 HX3.out
  have HT0 : Hid (Tus w (((w1.alloc (.cells (vcs t vy vk1 vi1) 38)).setCell ⟨w1.heap.size, 12, none⟩ (.slice none 0 0)).setCell ⟨w1.heap.size, 11, none⟩ (.slice none 0 0)) w1.heap.size cs t vy (.slice none 0 0) (.slice none 0 0) (.slice none 0 0) [] [] [] []) := by
    have hk1 : Kp (fun q => q = w1.heap.size) (w1.alloc (.cells (vcs t vy vk1 vi1) 38)) (((w1.alloc (.cells (vcs t vy vk1 vi1) 38)).setCell ⟨w1.heap.size, 12, none⟩ (.slice none 0 0)).setCell ⟨w1.heap.size, 11, none⟩ (.slice none 0 0)) := by
      have h1 : Kp (fun q => q = w1.heap.size) (w1.alloc (.cells (vcs t vy vk1 vi1) 38)) ((w1.alloc (.cells (vcs t vy vk1 vi1) 38)).setCell ⟨w1.heap.size, 12, none⟩ (.slice none 0 0)) := (Kp.refl _ _).setCell _ _ (fun _ => rfl)
      exact h1.setCell _ _ (fun _ => rfl)
    have hge := HGE.out
    refine ⟨HBW.out.trans (hk1.below HBW.out.size (fun q e => by omega)), (hk1.block _ (blk_lt HP2.out) (by omega)).trans HP2.out, (hk1.block _ (blk_lt HR2.out) (by omega)).trans HR2.out, hge, ?_, hk1.owns HY2.out (fun q hq e => by have := HYG.out q hq; omega), HYG.out, World.ownsRow_nil _ _ _ _, World.ownsRow_nil _ _ _ _, World.ownsRow_nil _ _ _ _, rfl, by simp, by simp⟩
    exact blk_set 11 _ HX3.out
  have q0 := blk_cell (j := 0) HT0.out.p HC0.out
  have q11 := blk_cell (j := 11) HT0.out.p HC11.out
  clear hbd1 hyb1 hy1 hgy1 hk1 hgk1 hkl1 hks1 hv1 hgi1 hil1 hL1 h131 hcs1 hb1 HON HI1 HB2 HBR HY2 HYG HP2 HR2 HBW HX3
  by_cases h9 : t.k = 9
  · have g9 : (t.k == 9) = true := beq_iff_eq.2 h9
    go_wp2_with (refine wpList_storeRow rfl rfl w1.heap.size zv (vcs t vy vk1 vi1) 38 rfl rfl HG1.out infoV rfl HAL.out ?_; rw [World.setRow_alloc_new]; generalize w1.alloc (.cells (vcs t vy vk1 vi1) 38) = wA at *)
    generalize (wA.setCell ⟨w1.heap.size, 12, none⟩ (.slice none 0 0)).setCell ⟨w1.heap.size, 11, none⟩ (.slice none 0 0) = w2 at *
    clear c11 c12 f11 f12 q0 q11 HG1 HAL HP0 HR0' HB0 HZ0 HV0
    generalize w1.heap.size = g at *
    refine (orderR_any t.ks w2 _ (HSK.out.move (keep_below HT0.out.b)) HML.out.2.2).mono ?_
    rintro e w3 ⟨vl, ps, rfl, hsp, hl3, hb3⟩
    have HSP := hide hsp
    have HT3 : Hid (Tus w w3 g cs t vy (.slice none 0 0) (.slice none 0 0) vl ps [] [] []) := by
      have h := HT0.out.next hb3
      have h2 := blk_lt HT0.out.x
      exact ⟨h.b, h.p, h.r, h.gg, h.x, h.y, h.yg, own_mono hl3 (by omega), h.k, h.o, h.n, h.h, h.t⟩
    have hks := (HTK.out.m h9).1
    have HPS : Hid (ps.length = t.is.length ∧ ∀ (j p : Nat), ps[j]? = some p → p < t.is.length) := ⟨by rw [hsp.len]; exact hks, fun j p hp => by have := hsp.lt p (List.mem_of_getElem? hp); omega⟩
    obtain ⟨al, cl, hvl⟩ := own_slice hl3
    subst hvl
    clear hsp hl3 hb3 HT0
    have hpb : ps.length ≤ 100000 := by have h1 := HPS.out.1; have h2 := HML.out.2.1; omega
    go_wp2_with fail
    go_loopw [5] (fun ii wx => ∃ (i : Nat) (vK vI : Value) (kk : List ByteArray) (ms : List Tv) (L : List (Array Value)), i ≤ ps.length ∧ ii = .int .i64 (i : Nat) ∧ Hid (Tus w wx g cs t vy vK vI (.slice al ps.length cl) ps kk ms L) ∧ Hid (ms.length = i ∧ kk = pickS t.ks (ps.take i)) ∧ Hid (∀ (j p : Nat) (u v : Tv), j < i → ps[j]? = some p → t.is[p]? = some u → ms[j]? = some v → SrtR u v)) (fun ii _ => ps.length - (intOf ii).toNat)
    case atStart => exact ⟨0, _, _, [], [], [], by omega, rfl, HT3, ⟨rfl, by simp [pickS]⟩, fun j p u v hj => absurd hj (by omega)⟩
    case round =>
      clear HT3
      obtain ⟨i, vK, vI, kk, ms, L, hi, rfl, HT, HN, HI⟩ := hrel
      by_cases hlt : i < ps.length
      · as_aux_lemma =>
        have g1 : (i : Int) < (ps.length : Int) := by omega
        obtain ⟨q, hq⟩ : ∃ q, ps[i]? = some q := ⟨ps[i], List.getElem?_eq_getElem hlt⟩
        have hql : q < t.is.length := HPS.out.2 i q hq
        obtain ⟨gl, hgl⟩ : ∃ gl, al = some ⟨gl, 0, none⟩ := by
          rcases HT.out.l.2 with ⟨e, h0⟩ | ⟨g', c, cur, e, _⟩
          · omega
          · injection e with e _ _
            exact ⟨g', e⟩
        subst hgl
        have HPI : Hid ((ivs ps)[i]? = some (.int .i64 (q : Nat))) := by show _ = _; simp [ivs, hq]
        obtain ⟨s, hs⟩ : ∃ s, t.ks[q]? = some s := ⟨t.ks[q], List.getElem?_eq_getElem (by omega)⟩
        obtain ⟨b2, o2, rfl, hkc⟩ := HKF.out.resolve_left (fun h => by rw [h] at hks; simp at hks; omega)
        have HCS := hide (hkc q s hs)
        have HQ := hide hq
        have HKS : Hid (kk ++ [s] = pickS t.ks (ps.take (i + 1))) := by
          show _ = _
          rw [HN.out.2, List.take_add_one, HQ.out]
          simp [pickS, List.getD, hs]
        have gq : (q : Int) < (t.ks.length : Int) := by omega
        have gq2 : (q : Int) < (t.is.length : Int) := by omega
        have HKL : Hid (kk.length ≤ 100000) := by
          have h1 := HN.out.2
          have := HML.out
          have := HPS.out.1
          show _ ≤ _
          rw [h1, pickS_len]
          simp
          omega
        clear hkc hs hq
        obtain ⟨u, hu⟩ : ∃ u, t.is[q]? = some u := ⟨t.is[q], List.getElem?_eq_getElem hql⟩
        obtain ⟨b, off, rfl, hcells⟩ := HFI.out.resolve_left (fun h => by rw [h] at hql; simp at hql)
        obtain ⟨cu, tu, hcu⟩ := hcells q u hu
        have HZU := hide tu.size13
        have HCU := hide hcu
        have HTU := hide tu
        have HUM : Hid (u ∈ t.is) := List.mem_of_getElem? hu
        have HU := hide hu
        clear hcells tu hcu hu
        have HI2 : Hid (∀ t' : Tv, SrtR u t' → ∀ (j p : Nat) (x v : Tv), j < i + 1 → ps[j]? = some p → t.is[p]? = some x → (ms ++ [t'])[j]? = some v → SrtR x v) := fun t' htr j p x v hj hp hx hv => by
          have hml := HN.out.1
          by_cases hji : j = i
          · subst hji
            rw [HQ.out] at hp
            injection hp with hp
            subst hp
            rw [HU.out] at hx
            injection hx with hx
            rw [List.getElem?_append_right (by omega), hml, Nat.sub_self] at hv
            simp at hv
            rw [← hx, ← hv]
            exact htr
          · rw [List.getElem?_append_left (by omega)] at hv
            exact HI.out j p x v (by omega) hp hx hv
        go_wp2_with fail
        go_cut [] from 23 to 35 (fun wx => ∃ v5, Hid (Tus w wx g cs t vy v5 vI (.slice (some ⟨gl, 0, none⟩) ps.length cl) ps (kk ++ [s]) ms L))
        case first => as_aux_lemma =>
          refine heldStart (S := S16 w cs g (.slice (some ⟨gl, 0, none⟩) ps.length cl) ps) (by kernel_rfl) ?_
          have HTD : Hid (Tus w wr.drew g cs t vy vK vI (.slice (some ⟨gl, 0, none⟩) ps.length cl) ps kk ms L) := HT.out.next (by refine Below.drew ?_; exact Below.refl _ _)
          have hS : S16 w cs g (.slice (some ⟨gl, 0, none⟩) ps.length cl) ps wr.drew := ⟨HTD.out.b, HTD.out.p, HTD.out.l⟩
          refine heldTake 0 _ rfl (by kernel_rfl) (by kernel_rfl) (by kernel_rfl) (fun _ _ _ h => h) rfl hS (fun wy hy => by first | (go_simp; done) | (go_simp; rfl) | rfl) ?_
          (try simp only [Act.put]); (try simp only [List.setIfInBounds_toArray, List.set_cons_zero, List.set_cons_succ])
          refine heldTake 2 _ rfl (by kernel_rfl) (by kernel_rfl) (by kernel_rfl) (fun _ _ _ h => h) rfl hS (fun wy hy => by first | (go_simp; done) | (go_simp; rfl) | rfl) ?_
          (try simp only [Act.put]); (try simp only [List.setIfInBounds_toArray, List.set_cons_zero, List.set_cons_succ])
          refine heldTake 4 _ rfl (by kernel_rfl) (by kernel_rfl) (by kernel_rfl) (fun _ _ _ h => h) rfl hS (fun wy hy => by first | (go_simp; done) | (go_simp; rfl) | rfl) ?_
          (try simp only [Act.put]); (try simp only [List.setIfInBounds_toArray, List.set_cons_zero, List.set_cons_succ])
          refine heldTake 5 _ rfl (by kernel_rfl) (by kernel_rfl) (by kernel_rfl) (fun _ _ _ h => h) rfl hS (fun wy hy => by first | (go_simp; done) | (go_simp; rfl) | rfl) ?_
          (try simp only [Act.put]); (try simp only [List.setIfInBounds_toArray, List.set_cons_zero, List.set_cons_succ])
          refine heldTake 3 _ rfl (by kernel_rfl) (by kernel_rfl) (by kernel_rfl) (fun _ _ _ h => h) rfl hS (fun wy hy => by have h0 := blk_cell (j := 11) hy.2.1 HC11.out; first | (go_simp; done) | (go_simp; rfl) | rfl) ?_
          (try simp only [Act.put]); (try simp only [List.setIfInBounds_toArray, List.set_cons_zero, List.set_cons_succ])
          refine heldTake 6 _ rfl (by kernel_rfl) (by kernel_rfl) (by kernel_rfl) (fun _ _ _ h => h) rfl hS (fun wy hy => by first | (go_simp; done) | (go_simp; rfl) | rfl) ?_
          (try simp only [Act.put]); (try simp only [List.setIfInBounds_toArray, List.set_cons_zero, List.set_cons_succ])
          refine heldTake 7 _ rfl (by kernel_rfl) (by kernel_rfl) (by kernel_rfl) (fun _ _ _ h => h) rfl hS (fun wy hy => by have h0 := (own_cell hy.2.2 HPI.out).1; first | (go_simp; done) | (go_simp; rfl) | rfl) ?_
          (try simp only [Act.put]); (try simp only [List.setIfInBounds_toArray, List.set_cons_zero, List.set_cons_succ])
          refine heldTake 8 _ rfl (by kernel_rfl) (by kernel_rfl) (by kernel_rfl) (fun _ _ _ h => h) rfl hS (fun wy hy => by first | (go_simp; done) | (go_simp; rfl) | rfl) ?_
          (try simp only [Act.put]); (try simp only [List.setIfInBounds_toArray, List.set_cons_zero, List.set_cons_succ])
          refine heldTake 9 _ rfl (by kernel_rfl) (by kernel_rfl) (by kernel_rfl) (fun _ _ _ h => h) rfl hS (fun wy hy => by have h0 := keep_below hy.1 _ _ HCS.out; first | (go_simp; done) | (go_simp; rfl) | rfl) ?_
          (try simp only [Act.put]); (try simp only [List.setIfInBounds_toArray, List.set_cons_zero, List.set_cons_succ])
          refine wpAnyH_ready (rs := [1, 10]) (by kernel_rfl) (by simp) ?_
          refine AllReadyH.cons rfl (fun K hK => ?_) (AllReadyH.cons rfl (fun K hK => ?_) AllReadyH.nil)
          · as_aux_lemma =>
            have x11 : wr.cell? ⟨g, 11, none⟩ = some vK := blk_cell (j := 11) HTD.out.x rfl
            go_simp
            refine (Shut.out hK) _ _ hS (fun hS2 => ?_)
            clear hK K hS2
            (try simp only [Act.put]); (try simp only [List.setIfInBounds_toArray, List.set_cons_zero, List.set_cons_succ])
            refine heldStep 10 rfl (by kernel_rfl) (fun K hK => ?_)
            go_simp
            have HGB : Hid ((wr.alloc (.cells #[.string s] 9)).drew.heap[wr.heap.size]? = some (.cells #[.string s] 9 (0, 0))) := heap_alloc_new wr (.cells #[.string s] 9)
            have HTZ : Hid (Tus w (wr.alloc (.cells #[.string s] 9)).drew g cs t vy vK vI (.slice (some ⟨gl, 0, none⟩) ps.length cl) ps kk ms L) := (HT.out.next (below_alloc4 wr (.cells #[.string s] 9))).next (by refine Below.drew ?_; exact Below.refl _ _)
            refine (Hid.out hK) _ _ ⟨HTZ.out.b, HTZ.out.p, HTZ.out.l⟩ (fun hS2 => ?_)
            clear hK K x11 HTD hS2
            (try simp only [Act.put]); (try simp only [List.setIfInBounds_toArray, List.set_cons_zero, List.set_cons_succ])
            refine heldStep 11 rfl (by kernel_rfl) (fun K hK => ?_)
            refine step_append_str rfl _ _ rfl (g + 1) vK kk.length kk rfl HTZ.out.k _ s rfl HGB.out (by have := HKL.out; omega) (by have := blk_lt HTZ.out.x; omega) (fun v5 w5 ho5 hg5 hq5 => ?_)
            obtain ⟨a5, c5, hv5⟩ := own_slice ho5
            subst hv5
            have HT5 : Hid (Tus w (w5.setCell ⟨g, 11, none⟩ (.slice a5 (kk.length + 1) c5)) g cs t vy (.slice a5 (kk.length + 1) c5) vI (.slice (some ⟨gl, 0, none⟩) ps.length cl) ps (kk ++ [s]) ms L) := HTZ.out.addk (by rw [List.length_append]; exact ho5) hg5 hq5
            have hne5 : ¬ vK.ownBlock = some g := fun e => by have := HTZ.out.k.lt _ e; omega
            have hk5 : Kp (fun q => vK.ownBlock = some q) _ w5 := (Kp.refl _ _).grown hg5 (fun k _ e => e)
            have hx5 : w5.heap[g]? = some (.cells (vcs t vy vK vI) 38 (0, 0)) := (hk5.block _ (blk_lt HTZ.out.x) hne5).trans HTZ.out.x
            have c11 : w5.cell? ⟨g, 11, none⟩ = some vK := blk_cell (j := 11) hx5 rfl
            have f11 : w5.frozen? ⟨g, 11, none⟩ = false := blk_frozen 11 hx5
            have hS5 : S16 w cs g (.slice (some ⟨gl, 0, none⟩) ps.length cl) ps w5 := by
              have hgg := HTZ.out.gg
              exact ⟨HTZ.out.b.trans (hk5.below HTZ.out.b.size (fun q e => by have := HTZ.out.k.lt q e; omega)), (hk5.block _ (blk_lt HTZ.out.p) (fun e => by have := HTZ.out.k.lt _ e; omega)).trans HTZ.out.p, hk5.owns HTZ.out.l (fun q h1 h2 => own_dis HTZ.out.l HTZ.out.k (by decide) q h1 h2)⟩
            refine (Hid.out hK) _ _ hS5 (fun hS6 => ?_)
            clear hK K hg5 hq5 ho5 hx5 hS5 hne5 hk5
            (try simp only [Act.put]); (try simp only [List.setIfInBounds_toArray, List.set_cons_zero, List.set_cons_succ])
            refine heldTake 12 _ rfl (by kernel_rfl) (by kernel_rfl) (by kernel_rfl) (fun _ _ _ h => h) rfl hS6 (fun wy hy => by first | (go_simp; done) | (go_simp; rfl) | rfl) ?_
            (try simp only [Act.put]); (try simp only [List.setIfInBounds_toArray, List.set_cons_zero, List.set_cons_succ])
            refine heldStep 13 rfl (by kernel_rfl) (fun K hK => ?_)
            go_simp
            refine (Hid.out hK) _ _ ⟨HT5.out.b, HT5.out.p, HT5.out.l⟩ (fun hS7 => ?_)
            clear hK K
            (try simp only [Act.put]); (try simp only [List.setIfInBounds_toArray, List.set_cons_zero, List.set_cons_succ])
            refine heldDone (by kernel_rfl) ?_
            clear hS hS6 hS7 c11 f11
            go_wp2_with fail
            go_meet
            case rel => exact ⟨_, HT5⟩
          · as_aux_lemma =>
            go_simp
            have HGB : Hid ((wr.alloc (.cells #[.string s] 9)).drew.heap[wr.heap.size]? = some (.cells #[.string s] 9 (0, 0))) := heap_alloc_new wr (.cells #[.string s] 9)
            have HTZ : Hid (Tus w (wr.alloc (.cells #[.string s] 9)).drew g cs t vy vK vI (.slice (some ⟨gl, 0, none⟩) ps.length cl) ps kk ms L) := (HT.out.next (below_alloc4 wr (.cells #[.string s] 9))).next (by refine Below.drew ?_; exact Below.refl _ _)
            have x11 : (wr.alloc (.cells #[.string s] 9)).cell? ⟨g, 11, none⟩ = some vK := blk_cell (j := 11) HTZ.out.x rfl
            refine (Shut.out hK) _ _ ⟨HTZ.out.b, HTZ.out.p, HTZ.out.l⟩ (fun hS2 => ?_)
            clear hK K hS HTD
            have hS := hS2
            clear hS2
            (try simp only [Act.put]); (try simp only [List.setIfInBounds_toArray, List.set_cons_zero, List.set_cons_succ])
            refine heldStep 1 rfl (by kernel_rfl) (fun K hK => ?_)
            go_simp
            refine (Hid.out hK) _ _ hS (fun hS2 => ?_)
            clear hK K x11 hS2
            (try simp only [Act.put]); (try simp only [List.setIfInBounds_toArray, List.set_cons_zero, List.set_cons_succ])
            refine heldStep 11 rfl (by kernel_rfl) (fun K hK => ?_)
            refine step_append_str rfl _ _ rfl (g + 1) vK kk.length kk rfl HTZ.out.k _ s rfl HGB.out (by have := HKL.out; omega) (by have := blk_lt HTZ.out.x; omega) (fun v5 w5 ho5 hg5 hq5 => ?_)
            obtain ⟨a5, c5, hv5⟩ := own_slice ho5
            subst hv5
            have HT5 : Hid (Tus w (w5.setCell ⟨g, 11, none⟩ (.slice a5 (kk.length + 1) c5)) g cs t vy (.slice a5 (kk.length + 1) c5) vI (.slice (some ⟨gl, 0, none⟩) ps.length cl) ps (kk ++ [s]) ms L) := HTZ.out.addk (by rw [List.length_append]; exact ho5) hg5 hq5
            have hne5 : ¬ vK.ownBlock = some g := fun e => by have := HTZ.out.k.lt _ e; omega
            have hk5 : Kp (fun q => vK.ownBlock = some q) _ w5 := (Kp.refl _ _).grown hg5 (fun k _ e => e)
            have hx5 : w5.heap[g]? = some (.cells (vcs t vy vK vI) 38 (0, 0)) := (hk5.block _ (blk_lt HTZ.out.x) hne5).trans HTZ.out.x
            have c11 : w5.cell? ⟨g, 11, none⟩ = some vK := blk_cell (j := 11) hx5 rfl
            have f11 : w5.frozen? ⟨g, 11, none⟩ = false := blk_frozen 11 hx5
            have hS5 : S16 w cs g (.slice (some ⟨gl, 0, none⟩) ps.length cl) ps w5 := by
              have hgg := HTZ.out.gg
              exact ⟨HTZ.out.b.trans (hk5.below HTZ.out.b.size (fun q e => by have := HTZ.out.k.lt q e; omega)), (hk5.block _ (blk_lt HTZ.out.p) (fun e => by have := HTZ.out.k.lt _ e; omega)).trans HTZ.out.p, hk5.owns HTZ.out.l (fun q h1 h2 => own_dis HTZ.out.l HTZ.out.k (by decide) q h1 h2)⟩
            refine (Hid.out hK) _ _ hS5 (fun hS6 => ?_)
            clear hK K hg5 hq5 ho5 hx5 hS5 hne5 hk5
            (try simp only [Act.put]); (try simp only [List.setIfInBounds_toArray, List.set_cons_zero, List.set_cons_succ])
            refine heldTake 12 _ rfl (by kernel_rfl) (by kernel_rfl) (by kernel_rfl) (fun _ _ _ h => h) rfl hS6 (fun wy hy => by first | (go_simp; done) | (go_simp; rfl) | rfl) ?_
            (try simp only [Act.put]); (try simp only [List.setIfInBounds_toArray, List.set_cons_zero, List.set_cons_succ])
            refine heldStep 13 rfl (by kernel_rfl) (fun K hK => ?_)
            go_simp
            refine (Hid.out hK) _ _ ⟨HT5.out.b, HT5.out.p, HT5.out.l⟩ (fun hS7 => ?_)
            clear hK K
            (try simp only [Act.put]); (try simp only [List.setIfInBounds_toArray, List.set_cons_zero, List.set_cons_succ])
            refine heldDone (by kernel_rfl) ?_
            clear hS hS6 hS7 c11 f11
            go_wp2_with fail
            go_meet
            case rel => exact ⟨_, HT5⟩
        case rest =>
          obtain ⟨v5, HTW⟩ := hcut
          obtain ⟨w4, hw4⟩ : ∃ x, x = wc := ⟨_, rfl⟩
          subst hw4
          clear HT
          have HCL : Hid (∀ wz, Tus w wz g cs t vy v5 vI (.slice (some ⟨gl, 0, none⟩) ps.length cl) ps (kk ++ [s]) ms L → Calls Tryd.prog 16 #[.agg cu] wz fun e w' => ∃ c t', e = .returned (.agg c) ∧ Tis w' (fun q => q ≤ g ∨ v5.ownBlock = some q ∨ vI.ownBlock = some q) t' c ∧ SrtR u t' ∧ Below wz.heap.size wz w') := fun wz hz => by
            refine (HIH.out u HUM.out wz cu (HTU.out.move (keep_below hz.b)) (HTK.out.i u HUM.out) (Nat.le_trans (tmuchL_mem HUM.out) HML.out.1)).mono ?_
            rintro e w' ⟨c, t', he, h1, h2, h3⟩
            refine ⟨c, t', he, h1.mono (fun q e => ?_), h2, h3⟩
            rcases e with e | e | e
            · have := blk_lt hz.x
              omega
            · exact (hz.k.lt q e).2
            · exact (hz.o.lt q e).2
          go_wp2_with fail
          refine heldStart (S := S16 w cs g (.slice (some ⟨gl, 0, none⟩) ps.length cl) ps) (by kernel_rfl) ?_
          have HTD : Hid (Tus w w4.drew g cs t vy v5 vI (.slice (some ⟨gl, 0, none⟩) ps.length cl) ps (kk ++ [s]) ms L) := HTW.out.next (by refine Below.drew ?_; exact Below.refl _ _)
          have hS : S16 w cs g (.slice (some ⟨gl, 0, none⟩) ps.length cl) ps w4.drew := ⟨HTD.out.b, HTD.out.p, HTD.out.l⟩
          refine heldTake 0 _ rfl (by kernel_rfl) (by kernel_rfl) (by kernel_rfl) (fun _ _ _ h => h) rfl hS (fun wy hy => by first | (go_simp; done) | (go_simp; rfl) | rfl) ?_
          (try simp only [Act.put]); (try simp only [List.setIfInBounds_toArray, List.set_cons_zero, List.set_cons_succ])
          refine heldTake 2 _ rfl (by kernel_rfl) (by kernel_rfl) (by kernel_rfl) (fun _ _ _ h => h) rfl hS (fun wy hy => by first | (go_simp; done) | (go_simp; rfl) | rfl) ?_
          (try simp only [Act.put]); (try simp only [List.setIfInBounds_toArray, List.set_cons_zero, List.set_cons_succ])
          refine heldTake 4 _ rfl (by kernel_rfl) (by kernel_rfl) (by kernel_rfl) (fun _ _ _ h => h) rfl hS (fun wy hy => by first | (go_simp; done) | (go_simp; rfl) | rfl) ?_
          (try simp only [Act.put]); (try simp only [List.setIfInBounds_toArray, List.set_cons_zero, List.set_cons_succ])
          refine heldTake 5 _ rfl (by kernel_rfl) (by kernel_rfl) (by kernel_rfl) (fun _ _ _ h => h) rfl hS (fun wy hy => by first | (go_simp; done) | (go_simp; rfl) | rfl) ?_
          (try simp only [Act.put]); (try simp only [List.setIfInBounds_toArray, List.set_cons_zero, List.set_cons_succ])
          refine heldTake 3 _ rfl (by kernel_rfl) (by kernel_rfl) (by kernel_rfl) (fun _ _ _ h => h) rfl hS (fun wy hy => by have h0 := blk_cell (j := 12) hy.2.1 HC12.out; first | (go_simp; done) | (go_simp; rfl) | rfl) ?_
          (try simp only [Act.put]); (try simp only [List.setIfInBounds_toArray, List.set_cons_zero, List.set_cons_succ])
          refine heldTake 6 _ rfl (by kernel_rfl) (by kernel_rfl) (by kernel_rfl) (fun _ _ _ h => h) rfl hS (fun wy hy => by first | (go_simp; done) | (go_simp; rfl) | rfl) ?_
          (try simp only [Act.put]); (try simp only [List.setIfInBounds_toArray, List.set_cons_zero, List.set_cons_succ])
          refine heldTake 7 _ rfl (by kernel_rfl) (by kernel_rfl) (by kernel_rfl) (fun _ _ _ h => h) rfl hS (fun wy hy => by have h0 := (own_cell hy.2.2 HPI.out).1; first | (go_simp; done) | (go_simp; rfl) | rfl) ?_
          (try simp only [Act.put]); (try simp only [List.setIfInBounds_toArray, List.set_cons_zero, List.set_cons_succ])
          refine heldTake 8 _ rfl (by kernel_rfl) (by kernel_rfl) (by kernel_rfl) (fun _ _ _ h => h) rfl hS (fun wy hy => by first | (go_simp; done) | (go_simp; rfl) | rfl) ?_
          (try simp only [Act.put]); (try simp only [List.setIfInBounds_toArray, List.set_cons_zero, List.set_cons_succ])
          refine heldTake 9 _ rfl (by kernel_rfl) (by kernel_rfl) (by kernel_rfl) (fun _ _ _ h => h) rfl hS (fun wy hy => exec_valAt (g := b) (off := off + q * 13) (cs := cu) rfl rfl HZU.out (fun j x hx => keep_below hy.1 _ _ (HCU.out j x hx))) ?_
          (try simp only [Act.put]); (try simp only [List.setIfInBounds_toArray, List.set_cons_zero, List.set_cons_succ])
          refine wpAnyH_ready (rs := [1, 10]) (by kernel_rfl) (by simp) ?_
          refine AllReadyH.cons rfl (fun K hK => ?_) (AllReadyH.cons rfl (fun K hK => ?_) AllReadyH.nil)
          · as_aux_lemma =>
            have x12 : w4.cell? ⟨g, 12, none⟩ = some vI := blk_cell (j := 12) HTW.out.x rfl
            go_simp
            refine (Shut.out hK) _ _ hS (fun hS2 => ?_)
            clear hK K hS2
            (try simp only [Act.put]); (try simp only [List.setIfInBounds_toArray, List.set_cons_zero, List.set_cons_succ])
            refine heldStep 10 rfl (by kernel_rfl) (fun K hK => ?_)
            go_simp
            refine (HCL.out _ HTD.out).mono ?_
            rintro e w5 ⟨c, t', rfl, hc5, htr, hb5⟩
            have HTR := hide htr
            have HT5 := hide (HTD.out.next hb5)
            have HC13 := hide hc5.tin.size13
            have HON : Hid (one13 c) := ⟨HC13.out, fun x hx => by have h := hc5.tin.all1; rw [Array.all_eq_true_iff_forall_mem] at h; exact h x (by simpa using hx)⟩
            have HTZ := hide (HT5.out.next (below_alloc4 w5 (.cells c 38)))
            have HGB := hide (heap_alloc_new w5 (.cells c 38))
            have HCZ := hide (hc5.kp (Kp.of_below (below_alloc4 w5 (.cells c 38))))
            clear htr hc5 hb5
            refine (Hid.out hK) _ _ ⟨HT5.out.b, HT5.out.p, HT5.out.l⟩ (fun hS3 => ?_)
            clear hK K x12 hS3 hS
            (try simp only [Act.put]); (try simp only [List.setIfInBounds_toArray, List.set_cons_zero, List.set_cons_succ])
            refine heldStep 11 rfl (by kernel_rfl) (fun K hK => ?_)
            refine step_val1 rfl rfl c HC13.out rfl ?_
            refine (Hid.out hK) _ _ ⟨HTZ.out.b, HTZ.out.p, HTZ.out.l⟩ (fun hS4 => ?_)
            clear hK K hS4
            (try simp only [Act.put]); (try simp only [List.setIfInBounds_toArray, List.set_cons_zero, List.set_cons_succ])
            refine heldStep 12 rfl (by kernel_rfl) (fun K hK => ?_)
            refine step_append_val rfl _ _ rfl (g + 1) vI L.length (vfl L) rfl HTZ.out.o _ c HON.out rfl HGB.out (by have h1 := HTZ.out.n; have h2 := HN.out.1; have h3 := HML.out; omega) (by have := blk_lt HTZ.out.x; omega) (fun v6 w6 ho6 hg6 hq6 => ?_)
            obtain ⟨a6, c6, hv6⟩ := own_slice ho6
            subst hv6
            have HT6 : Hid (Tus w (w6.setCell ⟨g, 12, none⟩ (.slice a6 (L.length + 1) c6)) g cs t vy v5 (.slice a6 (L.length + 1) c6) (.slice (some ⟨gl, 0, none⟩) ps.length cl) ps (kk ++ [s]) (ms ++ [t']) (L ++ [c])) := HTZ.out.addi HON.out HCZ.out ho6 hg6 hq6
            have hne6 : ¬ vI.ownBlock = some g := fun e => by have := HTZ.out.o.lt _ e; omega
            have hk6 : Kp (fun q => vI.ownBlock = some q) _ w6 := (Kp.refl _ _).grown hg6 (fun k _ e => e)
            have hx6 : w6.heap[g]? = some (.cells (vcs t vy v5 vI) 38 (0, 0)) := (hk6.block _ (blk_lt HTZ.out.x) hne6).trans HTZ.out.x
            have c12 : w6.cell? ⟨g, 12, none⟩ = some vI := blk_cell (j := 12) hx6 rfl
            have f12 : w6.frozen? ⟨g, 12, none⟩ = false := blk_frozen 12 hx6
            have hS6 : S16 w cs g (.slice (some ⟨gl, 0, none⟩) ps.length cl) ps w6 := by
              have hgg := HTZ.out.gg
              exact ⟨HTZ.out.b.trans (hk6.below HTZ.out.b.size (fun q e => by have := HTZ.out.o.lt q e; omega)), (hk6.block _ (blk_lt HTZ.out.p) (fun e => by have := HTZ.out.o.lt _ e; omega)).trans HTZ.out.p, hk6.owns HTZ.out.l (fun q h1 h2 => own_dis HTZ.out.l HTZ.out.o (by decide) q h1 h2)⟩
            refine (Hid.out hK) _ _ hS6 (fun hS7 => ?_)
            clear hK K hg6 hq6 ho6 hx6 hS6 hne6 hk6
            (try simp only [Act.put]); (try simp only [List.setIfInBounds_toArray, List.set_cons_zero, List.set_cons_succ])
            refine heldTake 13 _ rfl (by kernel_rfl) (by kernel_rfl) (by kernel_rfl) (fun _ _ _ h => h) rfl hS7 (fun wy hy => by first | (go_simp; done) | (go_simp; rfl) | rfl) ?_
            (try simp only [Act.put]); (try simp only [List.setIfInBounds_toArray, List.set_cons_zero, List.set_cons_succ])
            refine heldStep 14 rfl (by kernel_rfl) (fun K hK => ?_)
            go_simp
            refine (Hid.out hK) _ _ ⟨HT6.out.b, HT6.out.p, HT6.out.l⟩ (fun hS8 => ?_)
            clear hK K
            (try simp only [Act.put]); (try simp only [List.setIfInBounds_toArray, List.set_cons_zero, List.set_cons_succ])
            refine heldDone (by kernel_rfl) ?_
            clear hS7 hS8 c12 f12
            go_wp2_with fail
            go_roundw
            case rel => exact ⟨i + 1, _, _, _, _, _, by omega, by go_num, HT6, ⟨by have := HN.out.1; simp; omega, HKS.out⟩, HI2.out t' HTR.out⟩
            case measure => simp [intOf]; omega
          · as_aux_lemma =>
            go_simp
            refine (HCL.out _ HTD.out).mono ?_
            rintro e w5 ⟨c, t', rfl, hc5, htr, hb5⟩
            have HTR := hide htr
            have HT5 := hide (HTD.out.next hb5)
            have HC13 := hide hc5.tin.size13
            have HON : Hid (one13 c) := ⟨HC13.out, fun x hx => by have h := hc5.tin.all1; rw [Array.all_eq_true_iff_forall_mem] at h; exact h x (by simpa using hx)⟩
            have HTZ := hide (HT5.out.next (below_alloc4 w5 (.cells c 38)))
            have HGB := hide (heap_alloc_new w5 (.cells c 38))
            have HCZ := hide (hc5.kp (Kp.of_below (below_alloc4 w5 (.cells c 38))))
            clear htr hc5 hb5
            have x12 : w5.cell? ⟨g, 12, none⟩ = some vI := blk_cell (j := 12) HT5.out.x rfl
            have x13 : (w5.alloc (.cells c 38)).cell? ⟨g, 12, none⟩ = some vI := blk_cell (j := 12) HTZ.out.x rfl
            refine (Shut.out hK) _ _ ⟨HT5.out.b, HT5.out.p, HT5.out.l⟩ (fun hS3 => ?_)
            clear hK K hS
            (try simp only [Act.put]); (try simp only [List.setIfInBounds_toArray, List.set_cons_zero, List.set_cons_succ])
            refine wpAnyH_ready (rs := [1, 11]) (by kernel_rfl) (by simp) ?_
            refine AllReadyH.cons rfl (fun K hK => ?_) (AllReadyH.cons rfl (fun K hK => ?_) AllReadyH.nil)
            · as_aux_lemma =>
              go_simp
              refine (Shut.out hK) _ _ hS3 (fun hS2 => ?_)
              clear hK K hS2 x12 x13
              (try simp only [Act.put]); (try simp only [List.setIfInBounds_toArray, List.set_cons_zero, List.set_cons_succ])
              refine heldStep 11 rfl (by kernel_rfl) (fun K hK => ?_)
              refine step_val1 rfl rfl c HC13.out rfl ?_
              refine (Hid.out hK) _ _ ⟨HTZ.out.b, HTZ.out.p, HTZ.out.l⟩ (fun hS4 => ?_)
              clear hK K hS4
              (try simp only [Act.put]); (try simp only [List.setIfInBounds_toArray, List.set_cons_zero, List.set_cons_succ])
              refine heldStep 12 rfl (by kernel_rfl) (fun K hK => ?_)
              refine step_append_val rfl _ _ rfl (g + 1) vI L.length (vfl L) rfl HTZ.out.o _ c HON.out rfl HGB.out (by have h1 := HTZ.out.n; have h2 := HN.out.1; have h3 := HML.out; omega) (by have := blk_lt HTZ.out.x; omega) (fun v6 w6 ho6 hg6 hq6 => ?_)
              obtain ⟨a6, c6, hv6⟩ := own_slice ho6
              subst hv6
              have HT6 : Hid (Tus w (w6.setCell ⟨g, 12, none⟩ (.slice a6 (L.length + 1) c6)) g cs t vy v5 (.slice a6 (L.length + 1) c6) (.slice (some ⟨gl, 0, none⟩) ps.length cl) ps (kk ++ [s]) (ms ++ [t']) (L ++ [c])) := HTZ.out.addi HON.out HCZ.out ho6 hg6 hq6
              have hne6 : ¬ vI.ownBlock = some g := fun e => by have := HTZ.out.o.lt _ e; omega
              have hk6 : Kp (fun q => vI.ownBlock = some q) _ w6 := (Kp.refl _ _).grown hg6 (fun k _ e => e)
              have hx6 : w6.heap[g]? = some (.cells (vcs t vy v5 vI) 38 (0, 0)) := (hk6.block _ (blk_lt HTZ.out.x) hne6).trans HTZ.out.x
              have c12 : w6.cell? ⟨g, 12, none⟩ = some vI := blk_cell (j := 12) hx6 rfl
              have f12 : w6.frozen? ⟨g, 12, none⟩ = false := blk_frozen 12 hx6
              have hS6 : S16 w cs g (.slice (some ⟨gl, 0, none⟩) ps.length cl) ps w6 := by
                have hgg := HTZ.out.gg
                exact ⟨HTZ.out.b.trans (hk6.below HTZ.out.b.size (fun q e => by have := HTZ.out.o.lt q e; omega)), (hk6.block _ (blk_lt HTZ.out.p) (fun e => by have := HTZ.out.o.lt _ e; omega)).trans HTZ.out.p, hk6.owns HTZ.out.l (fun q h1 h2 => own_dis HTZ.out.l HTZ.out.o (by decide) q h1 h2)⟩
              refine (Hid.out hK) _ _ hS6 (fun hS7 => ?_)
              clear hK K hg6 hq6 ho6 hx6 hS6 hne6 hk6
              (try simp only [Act.put]); (try simp only [List.setIfInBounds_toArray, List.set_cons_zero, List.set_cons_succ])
              refine heldTake 13 _ rfl (by kernel_rfl) (by kernel_rfl) (by kernel_rfl) (fun _ _ _ h => h) rfl hS7 (fun wy hy => by first | (go_simp; done) | (go_simp; rfl) | rfl) ?_
              (try simp only [Act.put]); (try simp only [List.setIfInBounds_toArray, List.set_cons_zero, List.set_cons_succ])
              refine heldStep 14 rfl (by kernel_rfl) (fun K hK => ?_)
              go_simp
              refine (Hid.out hK) _ _ ⟨HT6.out.b, HT6.out.p, HT6.out.l⟩ (fun hS8 => ?_)
              clear hK K
              (try simp only [Act.put]); (try simp only [List.setIfInBounds_toArray, List.set_cons_zero, List.set_cons_succ])
              refine heldDone (by kernel_rfl) ?_
              clear hS7 hS8 c12 f12
              go_wp2_with fail
              go_roundw
              case rel => exact ⟨i + 1, _, _, _, _, _, by omega, by go_num, HT6, ⟨by have := HN.out.1; simp; omega, HKS.out⟩, HI2.out t' HTR.out⟩
              case measure => simp [intOf]; omega
            · as_aux_lemma =>
              refine step_val1 rfl rfl c HC13.out rfl ?_
              refine (Shut.out hK) _ _ ⟨HTZ.out.b, HTZ.out.p, HTZ.out.l⟩ (fun hS4 => ?_)
              clear hK K hS3
              (try simp only [Act.put]); (try simp only [List.setIfInBounds_toArray])
              refine heldStep 1 rfl (by kernel_rfl) (fun K hK => ?_)
              go_simp
              refine (Hid.out hK) _ _ hS4 (fun hS2 => ?_)
              clear hK K hS2 x12 x13 hS4
              (try simp only [Act.put]); (try simp only [List.setIfInBounds_toArray, List.set_cons_zero, List.set_cons_succ])
              refine heldStep 12 rfl (by kernel_rfl) (fun K hK => ?_)
              refine step_append_val rfl _ _ rfl (g + 1) vI L.length (vfl L) rfl HTZ.out.o _ c HON.out rfl HGB.out (by have h1 := HTZ.out.n; have h2 := HN.out.1; have h3 := HML.out; omega) (by have := blk_lt HTZ.out.x; omega) (fun v6 w6 ho6 hg6 hq6 => ?_)
              obtain ⟨a6, c6, hv6⟩ := own_slice ho6
              subst hv6
              have HT6 : Hid (Tus w (w6.setCell ⟨g, 12, none⟩ (.slice a6 (L.length + 1) c6)) g cs t vy v5 (.slice a6 (L.length + 1) c6) (.slice (some ⟨gl, 0, none⟩) ps.length cl) ps (kk ++ [s]) (ms ++ [t']) (L ++ [c])) := HTZ.out.addi HON.out HCZ.out ho6 hg6 hq6
              have hne6 : ¬ vI.ownBlock = some g := fun e => by have := HTZ.out.o.lt _ e; omega
              have hk6 : Kp (fun q => vI.ownBlock = some q) _ w6 := (Kp.refl _ _).grown hg6 (fun k _ e => e)
              have hx6 : w6.heap[g]? = some (.cells (vcs t vy v5 vI) 38 (0, 0)) := (hk6.block _ (blk_lt HTZ.out.x) hne6).trans HTZ.out.x
              have c12 : w6.cell? ⟨g, 12, none⟩ = some vI := blk_cell (j := 12) hx6 rfl
              have f12 : w6.frozen? ⟨g, 12, none⟩ = false := blk_frozen 12 hx6
              have hS6 : S16 w cs g (.slice (some ⟨gl, 0, none⟩) ps.length cl) ps w6 := by
                have hgg := HTZ.out.gg
                exact ⟨HTZ.out.b.trans (hk6.below HTZ.out.b.size (fun q e => by have := HTZ.out.o.lt q e; omega)), (hk6.block _ (blk_lt HTZ.out.p) (fun e => by have := HTZ.out.o.lt _ e; omega)).trans HTZ.out.p, hk6.owns HTZ.out.l (fun q h1 h2 => own_dis HTZ.out.l HTZ.out.o (by decide) q h1 h2)⟩
              refine (Hid.out hK) _ _ hS6 (fun hS7 => ?_)
              clear hK K hg6 hq6 ho6 hx6 hS6 hne6 hk6
              (try simp only [Act.put]); (try simp only [List.setIfInBounds_toArray, List.set_cons_zero, List.set_cons_succ])
              refine heldTake 13 _ rfl (by kernel_rfl) (by kernel_rfl) (by kernel_rfl) (fun _ _ _ h => h) rfl hS7 (fun wy hy => by first | (go_simp; done) | (go_simp; rfl) | rfl) ?_
              (try simp only [Act.put]); (try simp only [List.setIfInBounds_toArray, List.set_cons_zero, List.set_cons_succ])
              refine heldStep 14 rfl (by kernel_rfl) (fun K hK => ?_)
              go_simp
              refine (Hid.out hK) _ _ ⟨HT6.out.b, HT6.out.p, HT6.out.l⟩ (fun hS8 => ?_)
              clear hK K
              (try simp only [Act.put]); (try simp only [List.setIfInBounds_toArray, List.set_cons_zero, List.set_cons_succ])
              refine heldDone (by kernel_rfl) ?_
              clear hS7 hS8 c12 f12
              go_wp2_with fail
              go_roundw
              case rel => exact ⟨i + 1, _, _, _, _, _, by omega, by go_num, HT6, ⟨by have := HN.out.1; simp; omega, HKS.out⟩, HI2.out t' HTR.out⟩
              case measure => simp [intOf]; omega
      · have g1 : ¬ (i : Int) < (ps.length : Int) := by omega
        have hie : i = ps.length := by omega
        have hgg := HT.out.gg
        have HV1 : Hid (∀ j x, (vcs t vy vK vI)[j]? = some x → wr.cell? ⟨g, 0 + j, none⟩ = some x) := fun j x hx => by rw [Nat.zero_add]; exact blk_cell HT.out.x hx
        have HRR := hide HT.out.r
        have hkr := row_kp wr (w.heap.size + 1) (vcs t vy vK vI)
        have hbs := HT.out.b.size
        have HBZ : Hid (Below w.heap.size w (wr.setRow (w.heap.size + 1) (vcs t vy vK vI))) := HT.out.b.trans (hkr.below hbs (fun q e => by omega))
        have HEN : Hid ((wr.setRow (w.heap.size + 1) (vcs t vy vK vI)).heap[w.heap.size + 1]? = some (.cells (vcs t vy vK vI) 38 (0, 0))) := row_same HRR.out
        have HTR : Hid (SrtR t (Tv.mk t.k t.f t.g t.n t.b t.s t.y t.l kk ms)) := by
          have hn := HN.out
          rw [hie, List.take_length] at hn
          have hks2 : min t.ks.length t.is.length = t.ks.length := by omega
          refine SrtR.map t _ ps h9 ⟨rfl, rfl, rfl, rfl, rfl, rfl, rfl, rfl⟩ (by rw [hks2]; exact HSP.out) hn.2 hn.1 (fun j p u v hp hu hv => ?_)
          exact HI.out j p u v (by have := (List.getElem?_eq_some_iff.1 hp).1; omega) hp hu hv
        have HTS : Hid (Tis (wr.setRow (w.heap.size + 1) (vcs t vy vK vI)) (fun q => q < w.heap.size) (Tv.mk t.k t.f t.g t.n t.b t.s t.y t.l kk ms) (vcs t vy vK vI)) := by
          refine HT.out.tis HBD.out HYB.out hkr ?_ ?_ ?_
          · intro s hs
            rw [HN.out.2] at hs
            obtain ⟨p, hp, rfl⟩ := List.mem_map.1 hs
            by_cases hpl : p < t.ks.length
            · exact HKZ.out _ (by simp [List.getD, List.getElem?_eq_getElem hpl])
            · rw [List.getD_eq_getElem?_getD, List.getElem?_eq_none (by omega)]
              decide
          · have h1 := HN.out.2
            have h2 := HML.out
            have h3 := HPS.out.1
            rw [h1, pickS_len]
            simp
            omega
          · have h1 := HN.out.1
            have h2 := HML.out
            have h3 := HPS.out.1
            omega
        have HAL : Hid ((vcs t vy vK vI).all (·.oneCell') = true) := HTS.out.tin.all1
        clear HI hkr hbs hgg
        go_wp2_with (first
          | (refine wpList_valAt rfl rfl g 0 (vcs t vy vK vI) rfl rfl HV1.out ?_)
          | (refine wpList_storeRow rfl rfl (w.heap.size + 1) zv (vcs t vy vK vI) 38 rfl rfl HRR.out infoV rfl HAL.out ?_))
        exact bodyPost_ret (end_rs6 rfl HEN.out rfl) rfl ⟨_, rfl, _, HTS.out, HTR.out, HBZ.out⟩
  · have g9 : (t.k == 9) = false := beq_eq_false_iff_ne.2 h9
    go_wp2_with (refine wpList_storeRow rfl rfl w1.heap.size zv (vcs t vy vk1 vi1) 38 rfl rfl HG1.out infoV rfl HAL.out ?_; rw [World.setRow_alloc_new]; generalize w1.alloc (.cells (vcs t vy vk1 vi1) 38) = wA at *)
    generalize (wA.setCell ⟨w1.heap.size, 12, none⟩ (.slice none 0 0)).setCell ⟨w1.heap.size, 11, none⟩ (.slice none 0 0) = w2 at *
    clear c11 c12 f11 f12 q0 q11 HG1 HAL HP0 HR0' HB0 HZ0 HV0
    generalize w1.heap.size = g at *
    go_loopw [6] (fun ii wx => ∃ (i : Nat) (vI : Value) (ms : List Tv) (L : List (Array Value)), i ≤ t.is.length ∧ ii = .int .i64 (i : Nat) ∧ Hid (Tus w wx g cs t vy (.slice none 0 0) vI (.slice none 0 0) [] [] ms L) ∧ Hid (ms.length = i ∧ True) ∧ Hid (∀ (j : Nat) (u v : Tv), j < i → t.is[j]? = some u → ms[j]? = some v → SrtR u v)) (fun ii _ => t.is.length - (intOf ii).toNat)
    case atStart => exact ⟨0, _, [], [], by omega, rfl, HT0, ⟨rfl, trivial⟩, fun j u v hj => absurd hj (by omega)⟩
    case round =>
      clear HT0
      obtain ⟨i, vI, ms, L, hi, rfl, HT, HN, HI⟩ := hrel
      have q12 := blk_cell (j := 12) HT.out.p HC12.out
      by_cases hlt : i < t.is.length
      · as_aux_lemma =>
        have g1 : (i : Int) < (t.is.length : Int) := by omega
        obtain ⟨q, hq⟩ : ∃ q, q = i := ⟨_, rfl⟩
        subst hq
        have hql : q < t.is.length := hlt
        obtain ⟨u, hu⟩ : ∃ u, t.is[q]? = some u := ⟨t.is[q], List.getElem?_eq_getElem hql⟩
        obtain ⟨b, off, rfl, hcells⟩ := HFI.out.resolve_left (fun h => by rw [h] at hql; simp at hql)
        obtain ⟨cu, tu, hcu⟩ := hcells q u hu
        have HZU := hide tu.size13
        have HCU := hide hcu
        have HTU := hide tu
        have HUM : Hid (u ∈ t.is) := List.mem_of_getElem? hu
        have HU := hide hu
        clear hcells tu hcu hu
        have HI2 : Hid (∀ t' : Tv, SrtR u t' → ∀ (j : Nat) (x v : Tv), j < q + 1 → t.is[j]? = some x → (ms ++ [t'])[j]? = some v → SrtR x v) := fun t' htr j x v hj hx hv => by
          have hml := HN.out.1
          by_cases hji : j = q
          · subst hji
            rw [HU.out] at hx
            injection hx with hx
            rw [List.getElem?_append_right (by omega), hml, Nat.sub_self] at hv
            simp at hv
            rw [← hx, ← hv]
            exact htr
          · rw [List.getElem?_append_left (by omega)] at hv
            exact HI.out j x v (by omega) hx hv
        have HTW := HT
        clear HT
        have HCL : Hid (∀ wz, Tus w wz g cs t vy (Value.slice none 0 0) vI (Value.slice none 0 0) [] [] ms L → Calls Tryd.prog 16 #[.agg cu] wz fun e w' => ∃ c t', e = .returned (.agg c) ∧ Tis w' (fun q => q ≤ g ∨ (Value.slice none 0 0).ownBlock = some q ∨ vI.ownBlock = some q) t' c ∧ SrtR u t' ∧ Below wz.heap.size wz w') := fun wz hz => by
          refine (HIH.out u HUM.out wz cu (HTU.out.move (keep_below hz.b)) (HTK.out.i u HUM.out) (Nat.le_trans (tmuchL_mem HUM.out) HML.out.1)).mono ?_
          rintro e w' ⟨c, t', he, h1, h2, h3⟩
          refine ⟨c, t', he, h1.mono (fun q e => ?_), h2, h3⟩
          rcases e with e | e | e
          · have := blk_lt hz.x
            omega
          · exact (hz.k.lt q e).2
          · exact (hz.o.lt q e).2
        go_wp2_with fail
        clear q12
        refine heldStart (S := S16 w cs g (Value.slice none 0 0) []) (by kernel_rfl) ?_
        have HTD : Hid (Tus w wr.drew g cs t vy (Value.slice none 0 0) vI (Value.slice none 0 0) [] [] ms L) := HTW.out.next (by refine Below.drew ?_; exact Below.refl _ _)
        have hS : S16 w cs g (Value.slice none 0 0) [] wr.drew := ⟨HTD.out.b, HTD.out.p, HTD.out.l⟩
        refine heldTake 0 _ rfl (by kernel_rfl) (by kernel_rfl) (by kernel_rfl) (fun _ _ _ h => h) rfl hS (fun wy hy => by first | (go_simp; done) | (go_simp; rfl) | rfl) ?_
        (try simp only [Act.put]); (try simp only [List.setIfInBounds_toArray, List.set_cons_zero, List.set_cons_succ])
        refine heldTake 2 _ rfl (by kernel_rfl) (by kernel_rfl) (by kernel_rfl) (fun _ _ _ h => h) rfl hS (fun wy hy => by first | (go_simp; done) | (go_simp; rfl) | rfl) ?_
        (try simp only [Act.put]); (try simp only [List.setIfInBounds_toArray, List.set_cons_zero, List.set_cons_succ])
        refine heldTake 4 _ rfl (by kernel_rfl) (by kernel_rfl) (by kernel_rfl) (fun _ _ _ h => h) rfl hS (fun wy hy => by first | (go_simp; done) | (go_simp; rfl) | rfl) ?_
        (try simp only [Act.put]); (try simp only [List.setIfInBounds_toArray, List.set_cons_zero, List.set_cons_succ])
        refine heldTake 3 _ rfl (by kernel_rfl) (by kernel_rfl) (by kernel_rfl) (fun _ _ _ h => h) rfl hS (fun wy hy => by have h0 := blk_cell (j := 12) hy.2.1 HC12.out; first | (go_simp; done) | (go_simp; rfl) | rfl) ?_
        (try simp only [Act.put]); (try simp only [List.setIfInBounds_toArray, List.set_cons_zero, List.set_cons_succ])
        refine heldTake 5 _ rfl (by kernel_rfl) (by kernel_rfl) (by kernel_rfl) (fun _ _ _ h => h) rfl hS (fun wy hy => by first | (go_simp; done) | (go_simp; rfl) | rfl) ?_
        (try simp only [Act.put]); (try simp only [List.setIfInBounds_toArray, List.set_cons_zero, List.set_cons_succ])
        refine heldTake 6 _ rfl (by kernel_rfl) (by kernel_rfl) (by kernel_rfl) (fun _ _ _ h => h) rfl hS (fun wy hy => exec_valAt (g := b) (off := off + q * 13) (cs := cu) rfl rfl HZU.out (fun j x hx => keep_below hy.1 _ _ (HCU.out j x hx))) ?_
        (try simp only [Act.put]); (try simp only [List.setIfInBounds_toArray, List.set_cons_zero, List.set_cons_succ])
        refine wpAnyH_ready (rs := [1, 7]) (by kernel_rfl) (by simp) ?_
        refine AllReadyH.cons rfl (fun K hK => ?_) (AllReadyH.cons rfl (fun K hK => ?_) AllReadyH.nil)
        · as_aux_lemma =>
          have x12 : wr.cell? ⟨g, 12, none⟩ = some vI := blk_cell (j := 12) HTW.out.x rfl
          go_simp
          refine (Shut.out hK) _ _ hS (fun hS2 => ?_)
          clear hK K hS2
          (try simp only [Act.put]); (try simp only [List.setIfInBounds_toArray, List.set_cons_zero, List.set_cons_succ])
          refine heldStep 7 rfl (by kernel_rfl) (fun K hK => ?_)
          go_simp
          refine (HCL.out _ HTD.out).mono ?_
          rintro e w5 ⟨c, t', rfl, hc5, htr, hb5⟩
          have HTR := hide htr
          have HT5 := hide (HTD.out.next hb5)
          have HC13 := hide hc5.tin.size13
          have HON : Hid (one13 c) := ⟨HC13.out, fun x hx => by have h := hc5.tin.all1; rw [Array.all_eq_true_iff_forall_mem] at h; exact h x (by simpa using hx)⟩
          have HTZ := hide (HT5.out.next (below_alloc4 w5 (.cells c 38)))
          have HGB := hide (heap_alloc_new w5 (.cells c 38))
          have HCZ := hide (hc5.kp (Kp.of_below (below_alloc4 w5 (.cells c 38))))
          clear htr hc5 hb5
          refine (Hid.out hK) _ _ ⟨HT5.out.b, HT5.out.p, HT5.out.l⟩ (fun hS3 => ?_)
          clear hK K x12 hS3 hS
          (try simp only [Act.put]); (try simp only [List.setIfInBounds_toArray, List.set_cons_zero, List.set_cons_succ])
          refine heldStep 8 rfl (by kernel_rfl) (fun K hK => ?_)
          refine step_val1 rfl rfl c HC13.out rfl ?_
          refine (Hid.out hK) _ _ ⟨HTZ.out.b, HTZ.out.p, HTZ.out.l⟩ (fun hS4 => ?_)
          clear hK K hS4
          (try simp only [Act.put]); (try simp only [List.setIfInBounds_toArray, List.set_cons_zero, List.set_cons_succ])
          refine heldStep 9 rfl (by kernel_rfl) (fun K hK => ?_)
          refine step_append_val rfl _ _ rfl (g + 1) vI L.length (vfl L) rfl HTZ.out.o _ c HON.out rfl HGB.out (by have h1 := HTZ.out.n; have h2 := HN.out.1; have h3 := HML.out; omega) (by have := blk_lt HTZ.out.x; omega) (fun v6 w6 ho6 hg6 hq6 => ?_)
          obtain ⟨a6, c6, hv6⟩ := own_slice ho6
          subst hv6
          have HT6 : Hid (Tus w (w6.setCell ⟨g, 12, none⟩ (.slice a6 (L.length + 1) c6)) g cs t vy (Value.slice none 0 0) (.slice a6 (L.length + 1) c6) (Value.slice none 0 0) [] [] (ms ++ [t']) (L ++ [c])) := HTZ.out.addi HON.out HCZ.out ho6 hg6 hq6
          have hne6 : ¬ vI.ownBlock = some g := fun e => by have := HTZ.out.o.lt _ e; omega
          have hk6 : Kp (fun q => vI.ownBlock = some q) _ w6 := (Kp.refl _ _).grown hg6 (fun k _ e => e)
          have hx6 : w6.heap[g]? = some (.cells (vcs t vy (Value.slice none 0 0) vI) 38 (0, 0)) := (hk6.block _ (blk_lt HTZ.out.x) hne6).trans HTZ.out.x
          have c12 : w6.cell? ⟨g, 12, none⟩ = some vI := blk_cell (j := 12) hx6 rfl
          have f12 : w6.frozen? ⟨g, 12, none⟩ = false := blk_frozen 12 hx6
          have hS6 : S16 w cs g (Value.slice none 0 0) [] w6 := by
            have hgg := HTZ.out.gg
            exact ⟨HTZ.out.b.trans (hk6.below HTZ.out.b.size (fun q e => by have := HTZ.out.o.lt q e; omega)), (hk6.block _ (blk_lt HTZ.out.p) (fun e => by have := HTZ.out.o.lt _ e; omega)).trans HTZ.out.p, hk6.owns HTZ.out.l (fun q h1 h2 => own_dis HTZ.out.l HTZ.out.o (by decide) q h1 h2)⟩
          refine (Hid.out hK) _ _ hS6 (fun hS7 => ?_)
          clear hK K hg6 hq6 ho6 hx6 hS6 hne6 hk6
          (try simp only [Act.put]); (try simp only [List.setIfInBounds_toArray, List.set_cons_zero, List.set_cons_succ])
          refine heldTake 10 _ rfl (by kernel_rfl) (by kernel_rfl) (by kernel_rfl) (fun _ _ _ h => h) rfl hS7 (fun wy hy => by first | (go_simp; done) | (go_simp; rfl) | rfl) ?_
          (try simp only [Act.put]); (try simp only [List.setIfInBounds_toArray, List.set_cons_zero, List.set_cons_succ])
          refine heldStep 11 rfl (by kernel_rfl) (fun K hK => ?_)
          go_simp
          refine (Hid.out hK) _ _ ⟨HT6.out.b, HT6.out.p, HT6.out.l⟩ (fun hS8 => ?_)
          clear hK K
          (try simp only [Act.put]); (try simp only [List.setIfInBounds_toArray, List.set_cons_zero, List.set_cons_succ])
          refine heldDone (by kernel_rfl) ?_
          clear hS7 hS8 c12 f12
          go_wp2_with fail
          go_roundw
          case rel => exact ⟨q + 1, _, _, _, by omega, by go_num, HT6, ⟨by have := HN.out.1; simp; omega, trivial⟩, HI2.out t' HTR.out⟩
          case measure => simp [intOf]; omega
        · as_aux_lemma =>
          go_simp
          refine (HCL.out _ HTD.out).mono ?_
          rintro e w5 ⟨c, t', rfl, hc5, htr, hb5⟩
          have HTR := hide htr
          have HT5 := hide (HTD.out.next hb5)
          have HC13 := hide hc5.tin.size13
          have HON : Hid (one13 c) := ⟨HC13.out, fun x hx => by have h := hc5.tin.all1; rw [Array.all_eq_true_iff_forall_mem] at h; exact h x (by simpa using hx)⟩
          have HTZ := hide (HT5.out.next (below_alloc4 w5 (.cells c 38)))
          have HGB := hide (heap_alloc_new w5 (.cells c 38))
          have HCZ := hide (hc5.kp (Kp.of_below (below_alloc4 w5 (.cells c 38))))
          clear htr hc5 hb5
          have x12 : w5.cell? ⟨g, 12, none⟩ = some vI := blk_cell (j := 12) HT5.out.x rfl
          have x13 : (w5.alloc (.cells c 38)).cell? ⟨g, 12, none⟩ = some vI := blk_cell (j := 12) HTZ.out.x rfl
          refine (Shut.out hK) _ _ ⟨HT5.out.b, HT5.out.p, HT5.out.l⟩ (fun hS3 => ?_)
          clear hK K hS
          (try simp only [Act.put]); (try simp only [List.setIfInBounds_toArray, List.set_cons_zero, List.set_cons_succ])
          refine wpAnyH_ready (rs := [1, 8]) (by kernel_rfl) (by simp) ?_
          refine AllReadyH.cons rfl (fun K hK => ?_) (AllReadyH.cons rfl (fun K hK => ?_) AllReadyH.nil)
          · as_aux_lemma =>
            go_simp
            refine (Shut.out hK) _ _ hS3 (fun hS2 => ?_)
            clear hK K hS2 x12 x13
            (try simp only [Act.put]); (try simp only [List.setIfInBounds_toArray, List.set_cons_zero, List.set_cons_succ])
            refine heldStep 8 rfl (by kernel_rfl) (fun K hK => ?_)
            refine step_val1 rfl rfl c HC13.out rfl ?_
            refine (Hid.out hK) _ _ ⟨HTZ.out.b, HTZ.out.p, HTZ.out.l⟩ (fun hS4 => ?_)
            clear hK K hS4
            (try simp only [Act.put]); (try simp only [List.setIfInBounds_toArray, List.set_cons_zero, List.set_cons_succ])
            refine heldStep 9 rfl (by kernel_rfl) (fun K hK => ?_)
            refine step_append_val rfl _ _ rfl (g + 1) vI L.length (vfl L) rfl HTZ.out.o _ c HON.out rfl HGB.out (by have h1 := HTZ.out.n; have h2 := HN.out.1; have h3 := HML.out; omega) (by have := blk_lt HTZ.out.x; omega) (fun v6 w6 ho6 hg6 hq6 => ?_)
            obtain ⟨a6, c6, hv6⟩ := own_slice ho6
            subst hv6
            have HT6 : Hid (Tus w (w6.setCell ⟨g, 12, none⟩ (.slice a6 (L.length + 1) c6)) g cs t vy (Value.slice none 0 0) (.slice a6 (L.length + 1) c6) (Value.slice none 0 0) [] [] (ms ++ [t']) (L ++ [c])) := HTZ.out.addi HON.out HCZ.out ho6 hg6 hq6
            have hne6 : ¬ vI.ownBlock = some g := fun e => by have := HTZ.out.o.lt _ e; omega
            have hk6 : Kp (fun q => vI.ownBlock = some q) _ w6 := (Kp.refl _ _).grown hg6 (fun k _ e => e)
            have hx6 : w6.heap[g]? = some (.cells (vcs t vy (Value.slice none 0 0) vI) 38 (0, 0)) := (hk6.block _ (blk_lt HTZ.out.x) hne6).trans HTZ.out.x
            have c12 : w6.cell? ⟨g, 12, none⟩ = some vI := blk_cell (j := 12) hx6 rfl
            have f12 : w6.frozen? ⟨g, 12, none⟩ = false := blk_frozen 12 hx6
            have hS6 : S16 w cs g (Value.slice none 0 0) [] w6 := by
              have hgg := HTZ.out.gg
              exact ⟨HTZ.out.b.trans (hk6.below HTZ.out.b.size (fun q e => by have := HTZ.out.o.lt q e; omega)), (hk6.block _ (blk_lt HTZ.out.p) (fun e => by have := HTZ.out.o.lt _ e; omega)).trans HTZ.out.p, hk6.owns HTZ.out.l (fun q h1 h2 => own_dis HTZ.out.l HTZ.out.o (by decide) q h1 h2)⟩
            refine (Hid.out hK) _ _ hS6 (fun hS7 => ?_)
            clear hK K hg6 hq6 ho6 hx6 hS6 hne6 hk6
            (try simp only [Act.put]); (try simp only [List.setIfInBounds_toArray, List.set_cons_zero, List.set_cons_succ])
            refine heldTake 10 _ rfl (by kernel_rfl) (by kernel_rfl) (by kernel_rfl) (fun _ _ _ h => h) rfl hS7 (fun wy hy => by first | (go_simp; done) | (go_simp; rfl) | rfl) ?_
            (try simp only [Act.put]); (try simp only [List.setIfInBounds_toArray, List.set_cons_zero, List.set_cons_succ])
            refine heldStep 11 rfl (by kernel_rfl) (fun K hK => ?_)
            go_simp
            refine (Hid.out hK) _ _ ⟨HT6.out.b, HT6.out.p, HT6.out.l⟩ (fun hS8 => ?_)
            clear hK K
            (try simp only [Act.put]); (try simp only [List.setIfInBounds_toArray, List.set_cons_zero, List.set_cons_succ])
            refine heldDone (by kernel_rfl) ?_
            clear hS7 hS8 c12 f12
            go_wp2_with fail
            go_roundw
            case rel => exact ⟨q + 1, _, _, _, by omega, by go_num, HT6, ⟨by have := HN.out.1; simp; omega, trivial⟩, HI2.out t' HTR.out⟩
            case measure => simp [intOf]; omega
          · as_aux_lemma =>
            refine step_val1 rfl rfl c HC13.out rfl ?_
            refine (Shut.out hK) _ _ ⟨HTZ.out.b, HTZ.out.p, HTZ.out.l⟩ (fun hS4 => ?_)
            clear hK K hS3
            (try simp only [Act.put]); (try simp only [List.setIfInBounds_toArray])
            refine heldStep 1 rfl (by kernel_rfl) (fun K hK => ?_)
            go_simp
            refine (Hid.out hK) _ _ hS4 (fun hS2 => ?_)
            clear hK K hS2 x12 x13 hS4
            (try simp only [Act.put]); (try simp only [List.setIfInBounds_toArray, List.set_cons_zero, List.set_cons_succ])
            refine heldStep 9 rfl (by kernel_rfl) (fun K hK => ?_)
            refine step_append_val rfl _ _ rfl (g + 1) vI L.length (vfl L) rfl HTZ.out.o _ c HON.out rfl HGB.out (by have h1 := HTZ.out.n; have h2 := HN.out.1; have h3 := HML.out; omega) (by have := blk_lt HTZ.out.x; omega) (fun v6 w6 ho6 hg6 hq6 => ?_)
            obtain ⟨a6, c6, hv6⟩ := own_slice ho6
            subst hv6
            have HT6 : Hid (Tus w (w6.setCell ⟨g, 12, none⟩ (.slice a6 (L.length + 1) c6)) g cs t vy (Value.slice none 0 0) (.slice a6 (L.length + 1) c6) (Value.slice none 0 0) [] [] (ms ++ [t']) (L ++ [c])) := HTZ.out.addi HON.out HCZ.out ho6 hg6 hq6
            have hne6 : ¬ vI.ownBlock = some g := fun e => by have := HTZ.out.o.lt _ e; omega
            have hk6 : Kp (fun q => vI.ownBlock = some q) _ w6 := (Kp.refl _ _).grown hg6 (fun k _ e => e)
            have hx6 : w6.heap[g]? = some (.cells (vcs t vy (Value.slice none 0 0) vI) 38 (0, 0)) := (hk6.block _ (blk_lt HTZ.out.x) hne6).trans HTZ.out.x
            have c12 : w6.cell? ⟨g, 12, none⟩ = some vI := blk_cell (j := 12) hx6 rfl
            have f12 : w6.frozen? ⟨g, 12, none⟩ = false := blk_frozen 12 hx6
            have hS6 : S16 w cs g (Value.slice none 0 0) [] w6 := by
              have hgg := HTZ.out.gg
              exact ⟨HTZ.out.b.trans (hk6.below HTZ.out.b.size (fun q e => by have := HTZ.out.o.lt q e; omega)), (hk6.block _ (blk_lt HTZ.out.p) (fun e => by have := HTZ.out.o.lt _ e; omega)).trans HTZ.out.p, hk6.owns HTZ.out.l (fun q h1 h2 => own_dis HTZ.out.l HTZ.out.o (by decide) q h1 h2)⟩
            refine (Hid.out hK) _ _ hS6 (fun hS7 => ?_)
            clear hK K hg6 hq6 ho6 hx6 hS6 hne6 hk6
            (try simp only [Act.put]); (try simp only [List.setIfInBounds_toArray, List.set_cons_zero, List.set_cons_succ])
            refine heldTake 10 _ rfl (by kernel_rfl) (by kernel_rfl) (by kernel_rfl) (fun _ _ _ h => h) rfl hS7 (fun wy hy => by first | (go_simp; done) | (go_simp; rfl) | rfl) ?_
            (try simp only [Act.put]); (try simp only [List.setIfInBounds_toArray, List.set_cons_zero, List.set_cons_succ])
            refine heldStep 11 rfl (by kernel_rfl) (fun K hK => ?_)
            go_simp
            refine (Hid.out hK) _ _ ⟨HT6.out.b, HT6.out.p, HT6.out.l⟩ (fun hS8 => ?_)
            clear hK K
            (try simp only [Act.put]); (try simp only [List.setIfInBounds_toArray, List.set_cons_zero, List.set_cons_succ])
            refine heldDone (by kernel_rfl) ?_
            clear hS7 hS8 c12 f12
            go_wp2_with fail
            go_roundw
            case rel => exact ⟨q + 1, _, _, _, by omega, by go_num, HT6, ⟨by have := HN.out.1; simp; omega, trivial⟩, HI2.out t' HTR.out⟩
            case measure => simp [intOf]; omega
      · have g1 : ¬ (i : Int) < (t.is.length : Int) := by omega
        have hie : i = t.is.length := by omega
        have hgg := HT.out.gg
        have HV1 : Hid (∀ j x, (vcs t vy (.slice none 0 0) vI)[j]? = some x → wr.cell? ⟨g, 0 + j, none⟩ = some x) := fun j x hx => by rw [Nat.zero_add]; exact blk_cell HT.out.x hx
        have HRR := hide HT.out.r
        have hkr := row_kp wr (w.heap.size + 1) (vcs t vy (.slice none 0 0) vI)
        have hbs := HT.out.b.size
        have HBZ : Hid (Below w.heap.size w (wr.setRow (w.heap.size + 1) (vcs t vy (.slice none 0 0) vI))) := HT.out.b.trans (hkr.below hbs (fun q e => by omega))
        have HEN : Hid ((wr.setRow (w.heap.size + 1) (vcs t vy (.slice none 0 0) vI)).heap[w.heap.size + 1]? = some (.cells (vcs t vy (.slice none 0 0) vI) 38 (0, 0))) := row_same HRR.out
        have HTR : Hid (SrtR t (Tv.mk t.k t.f t.g t.n t.b t.s t.y t.l [] ms)) := by
          refine SrtR.rest t _ h9 ⟨rfl, rfl, rfl, rfl, rfl, rfl, rfl, rfl⟩ ?_ ?_ ?_
          · show [] = t.ks
            rw [HTK.out.e h9]
          · show ms.length = _
            rw [HN.out.1, hie]
          · intro j u v hu hv
            have hjl := (List.getElem?_eq_some_iff.1 hu).1
            exact HI.out j u v (by omega) hu hv
        have HTS : Hid (Tis (wr.setRow (w.heap.size + 1) (vcs t vy (.slice none 0 0) vI)) (fun q => q < w.heap.size) (Tv.mk t.k t.f t.g t.n t.b t.s t.y t.l [] ms) (vcs t vy (.slice none 0 0) vI)) := by
          refine HT.out.tis HBD.out HYB.out hkr (by simp) (by simp) ?_
          have h1 := HN.out.1
          have h2 := HML.out
          omega
        have HAL : Hid ((vcs t vy (.slice none 0 0) vI).all (·.oneCell') = true) := HTS.out.tin.all1
        clear HI hkr hbs hgg
        go_wp2_with (first
          | (refine wpList_valAt rfl rfl g 0 (vcs t vy (.slice none 0 0) vI) rfl rfl HV1.out ?_)
          | (refine wpList_storeRow rfl rfl (w.heap.size + 1) zv (vcs t vy (.slice none 0 0) vI) 38 rfl rfl HRR.out infoV rfl HAL.out ?_))
        exact bodyPost_ret (end_rs6 rfl HEN.out rfl) rfl ⟨_, rfl, _, HTS.out, HTR.out, HBZ.out⟩
theorem rsorted_any (t : Tv) : RsrC t := by
  have h : ∀ N, ∀ t : Tv, SizeOf.sizeOf t = N → RsrC t := by
    intro N
    induction N using Nat.strongRecOn with
    | _ N ih => exact fun t hN => rsorted_step t (fun u hu => ih _ (by rw [← hN]; exact Tv.is_lt hu) u rfl)
  exact h _ t rfl
end
end Go.Proofs.YtglbllkmhedlfaaDoor

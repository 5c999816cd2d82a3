import Derived.Test.YtmcamdcgnegmmaaGreatDoorJs
import Derived.Test.YtmcamdcgnegmmaaGreatDoorJg
import Derived.Test.YtmcamdcgnegmmaaGreatDoorJq
import Derived.Test.YtmcamdcgnegmmaaGreatDoorJp
import Derived.Test.YtmcamdcgnegmmaaGreatDoorJr
import Derived.Test.YtmcamdcgnegmmaaGreatDoorJn
import Derived.Test.YtmcamdcgnegmmaaGreatDoorJo
import Derived.Great.FillDense
import Derived.Lib.SmallJoins
import Derived.Test.YtmcamdcgnegmmaaGreatDoorJa
import Derived.Test.YtmcamdcgnegmmaaGreatDoorJe
import Derived.Test.YtmcamdcgnegmmaaGreatDoorRows
import Derived.Lib.LaidU8T
import Derived.Lib.LaidIn
import Derived.Test.YtmcamdcgnegmmaaGreatDoorJb
set_option maxRecDepth 1000000
set_option maxHeartbeats 16000000
namespace Go.Proofs.YtmcamdcgnegmmaaGreatDoor
section
open Go.RowKit Go
def LaiC (p : Prt) : Prop := ∀ (w : World) (B : Nat) (v : Value) (n : Nat) (ds : List Nat) (vp : Value), w.ownsRow B 5 1 v n (bv ds) → v ≠ .slice none 0 0 → B ≤ w.heap.size → Pis w (fun q => v.ownBlock = some q) p vp → Pok p → n + (pall p).length ≤ 140737488340000 → (pall p).length ≤ 1000000000 → Calls Tryz.prog 59 #[v, vp] w (LayP w B v n ds (pall p))
theorem laid_step (p : Prt) (ih : ∀ q, pm q < pm p → LaiC q) : LaiC p := by
  intro w B v n ds vp hown hnn hB hp hok hlx hl
  have HIH := hide ih
  have HO := hide hown
  have HNN := hide hnn
  have HBq := hide hB
  have HP := hide hp
  have HOK := hide hok
  have HLX0 := hide hlx
  have HL := hide hl
  have HSP := hide (pall_split hok)
  have HPZ := hide (psz_len p)
  have HLX : Hid (n + (pfm p).length ≤ 140737488340000) := by
    have h1 := HSP.out
    rw [h1, List.length_append] at hlx
    show _ ≤ _
    omega
  have HNq : Hid (n ≤ 140737488350000) := by show _ ≤ _; omega
  obtain ⟨T0, x0, e0⟩ := pis_one hp
  subst e0
  obtain ⟨a, c, hv⟩ := own_slice7 hown
  subst hv
  clear ih hown hnn hB hp hok hlx hl
  go_enter Tryz.func59, Tryz.ntmps59
  go_upto_region 1 with fail
  go_cut [0] from 7 to 10 (fun vv wx => Hid (LayP w B (.slice a n c) n ds (pfm p) (.returned vv) wx))
  case first =>
    clear HIH HOK HL HSP HPZ HLX0
    cases p with
    | null => as_aux_lemma =>
      have e : Value.iface T0 x0 = .iface 149 (.agg #[]) := HP.out
      injection e with e1 e2
      subst e1
      subst e2
      have hm : ∀ w, (method 342 149 (.agg #[]) "trellis/lay.lay").run Tryz.prog w = .ok (201, .agg #[]) w := fun _ => by kernel_rfl
      have HCC := hide (nullLay_any w B _ n ds HO.out HNN.out HBq.out HNq.out)
      go_wp2_with fail
      refine HCC.out.mono ?_
      rintro e w1 ⟨v1, rfl, h1, h2, h3, h4⟩
      have HL1 : Hid (LayP w B (.slice a n c) n ds [246] (.returned v1) w1) := ⟨v1, rfl, h1, h2, h3, h4⟩
      clear h1 h2 h3 h4 hm HCC
      go_wp2_with fail
      go_meet
      case rel => exact HL1
    | truth b => as_aux_lemma =>
      have e : Value.iface T0 x0 = .iface 139 (.bool b) := HP.out
      injection e with e1 e2
      subst e1
      subst e2
      have hm : ∀ w, (method 342 139 (.bool b) "trellis/lay.lay").run Tryz.prog w = .ok (184, .bool b) w := fun _ => by kernel_rfl
      have HCC : Hid (Calls Tryz.prog 184 #[.bool b, .slice a n c] w (LayP w B (.slice a n c) n ds [if b = true then 245 else 244])) := by
        cases b with
        | true => exact trueLay_any w B _ n ds HO.out HNN.out HBq.out HNq.out
        | false => exact falseLay_any w B _ n ds HO.out HNN.out HBq.out HNq.out
      have HPF : Hid (pfm (.truth b) = [if b = true then 245 else 244]) := rfl
      generalize ([if b = true then 245 else 244] : List Nat) = F at *
      go_wp2_with fail
      refine HCC.out.mono ?_
      rintro e w1 ⟨v1, rfl, h1, h2, h3, h4⟩
      have HL1 : Hid (LayP w B (.slice a n c) n ds F (.returned v1) w1) := ⟨v1, rfl, h1, h2, h3, h4⟩
      have HL2 : Hid (LayP w B (.slice a n c) n ds (pfm (.truth b)) (.returned v1) w1) := by have h := HL1.out; rw [← HPF.out] at h; exact h
      clear h1 h2 h3 h4 hm HCC
      go_wp2_with fail
      go_meet
      case rel => exact HL2
    | whole g m => as_aux_lemma =>
      have e : Value.iface T0 x0 = .iface 141 (.agg #[.bool g, .int .u64 (m : Nat)]) := HP.out.1
      injection e with e1 e2
      subst e1
      subst e2
      have hm : ∀ w, (method 342 141 (.agg #[.bool g, .int .u64 (m : Nat)]) "trellis/lay.lay").run Tryz.prog w = .ok (186, .agg #[.bool g, .int .u64 (m : Nat)]) w := fun _ => by kernel_rfl
      have HCC := hide (wholeLay_any w B _ n ds HO.out HNN.out HBq.out HNq.out g m HP.out.2)
      go_wp2_with fail
      refine HCC.out.mono ?_
      rintro e w1 ⟨v1, rfl, h1, h2, h3, h4⟩
      have HL1 : Hid (LayP w B (.slice a n c) n ds (hl (if g = true then 1 else 0) m) (.returned v1) w1) := ⟨v1, rfl, h1, h2, h3, h4⟩
      clear h1 h2 h3 h4 hm HCC
      go_wp2_with fail
      go_meet
      case rel => exact HL1
    | float b => as_aux_lemma =>
      have e : Value.iface T0 x0 = .iface 142 (.int .u64 (b : Nat)) := HP.out.1
      injection e with e1 e2
      subst e1
      subst e2
      have hm : ∀ w, (method 342 142 (.int .u64 (b : Nat)) "trellis/lay.lay").run Tryz.prog w = .ok (190, .int .u64 (b : Nat)) w := fun _ => by kernel_rfl
      have HCC := hide (floatLay_any w B _ n ds HO.out HNN.out HBq.out HNq.out b HP.out.2)
      go_wp2_with fail
      refine HCC.out.mono ?_
      rintro e w1 ⟨v1, rfl, h1, h2, h3, h4⟩
      have HL1 : Hid (LayP w B (.slice a n c) n ds (251 :: be 8 b) (.returned v1) w1) := ⟨v1, rfl, h1, h2, h3, h4⟩
      clear h1 h2 h3 h4 hm HCC
      go_wp2_with fail
      go_meet
      case rel => exact HL1
    | text s => as_aux_lemma =>
      have e : Value.iface T0 x0 = .iface 143 (.string s) := HP.out.1
      injection e with e1 e2
      subst e1
      subst e2
      have HLQ : Hid (n + s.size ≤ 140737488350000) := by
        have h1 : n + (kfm s).length ≤ 140737488340000 := HLX.out
        unfold kfm at h1
        rw [List.length_append, sl_len7] at h1
        show _ ≤ _
        omega
      have hm : ∀ w, (method 342 143 (.string s) "trellis/lay.lay").run Tryz.prog w = .ok (192, .string s) w := fun _ => by kernel_rfl
      have HCC := hide (textLay_any w B _ n ds HO.out HNN.out HBq.out HNq.out s HLQ.out)
      go_wp2_with fail
      refine HCC.out.mono ?_
      rintro e w1 ⟨v1, rfl, h1, h2, h3, h4⟩
      have HL1 : Hid (LayP w B (.slice a n c) n ds (kfm s) (.returned v1) w1) := ⟨v1, rfl, h1, h2, h3, h4⟩
      clear h1 h2 h3 h4 hm HCC
      go_wp2_with fail
      go_meet
      case rel => exact HL1
    | octets y => as_aux_lemma =>
      obtain ⟨vb, e, hb, hbs, hyl⟩ := HP.out
      injection e with e1 e2
      have HYB := hide hb
      have HYV := hide hbs
      obtain ⟨⟨ay, cy, hv, _, _⟩, _, _⟩ := hb
      subst hv
      subst e1
      subst e2
      have HLQ : Hid (n + y.length ≤ 140737488350000) := by
        have h1 : n + (hl 2 y.length ++ y).length ≤ 140737488340000 := HLX.out
        rw [List.length_append] at h1
        show _ ≤ _
        omega
      clear hyl hbs
      have hm : ∀ w, (method 342 144 (.slice ay y.length cy) "trellis/lay.lay").run Tryz.prog w = .ok (195, .slice ay y.length cy) w := fun _ => by kernel_rfl
      have HCC := hide (octetsLay_any w B _ n ds HO.out HNN.out HBq.out HNq.out _ y HYB.out HYV.out HLQ.out)
      go_wp2_with fail
      refine HCC.out.mono ?_
      rintro e w1 ⟨v1, rfl, h1, h2, h3, h4⟩
      have HL1 : Hid (LayP w B (.slice a n c) n ds (hl 2 y.length ++ y) (.returned v1) w1) := ⟨v1, rfl, h1, h2, h3, h4⟩
      clear h1 h2 h3 h4 hm HCC
      go_wp2_with fail
      go_meet
      case rel => exact HL1
    | name y => as_aux_lemma =>
      obtain ⟨vb, e, hb, hy0, hbs, hyl⟩ := HP.out
      injection e with e1 e2
      have HYB := hide hb
      have HY0 := hide hy0
      have HYV := hide hbs
      obtain ⟨⟨ay, cy, hv, _, _⟩, _, _⟩ := hb
      subst hv
      subst e1
      subst e2
      have HLQ : Hid (n + 10 + y.length ≤ 140737488350000) := by
        have h1 : n + (hl 6 42 ++ (hl 2 y.length ++ y)).length ≤ 140737488340000 := HLX.out
        rw [List.length_append, List.length_append] at h1
        show _ ≤ _
        omega
      clear hyl hbs hy0
      have hm : ∀ w, (method 342 188 (.agg #[.slice ay y.length cy]) "trellis/lay.lay").run Tryz.prog w = .ok (203, .agg #[.slice ay y.length cy]) w := fun _ => by kernel_rfl
      have HCC := hide (nameLay_any w B _ n ds HO.out HNN.out HBq.out HNq.out _ y HYB.out HY0.out HYV.out HLQ.out)
      go_wp2_with fail
      refine HCC.out.mono ?_
      rintro e w1 ⟨v1, rfl, h1, h2, h3, h4⟩
      have HL1 : Hid (LayP w B (.slice a n c) n ds (hl 6 42 ++ (hl 2 y.length ++ y)) (.returned v1) w1) := ⟨v1, rfl, h1, h2, h3, h4⟩
      clear h1 h2 h3 h4 hm HCC
      go_wp2_with fail
      go_meet
      case rel => exact HL1
    | list is => as_aux_lemma =>
      obtain ⟨vi, e, hvi⟩ := HP.out
      injection e with e1 e2
      have HOC : Hid (is.length ≤ 140737488351232) := hvi.max
      obtain ⟨⟨ay, cy, cx, hv, -, -, -⟩, -⟩ := hvi
      subst hv
      subst e1
      subst e2
      have hm : ∀ w, (method 342 146 (.slice ay is.length cy) "trellis/lay.lay").run Tryz.prog w = .ok (197, .slice ay is.length cy) w := fun _ => by kernel_rfl
      have HCC := hide (listLay_any w B _ n ds HO.out HNN.out HBq.out HNq.out ay is.length cy HOC.out)
      go_wp2_with fail
      refine HCC.out.mono ?_
      rintro e w1 ⟨v1, rfl, h1, h2, h3, h4⟩
      have HL1 : Hid (LayP w B (.slice a n c) n ds (hl 4 is.length) (.returned v1) w1) := ⟨v1, rfl, h1, h2, h3, h4⟩
      clear h1 h2 h3 h4 hm HCC
      go_wp2_with fail
      go_meet
      case rel => exact HL1
    | entries ks is => as_aux_lemma =>
      obtain ⟨vk, vi, e, hk, -, -⟩ := HP.out
      injection e with e1 e2
      have HOC : Hid (ks.length ≤ 140737488351232) := hk.max
      obtain ⟨⟨ay, cy, hv, _, _⟩, _, _⟩ := hk
      subst hv
      subst e1
      subst e2
      have hm : ∀ w, (method 342 148 (.agg #[.slice ay ks.length cy, vi]) "trellis/lay.lay").run Tryz.prog w = .ok (199, .agg #[.slice ay ks.length cy, vi]) w := fun _ => by kernel_rfl
      have HCC := hide (entriesLay_any w B _ n ds HO.out HNN.out HBq.out HNq.out ay ks.length cy vi HOC.out)
      go_wp2_with fail
      refine HCC.out.mono ?_
      rintro e w1 ⟨v1, rfl, h1, h2, h3, h4⟩
      have HL1 : Hid (LayP w B (.slice a n c) n ds (hl 5 ks.length) (.returned v1) w1) := ⟨v1, rfl, h1, h2, h3, h4⟩
      clear h1 h2 h3 h4 hm HCC
      go_wp2_with fail
      go_meet
      case rel => exact HL1
  have HL1 := hcut
  clear hcut
  obtain ⟨o1, o2, o3, o4⟩ := HL1.out.out
  obtain ⟨a1, c1, hv1⟩ := own_slice7 o1
  subst hv1
  have HP1 : Hid (Pis wc (fun q => (Value.slice a1 (n + (pfm p).length) c1).ownBlock = some q) p (.iface T0 x0)) := HP.out.live o3 (fun q hq => by
    rcases o4 with e | e
    · exact .inl (e ▸ hq)
    · exact .inr (e q hq))
  have HBC := hide (below_any wc (fun q => (Value.slice a1 (n + (pfm p).length) c1).ownBlock = some q) (fun q hq => (o1.lt q hq).2) p _ HP1.out HOK.out HL.out)
  clear o1 o2 o3 o4
  go_wp2_with fail
  refine HBC.out.mono ?_
  rintro e w2 ⟨vp, vs, rfl, hb2, ho2, hp2⟩
  have HL2 : Hid (LayP w B (.slice a n c) n ds (pfm p) (.returned (.slice a1 (n + (pfm p).length) c1)) w2) := by
    obtain ⟨o1, o2, o3, o4⟩ := HL1.out.out
    exact ⟨_, rfl, (Kp.of_below (S := fun _ => False) hb2).owns o1 (fun _ _ h => h), o2, o3.trans (Kp.of_below (S := fun q => (Value.slice a n c).ownBlock = some q) hb2) (fun _ _ e => e), o4⟩
  obtain ⟨av, cv, hvv⟩ := own_slice7 ho2
  subst hvv
  have HR2 := hide ho2
  have HP2 := hide hp2
  have HWC : Hid (wc.heap.size ≤ w2.heap.size) := hb2.size
  have HPB : Hid (∀ k q, (pbl p)[k]? = some q → Pok q ∧ pm q < pm p) := fun k q hq => pbl_ok HOK.out (List.mem_of_getElem? hq)
  have HTK : Hid (∀ k q, (pbl p)[k]? = some q → (((pbl p).take (k + 1)).map pall).flatten = (((pbl p).take k).map pall).flatten ++ pall q) := fun k q hq => pall_take hq
  have HLE : Hid (∀ k, (pfm p).length + (((pbl p).take k).map pall).flatten.length ≤ (pall p).length) := fun k => by
    have h1 := HSP.out
    have h2 : (((pbl p).take k).map pall).flatten.length ≤ ((pbl p).map pall).flatten.length := by
      have e : (pbl p).map pall = ((pbl p).take k).map pall ++ ((pbl p).drop k).map pall := by rw [← List.map_append, List.take_append_drop]
      rw [e, List.flatten_append, List.length_append]
      omega
    rw [h1, List.length_append]
    omega
  have HFN : Hid (pfm p ++ (((pbl p).take (pbl p).length).map pall).flatten = pall p) := by
    show _ = _
    rw [List.take_length, HSP.out]
  have HPL : Hid ((pbl p).length ≤ 1000000000) := by
    have h1 := flat_len7 (pbl p)
    have h2 := HL.out
    have h3 := HSP.out
    show _ ≤ _
    rw [h3, List.length_append] at h2
    omega
  generalize pbl p = ps at *
  have hpl := HPL.out
  clear hb2 ho2 hp2 HBC HP HP1 HL1
  go_wp2_with fail
  go_loopw [0, 13] (fun bb kk wx => ∃ (k : Nat) (L : List Nat), k ≤ ps.length ∧ kk = .int .i64 (k : Nat) ∧ Hid (L = pfm p ++ ((ps.take k).map pall).flatten) ∧ Hid (LayP w B (.slice a n c) n ds L (.returned bb) wx) ∧ Hid (wx.ownsRow wc.heap.size 110 1 (.slice av ps.length cv) ps.length vs ∧ ∀ (i : Nat) (q : Prt) (u : Value), k ≤ i → ps[i]? = some q → vs[i]? = some u → Pis wx (fun z => bb.ownBlock = some z) q u)) (fun _ kk _ => ps.length - (intOf kk).toNat)
  case atStart => exact ⟨0, pfm p, by omega, rfl, hide (by simp), HL2, hide ⟨HR2.out, fun i q u _ hq hu => HP2.out i q u hq hu⟩⟩
  case round =>
    rename World => wx
    obtain ⟨k, L, hk, rfl, HLL, HLY, HRP⟩ := hrel
    clear HL2 HR2 HP2
    by_cases hlt : k < ps.length
    · as_aux_lemma =>
      have g1 : (k : Int) < (ps.length : Int) := by omega
      have hvl : vs.length = ps.length := by have := HRP.out.1.1; omega
      obtain ⟨g, hag⟩ : ∃ g, av = some ⟨g, 0, none⟩ := by
        rcases HRP.out.1.2 with ⟨_, h1⟩ | ⟨g', c', cur, e, _⟩
        · omega
        · injection e with e1 _ _
          exact ⟨g', e1⟩
      subst hag
      have hvk : vs[k]? = some vs[k] := List.getElem?_eq_getElem (by omega)
      have hpk : ps[k]? = some ps[k] := List.getElem?_eq_getElem hlt
      have ck : wx.cell? ⟨g, k, none⟩ = some vs[k] := by
        have h := HRP.out.1.cells (g := g) rfl k _ hvk
        rw [addr_add, Nat.zero_add] at h
        exact h
      obtain ⟨hok, hpm⟩ := HPB.out k _ hpk
      have hpis := HRP.out.2 k _ _ (Nat.le_refl _) hpk hvk
      have htk := HTK.out k _ hpk
      have hle := HLE.out (k + 1)
      rw [htk, List.length_append] at hle
      have hll := HL.out
      have hlx := HLX0.out
      obtain ⟨o1, o2, o3, o4⟩ := HLY.out.out
      obtain ⟨ab, cb, hvb⟩ := own_slice7 o1
      subst hvb
      have hLl : L.length = (pfm p).length + (((ps.take k).map pall).flatten).length := by rw [HLL.out, List.length_append]
      have HQC := hide (HIH.out _ hpm wx B _ (n + L.length) (ds ++ L) _ o1 o2 (Nat.le_trans HBq.out o3.size) hpis hok (by omega) (by omega))
      have HL3 : Hid (L ++ pall ps[k] = pfm p ++ ((ps.take (k + 1)).map pall).flatten) := by show _ = _; rw [htk, HLL.out, List.append_assoc]
      obtain ⟨T1, x1, e1⟩ := pis_one hpis
      rw [e1] at ck HQC
      have HLT := hide hlt
      have HK3 := hide o3
      have HA3 : Hid (At7 w (.slice a n c) (.slice ab (n + L.length) cb)) := o4
      generalize hq : ps[k] = qk at *
      clear hok hpm hpis htk hle hll hvk hpk hvl hlt e1 o1 o2 o3 o4 hLl hlx hq
      go_wp2_with fail
      refine HQC.out.mono ?_
      rintro e w3 ⟨v3, rfl, h1, h2, h3, h4⟩
      have HL4 : Hid (LayP w B (.slice a n c) n ds (L ++ pall qk) (.returned v3) w3) := LayP.two HK3.out HA3.out rfl (by rw [← List.append_assoc]; exact h1) h3 h2 h4
      have hrow : w3.ownsRow wc.heap.size 110 1 (.slice (some ⟨g, 0, none⟩) ps.length cv) ps.length vs := h3.owns HRP.out.1 (fun q hq e => by
        have hb := HLY.out.out.1
        exact own_apart HRP.out.1 hb (by decide) hq e)
      have HR4 : Hid (w3.ownsRow wc.heap.size 110 1 (.slice (some ⟨g, 0, none⟩) ps.length cv) ps.length vs ∧ ∀ (i : Nat) (q : Prt) (u : Value), k + 1 ≤ i → ps[i]? = some q → vs[i]? = some u → Pis w3 (fun z => v3.ownBlock = some z) q u) := ⟨hrow, fun i q u hi hq hu => (HRP.out.2 i q u (by omega) hq hu).live h3 (fun z hz => by
        rcases h4 with e | e
        · exact .inl (e ▸ hz)
        · exact .inr (e z hz))⟩
      clear h1 h2 h3 h4 hrow ck HQC HRP HLY HK3 HA3
      go_wp2_with fail
      go_roundw
      case rel => exact ⟨k + 1, _, by have := HLT.out; omega, by go_num, HL3, HL4, HR4⟩
      case measure => have := HLT.out; simp [intOf]; omega
    · as_aux_lemma =>
      have g1 : ¬ (k : Int) < (ps.length : Int) := by omega
      have HE : Hid (LayP w B (.slice a n c) n ds (pall p) (.returned u0) wx) := by
        have h := HLY.out
        rw [HLL.out, show k = ps.length by omega, HFN.out] at h
        exact h
      clear hlt HRP
      go_wp2_with fail
      go_ret
      exact HE.out
theorem laid7_any (p : Prt) : LaiC p := by
  have key : ∀ N p, pm p < N → LaiC p := by
    intro N
    induction N with
    | zero => intro p h; omega
    | succ N ih => intro p h; exact laid_step p (fun q hq => ih q (by omega))
  exact key _ p (Nat.lt_succ_self _)
end
section
open Go.RowKit Go
def ChkC7 (t : Tv) (E : Nat) : Prop := ∀ (w : World) (cs : Array Value), Tin w t cs → Tabs w → Calls Tryz.prog 55 #[.agg cs] w fun e w' => e = .returned (.int .i64 (E : Nat)) ∧ Below w.heap.size w w'
def SrtC7 (t s : Tv) : Prop := ∀ (w : World) (cs : Array Value), Tin w t cs → Calls Tryz.prog 57 #[.agg cs] w fun e w' => ∃ c', e = .returned (.agg c') ∧ Tin w' s c' ∧ Below w.heap.size w w'
def AppP (w : World) (ds xs : List Nat) (e : Ending) (w' : World) : Prop := ∃ v', e = .returned (.tuple #[v', .int .i64 0]) ∧ w'.ownsRow w.heap.size 5 1 v' (ds ++ xs).length (bv (ds ++ xs)) ∧ Below w.heap.size w w'
theorem mk7 (w : World) (c : Nat) (hc : c ≤ 10000000000) : ∃ cur : Array Value, cur.size = c ∧ (Instr.makeSlice 26 (.int .i64 0) (.int .i64 (c : Nat))).run Tryz.prog w = .ok (.slice (some ⟨w.heap.size, 0, none⟩) 0 c) (w.alloc (.cells cur 5)) := by
  obtain ⟨i5, hi, hz0, hz1, hz2⟩ := info5_ex
  have hr := run_make (P := Tryz.prog) w 26 5 i5 (.int .u8 0) Tryz.underlying26 hi hz0 .i64 .i64 0 c (by omega) (by omega) (by rw [hz2]; omega) (by omega)
  simp only [Int.toNat_natCast, hz1, Nat.mul_one] at hr
  exact ⟨_, by simp [madeCells], hr⟩
theorem mk7_own (w : World) (c : Nat) (cur : Array Value) (hc : cur.size = c) (hl : c ≤ 10000000000) (B : Nat) (hB : B ≤ w.heap.size) : (w.alloc (.cells cur 5)).ownsRow B 5 1 (.slice (some ⟨w.heap.size, 0, none⟩) 0 c) 0 (bv []) :=
  World.ownsRow_made w cur c hB (by unfold maxLen; omega) (by omega)
theorem append_good (w : World) (vb : Value) (bs : List Nat) (hb : BSl w vb bs) (hbl : bs.length ≤ 1000000000) (t s : Tv) (cs : Array Value) (hc : ChkC7 t 0) (hs : SrtC7 t s) (hp : Ptr s) (hl : (tfm s).length ≤ 1000000000) (ht : Tin w t cs) (hT : Tabs w) : Calls Tryz.prog 33 #[vb, .agg cs] w (AppP w bs (tfm s)) := by
  have hb0 := below_alloc4 w (.cells cs 41)
  have HB0 := hide hb0
  have HG0 := hide (heap_alloc_new w (.cells cs 41))
  have HSZ := hide ht.size13
  have HTN := hide ht
  have HBS := hide hb
  have HPT := hide hp
  have HL := hide hl
  have HBL := hide hbl
  have HSC := hide hs
  have HCK := hide (hc (w.alloc (.cells cs 41)) cs (ht.move (keep_below hb0)) (hT.next hb0))
  obtain ⟨⟨ab, cb, hvb, _, _⟩, _, _⟩ := hb
  subst hvb
  clear hc ht hT hb0 hs hp hl hbl
  go_enter Tryz.func33, Tryz.ntmps33
  go_upto_region 1 with fail
  generalize w.alloc (.cells cs 41) = w0 at *
  have HVC : Hid (∀ j u, cs[j]? = some u → w0.cell? ⟨w.heap.size, 0 + j, none⟩ = some u) := fun j u hu => by rw [Nat.zero_add]; exact blk_cell HG0.out hu
  go_wp2_with (refine wpList_exec rfl (exec_valAt (g := w.heap.size) (off := 0) (cs := cs) rfl rfl HSZ.out HVC.out) ?_)
  refine HCK.out.mono ?_
  rintro e w1 ⟨rfl, hb1⟩
  have HB1 : Hid (Below w.heap.size w w1) := HB0.out.trans (hb1.mono HB0.out.size)
  have HV1 : Hid (∀ j u, cs[j]? = some u → w1.cell? ⟨w.heap.size, 0 + j, none⟩ = some u) := fun j u hu => keep_below hb1 _ _ (HVC.out j u hu)
  have HS1 := hide (HSC.out w1 cs (HTN.out.move (keep_below HB1.out)))
  clear hb1 HVC HCK
  go_wp2_with (refine wpList_exec rfl (exec_valAt (g := w.heap.size) (off := 0) (cs := cs) rfl rfl HSZ.out HV1.out) ?_)
  refine HS1.out.mono ?_
  rintro e w2 ⟨c2, rfl, ht2, hb2⟩
  have HB2 : Hid (Below w.heap.size w w2) := HB1.out.trans (hb2.mono HB1.out.size)
  have HP2 := hide (partOf_any w2 (fun _ => False) (fun _ h => False.elim h) s c2 (Tis.of_tin ht2 (fun _ h => False.elim h)))
  clear ht2 hb2 HS1 HV1
  go_wp2_with fail
  refine HP2.out.mono ?_
  rintro e w3 ⟨v3, rfl, hb3, hp3⟩
  have HB3 : Hid (Below w.heap.size w w3) := HB2.out.trans (hb3.mono HB2.out.size)
  have HPA : Hid (pall (prt s) = tfm s) := pall_prt HPT.out
  have HOK := hide (pok_prt HPT.out)
  have HSI := hide (size7_any (prt s) w3 (fun _ => False) v3 (fun _ h => False.elim h) hp3 HOK.out (by rw [HPA.out]; exact HL.out))
  have HP3 := hide hp3
  obtain ⟨T3, x3, e3⟩ := pis_one hp3
  subst e3
  rw [HPA.out] at HSI
  clear hb3 hp3 HP2
  go_wp2_with fail
  refine HSI.out.mono ?_
  rintro e w4 ⟨rfl, hb4⟩
  have HB4 : Hid (Below w.heap.size w w4) := HB3.out.trans (hb4.mono HB3.out.size)
  have HP4 := hide (HP3.out.live (Kp.of_below (S := fun _ => False) hb4) (fun _ h => False.elim h))
  clear hb4 HSI
  obtain ⟨K, hK⟩ : ∃ K : Nat, K = bs.length + (tfm s).length := ⟨_, rfl⟩
  have hbl2 := HBL.out
  have hll2 := HL.out
  have e1 : IntKind.i64.wrap ((bs.length : Int) + ((tfm s).length : Int)) = (K : Int) := by rw [IntKind.wrap_i64]; omega
  obtain ⟨cur, hcz, hmk⟩ := mk7 w4 K (by omega)
  have hb5 := below_alloc4 w4 (.cells cur 5)
  have HB5 : Hid (Below w.heap.size w (w4.alloc (.cells cur 5))) := HB4.out.trans (hb5.mono HB4.out.size)
  have HO5 := hide (mk7_own w4 K cur hcz (by omega) w.heap.size HB4.out.size)
  have HP5 : Hid (Pis (w4.alloc (.cells cur 5)) (fun q => (Value.slice (some ⟨w4.heap.size, 0, none⟩) 0 K).ownBlock = some q) (prt s) (.iface T3 x3)) := HP4.out.live (Kp.of_below (S := fun _ => False) hb5) (fun q hq => by
    have e : w4.heap.size = q := Option.some.inj hq
    exact .inr (Nat.le_of_eq e))
  have HS5 := hide (HBS.out.move (keep_below HB5.out))
  clear hK hbl2 hll2 hcz hb5 HP3 HP4
  have hbl3 := HBL.out
  go_wp2_with (at_builtin; refine append_bytes rfl _ _ 26 26 rfl Tryz.underlying26 Tryz.underlying26 w.heap.size _ 0 [] rfl HO5.out (fun h => by cases h) _ bs rfl HS5.out (by omega) HB5.out.size ?_)
  intro v6 w6 hO6 hg6 hn6 hA6
  have hk6 := kp_grown hg6
  have hs6 : ∀ k, (fun q => (Value.slice (some ⟨w4.heap.size, 0, none⟩) 0 K).ownBlock = some q) k → w.heap.size ≤ k := fun k hk => by
    have e : w4.heap.size = k := Option.some.inj hk
    exact e ▸ HB4.out.size
  have HB6 : Hid (Below w.heap.size w w6) := HB5.out.trans (hk6.below HB5.out.size hs6)
  have HP6 := hide (HP5.out.live (T := fun q => v6.ownBlock = some q) hk6 (fun q hq => by
    rcases hA6 with e | e
    · exact .inl (e ▸ hq)
    · exact .inr (e q hq)))
  have hll3 := HL.out
  have HLA := hide (laid7_any (prt s) w6 w.heap.size v6 bs.length bs (.iface T3 x3) hO6 hn6 HB6.out.size HP6.out HOK.out (by rw [HPA.out]; omega) (by rw [HPA.out]; exact HL.out))
  have hlt6 := hide (fun k (hk : v6.ownBlock = some k) => (hO6.lt k hk).1)
  obtain ⟨a6, c6, hv6⟩ := own_slice7 hO6
  subst hv6
  rw [HPA.out] at HLA
  clear hO6 hg6 hn6 hA6 hk6 hs6 hll3 hbl3 HO5 HS5 HP5 HB5 HP6 hmk e1
  go_wp2_with fail
  refine HLA.out.mono ?_
  rintro e w7 ⟨v7, rfl, g1, g2, g3, g4⟩
  have HB7 : Hid (Below w.heap.size w w7) := HB6.out.trans (g3.below HB6.out.size hlt6.out)
  have HO7 := hide g1
  clear g1 g2 g3 g4 HLA
  go_wp2_with fail
  go_ret2
  refine ⟨v7, rfl, ?_, HB7.out⟩
  rw [List.length_append]
  exact HO7.out
end
section
open Go.RowKit Go
theorem aloneN_any (t : Tv) (hk7 : ¬ t.k = 7) (hk9 : ¬ t.k = 9) (a : Nat) (w : World) (cs : Array Value) (ht : Tin w t cs) (hm : tmuch t ≤ 6000000) (hT : Tabs w) : Calls Tryz.prog 111 #[.agg cs, .int .i64 (a : Nat)] w fun e w' => e = .returned (.int .i64 (onef t a : Nat)) ∧ Below w.heap.size w w' := by
  by_cases h8 : t.k = 8
  · exact alone_8 t h8 a w cs ht hm hT
  · exact alone_x t hk7 h8 hk9 a w cs ht hm hT
def ChkN (t : Tv) : Prop := ∀ (a : Nat) (w : World) (cs : Array Value), Tin w t cs → a + tmuch t ≤ 6000000 → tmuch t ≤ 6000000 → Tabs w → Calls Tryz.prog 77 #[.agg cs, .int .i64 (a : Nat)] w fun e w' => e = .returned (.int .i64 (chkf t a : Nat)) ∧ Below w.heap.size w w'
theorem nat_ne0N {a : Nat} : ((a : Int) != 0) = decide (a ≠ 0) := by
  rw [Bool.eq_iff_iff]
  simp
theorem checkedN_step (t : Tv) (hk7 : ¬ t.k = 7) (hk9 : ¬ t.k = 9) (ih : ∀ u ∈ t.is, ChkN u) : ChkN t := by
  intro a w cs ht hat hm hT
  have HIH := hide ih
  have HTN := hide ht
  have HT := hide hT
  have HSZ := hide ht.size13
  have hme := tmuch_eq t
  have HML : Hid (a + 1 + tmuchL t.is ≤ 6000000 ∧ tmuchL t.is ≤ 6000000) := ⟨by omega, by omega⟩
  have HMM := hide hm
  have haa : a ≤ 6000000 := by omega
  have HCE := hide (chkf_eq t a)
  clear ih hT hat hm hme
  obtain ⟨vy, vk, vi, rfl, hy, hk, hv, hb⟩ := ht.parts
  obtain ⟨⟨ai, ci, rfl, _, hform⟩, hmax⟩ := hv
  have HF := hide hform
  have HCI : Hid ((vcs t vy vk (.slice ai t.is.length ci))[12]? = some (.slice ai t.is.length ci)) := rfl
  generalize vcs t vy vk (.slice ai t.is.length ci) = cs at *
  clear ht hy hk hb hform
  generalize chkf t a = E at *
  have HQ0 : Hid (Aln w (w.alloc (.cells cs 41)) cs) := box_mk0 w _
  have HV0 := hide HQ0.out.va
  go_enter Tryz.func77, Tryz.ntmps77
  go_wp2_with (refine wpList_valAt rfl rfl w.heap.size 0 cs rfl HSZ.out HV0.out ?_)
  refine (aloneN_any t hk7 hk9 a _ cs (HTN.out.move (keep_below HQ0.out.1)) HMM.out (HT.out.next HQ0.out.1)).mono ?_
  rintro e w1 ⟨rfl, hb1⟩
  have HQ1 := hide (HQ0.out.next hb1)
  clear hb1 HQ0 HV0
  by_cases h1 : onef t a = 0
  case neg => as_aux_lemma =>
    have HE : Hid (E = onef t a) := by show _ = _; rw [HCE.out, if_neg h1]
    have g1 : ((onef t a : Int) != 0) = true := by rw [nat_ne0N]; simp [h1]
    clear h1
    generalize onef t a = n at *
    go_wp2_with fail
    go_ret
    exact ⟨by rw [HE.out]; rfl, HQ1.out.1⟩
  rw [if_pos h1] at HCE
  rw [h1]
  clear h1
  have q12 := blk_cell HQ1.out.2 HCI.out
  go_wp2_with fail
  go_loopw [18] (fun ii wx => ∃ i : Nat, i ≤ t.is.length ∧ ii = .int .i64 (i : Nat) ∧ Hid (∀ j u, j < i → t.is[j]? = some u → chkf u (a + 1) = 0) ∧ Hid (Below w.heap.size w wx)) (fun ii _ => t.is.length - (intOf ii).toNat)
  case atStart => exact ⟨0, by omega, rfl, fun j u hj => absurd hj (by omega), HQ1.out.1⟩
  case round =>
    obtain ⟨i, hi, rfl, HI, HQ⟩ := hrel
    clear HQ1 q12
    by_cases hlt : i < t.is.length
    · as_aux_lemma =>
      have g1 : (i : Int) < (t.is.length : Int) := by omega
      obtain ⟨u, hu⟩ : ∃ u, t.is[i]? = some u := ⟨t.is[i], List.getElem?_eq_getElem hlt⟩
      obtain ⟨b, off, rfl, hcells⟩ := HF.out.resolve_left (fun h => by rw [h] at hlt; simp at hlt)
      obtain ⟨cu, hcu, hcc⟩ := hcells i u hu
      have HCC : Hid (∀ j v, cu[j]? = some v → wr.cell? ⟨b, off + i * 13 + j, none⟩ = some v) := fun j v hv => keep_below HQ.out _ _ (hcc j v hv)
      have hmem := List.mem_of_getElem? hu
      have HZ1 := hide hcu.size13
      have HA1 := hide hcu.all1
      have HIT := hide (itm_mk wr cu)
      have HG0 := hide (heap_alloc_new wr (.cells zv 41))
      have HIN : Hid ((Tryz.prog.info? 41).map (·.size) = some cu.size) := by show _ = _; rw [HZ1.out]; exact infoV
      have HZV : Hid (zv.size = cu.size) := by show _ = _; rw [HZ1.out]; rfl
      have hmu := tmuchL_mem hmem
      have HCA := hide (HIH.out u hmem (a + 1) _ cu ((hcu.move (keep_below HQ.out)).move (keep_below HIT.out.b)) (by have := HML.out; omega) (by have := HML.out; omega) ((HT.out.next HQ.out).next HIT.out.b))
      have ec : ((a + 1 : Nat) : Int) = (a : Int) + 1 := by omega
      rw [ec] at HCA
      have HCX := hide HIT.out.cells
      have HU := hide hu
      clear hu hcells hcu hcc hmem hmu ec
      go_wp2_with (first
        | (refine wpList_valAt rfl rfl b (off + i * 13) cu rfl HZ1.out HCC.out ?_)
        | (refine wpList_storeRow rfl rfl wr.heap.size zv cu 41 rfl rfl HG0.out HIN.out HZV.out HA1.out ?_)
        | (refine wpList_valAt rfl rfl wr.heap.size 0 cu rfl HZ1.out HCX.out ?_))
      refine HCA.out.mono ?_
      rintro e w5 ⟨rfl, hb5⟩
      have HQ5 : Hid (Below w.heap.size w w5) := (HQ.out.trans (HIT.out.b.mono HQ.out.size)).trans (hb5.mono (Nat.le_trans HQ.out.size HIT.out.b.size))
      clear hb5 HQ HCC HCA HCX HIT HG0
      by_cases he : chkf u (a + 1) = 0
      · have HI2 : Hid (∀ j u, j < i + 1 → t.is[j]? = some u → chkf u (a + 1) = 0) := fun j v hj h1 => by
          by_cases hji : j = i
          · subst hji
            rw [HU.out] at h1
            injection h1 with h1
            rw [← h1]
            exact he
          · exact HI.out j v (by omega) h1
        rw [he]
        clear he HU HI
        go_wp2_with fail
        go_roundw
        case rel => exact ⟨i + 1, by omega, by go_num, HI2, HQ5⟩
        case measure => simp [intOf]; omega
      · have HE : Hid (E = chkf u (a + 1)) := by show _ = _; rw [HCE.out, chkL_at HI.out HU.out he]
        have g2 : ((chkf u (a + 1) : Int) != 0) = true := by rw [nat_ne0N]; simp [he]
        clear he HU HI
        generalize chkf u (a + 1) = n at *
        go_wp2_with fail
        go_ret
        exact ⟨by rw [HE.out]; rfl, HQ5.out⟩
    · as_aux_lemma =>
      have g1 : ¬ (i : Int) < (t.is.length : Int) := by omega
      have HE : Hid (E = 0) := by
        show _ = _
        rw [HCE.out]
        refine chkL_none (fun u hu => ?_)
        obtain ⟨j, hj, e⟩ := List.getElem_of_mem hu
        exact HI.out j u (by omega) (by rw [List.getElem?_eq_getElem hj, e])
      go_wp2_with fail
      go_ret
      exact ⟨by rw [HE.out]; rfl, HQ.out⟩
theorem checkN_any (t : Tv) (hC : ChkN t) (w : World) (cs : Array Value) (ht : Tin w t cs) (hm : tmuch t ≤ 6000000) (hT : Tabs w) : Calls Tryz.prog 55 #[.agg cs] w fun e w' => e = .returned (.int .i64 (chkf t 0 : Nat)) ∧ Below w.heap.size w w' := by
  have HTN := hide ht
  have HT := hide hT
  have HSZ := hide ht.size13
  have HQ0 : Hid (Aln w (w.alloc (.cells cs 41)) cs) := box_mk0 w _
  have HV0 := hide HQ0.out.va
  have HMM := hide hm
  clear ht hT hm
  have HCA := hide (hC 0 _ cs (HTN.out.move (keep_below HQ0.out.1)) (by have := HMM.out; omega) HMM.out (HT.out.next HQ0.out.1))
  generalize chkf t 0 = E at *
  go_enter Tryz.func55, Tryz.ntmps55
  go_wp2_with (refine wpList_valAt rfl rfl w.heap.size 0 cs rfl HSZ.out HV0.out ?_)
  refine HCA.out.mono ?_
  rintro e w1 ⟨rfl, hb1⟩
  have HQ1 := hide (HQ0.out.next hb1)
  clear hb1 HQ0 HV0 HCA
  go_wp2_with fail
  go_ret
  exact ⟨rfl, HQ1.out.1⟩
theorem madN_eq {is js : List Tv} (h : Mad (fun u s => s = u) is js) : js = is := by
  apply List.ext_getElem?
  intro i
  by_cases hi : i < is.length
  · have hj : i < js.length := by rw [h.n]; exact hi
    rw [List.getElem?_eq_getElem hi, List.getElem?_eq_getElem hj, h.r i _ _ (List.getElem?_eq_getElem hi) (List.getElem?_eq_getElem hj)]
  · have := h.n
    rw [List.getElem?_eq_none (by omega), List.getElem?_eq_none (by omega)]
theorem wiN_self (t : Tv) : t.wi t.is = t := by
  obtain ⟨k, f, g, n, b, s, y, l, ks, is⟩ := t
  rfl
theorem end_soN {wx : World} {R : Nat} {c : Array Value} {tmps : Array Value} (hn : c.size = 13) (hr : wx.heap[R]? = some (.cells c 41 (0, 0))) (hp : tmps.getD 2 undef = .pointer (some ⟨R, 0, none⟩)) : (results Tryz.f57 tmps).run Tryz.prog wx = .ok (.agg c) wx := by
  refine (results_one (p := 2) (ty := 41) rfl _ _ _).trans ?_
  rw [hp]
  have h1 := run_loadVar_row (P := Tryz.prog) wx R 41 41 c (0, 0) _ hr Tryz.underlying41 rfl (by rw [hn]; exact infoV)
  simp [asAddr, h1, Result.andThen]
theorem sortedN_step (t : Tv) (hk9 : ¬ t.k = 9) (ih : ∀ u ∈ t.is, AgainC 57 (fun u s => s = u) u) : AgainC 57 (fun u s => s = u) t := by
  intro w cs ht hm
  have eF : ∀ args w, (callFunc 57 args).run Tryz.prog w = .ok (.enter 57 args) w := enters_of Tryz.func57 (by kernel_rfl) rfl
  have HIH := hide ih
  have HTN := hide ht
  have HMM := hide hm
  have HSZ := hide ht.size13
  have HK0 : Hid (cs[0]? = some (.int .i64 t.k)) := by
    obtain ⟨vy, vk, vi, rfl, _⟩ := ht.parts
    exact rfl
  clear ih ht hm
  have HW0 := hide (Rm.start w cs)
  have HZ0 : Hid (((w.alloc (.cells cs 41)).alloc (.cells zv 41)).heap.size = w.heap.size + 2) := by show _ = _; simp
  have HCB : Hid (∀ j u, cs[j]? = some u → ((w.alloc (.cells cs 41)).alloc (.cells zv 41)).cell? ⟨w.heap.size, 0 + j, none⟩ = some u) := fun j u hu => by rw [Nat.zero_add]; exact blk_cell HW0.out.p hu
  unfold zv at HW0 HZ0 HCB
  go_enter Tryz.func57, Tryz.ntmps57
  go_wp2_with (refine wpList_valAt rfl rfl w.heap.size 0 cs rfl HSZ.out HCB.out ?_)
  generalize (w.alloc (.cells cs 41)).alloc (.cells #[.int .i64 0, .bool false, .bool false, .int .u64 0, .int .u64 0, .string ⟨#[]⟩, .slice none 0 0, .int .i64 0, .int .u64 0, .int .u64 0, .string ⟨#[]⟩, .slice none 0 0, .slice none 0 0] 41) = w2 at *
  refine (remade_any 57 eF (fun u s => s = u) t HIH.out w2 cs (HTN.out.move (keep_below HW0.out.b)) HMM.out).mono ?_
  rintro e w3 ⟨c, js, rfl, hmd, hnt, hb3⟩
  rw [madN_eq hmd, wiN_self] at hnt
  have HW3 := hide (HW0.out.next hb3)
  have HNT : Hid (Ntv w3 (w.heap.size + 2) w3.heap.size t c) := hnt.mono (by rw [HZ0.out]; omega) (Nat.le_refl _)
  have HA1 := hide hnt.tin.all1
  have HS1 := hide hnt.size
  clear hmd hnt hb3 HW0 HCB HZ0
  have HIT := hide (itm_mk w3 c)
  have HG0 := hide (heap_alloc_new w3 (.cells zv 41))
  have HIN : Hid ((Tryz.prog.info? 41).map (·.size) = some c.size) := by show _ = _; rw [HS1.out]; exact infoV
  have HZV : Hid (zv.size = c.size) := by show _ = _; rw [HS1.out]; rfl
  have HW4 := hide (HW3.out.next HIT.out.b)
  have HN4 := hide (HNT.out.kept HIT.out.b)
  have q0 := blk_cell (j := 0) HW4.out.p HK0.out
  unfold zv at q0
  have g9 : (t.k == 9) = false := by simpa using hk9
  have HCX : Hid (∀ j u, c[j]? = some u → ((w3.alloc (.cells zv 41)).setRow w3.heap.size c).cell? ⟨w3.heap.size, 0 + j, none⟩ = some u) := HIT.out.cells
  have HR4 := hide HW4.out.r
  go_wp2_with (first
    | (refine wpList_storeRow rfl rfl w3.heap.size zv c 41 rfl rfl HG0.out HIN.out HZV.out HA1.out ?_)
    | (refine wpList_valAt rfl rfl w3.heap.size 0 c rfl HS1.out HCX.out ?_)
    | (refine wpList_storeRow rfl rfl (w.heap.size + 1) zv c 41 rfl rfl HR4.out HIN.out HZV.out HA1.out ?_))
  have hkr := row_kp ((w3.alloc (.cells zv 41)).setRow w3.heap.size c) (w.heap.size + 1) c
  have hzr := hkr.size
  have hz4 := HIT.out.z
  have hz3 := HW3.out.z
  have hfin : w3.heap.size ≤ (((w3.alloc (.cells zv 41)).setRow w3.heap.size c).setRow (w.heap.size + 1) c).heap.size := by omega
  refine bodyPost_ret (end_soN HS1.out (row_same HR4.out) rfl) rfl ⟨_, t, rfl, rfl, (HN4.out.kp hkr (fun q h1 h2 e => by omega)).mono (by omega) hfin, HW4.out.b.trans (hkr.below HW4.out.b.size (fun q e => by omega))⟩
end
section
open Go.RowKit Go
theorem encode_good (w : World) (t s : Tv) (cs : Array Value) (hc : ChkC7 t 0) (hs : SrtC7 t s) (hp : Ptr s) (hl : (tfm s).length ≤ 1000000000) (ht : Tin w t cs) (hT : Tabs w) : Calls Tryz.prog 22 #[.agg cs] w (AppP w [] (tfm s)) := by
  have hb0 := below_alloc4 w (.cells cs 41)
  have HB0 := hide hb0
  have HG0 := hide (heap_alloc_new w (.cells cs 41))
  have HSZ := hide ht.size13
  have HCA := hide (append_good (w.alloc (.cells cs 41)) (.slice none 0 0) [] ⟨⟨none, 0, rfl, by simp, .inl rfl⟩, by simp, fun x h => by cases h⟩ (by simp) t s cs hc hs hp hl (ht.move (keep_below hb0)) (hT.next hb0))
  clear hc hs hp hl ht hT hb0
  go_enter Tryz.func22, Tryz.ntmps22
  go_upto_region 1 with fail
  generalize w.alloc (.cells cs 41) = w0 at *
  have HVC : Hid (∀ j u, cs[j]? = some u → w0.cell? ⟨w.heap.size, 0 + j, none⟩ = some u) := fun j u hu => by rw [Nat.zero_add]; exact blk_cell HG0.out hu
  go_wp2_with (refine wpList_exec rfl (exec_valAt (g := w.heap.size) (off := 0) (cs := cs) rfl rfl HSZ.out HVC.out) ?_)
  refine HCA.out.mono ?_
  rintro e w1 ⟨v1, rfl, h1, hb1⟩
  have HB1 : Hid (Below w.heap.size w w1) := HB0.out.trans (hb1.mono HB0.out.size)
  have HO1 := hide (own_mono h1 HB0.out.size)
  clear h1 hb1 HCA HVC
  go_wp2_with fail
  go_ret2
  exact ⟨v1, rfl, HO1.out, HB1.out⟩
end
section
open Go.RowKit Go
theorem catchN9_idle (R : Nat) (z : Array Value) (w : World) (hr : w.heap[R]? = some (.cells z 31 (0, 0))) (hz : z.size = 2) :
    CallsD Tryz.prog 21 #[.pointer (some ⟨R, 0, none⟩)] .returning w fun e u' w' =>
      e = .returned (.tuple #[]) ∧ u' = .returning ∧ w'.heap[R]? = some (.cells #[.int .i64 0, .int .i64 0] 31 (0, 0)) ∧ Kp (fun x => x = R) w w' := by
  refine callsD_of_wpS Tryz.func21 rfl fun c₀ cs hu => ?_
  apply wpS_region
  simp [wpOpsS, go_sem, recoverD, hu, Tryz.ntmps21]
  refine (faultOf9_none w).mono ?_
  rintro e w1 ⟨rfl, hb⟩
  have hr1 := (hb.block _ (blk_lt hr)).trans hr
  have hst : Sem.run Tryz.prog (storeCells ⟨R, 0, none⟩ [.int .i64 0, .int .i64 0]) w1 = .ok () (w1.setRow R #[.int .i64 0, .int .i64 0]) := row_store (cs := #[.int .i64 0, .int .i64 0]) hr1 (by rw [hz]; rfl) (by simp [Value.oneCell'])
  have hk : Kp (fun x => x = R) w (w1.setRow R #[.int .i64 0, .int .i64 0]) := ((Kp.of_below (S := fun _ => False) hb).mono (fun _ _ e => e.elim)).trans (row_kp _ _ _) (fun _ _ e => e)
  have hrr := row_same (cs := #[.int .i64 0, .int .i64 0]) hr1
  dsimp only
  rw [if_pos (show (#[.int .i64 0, .int .i64 0] : Array Value).size = 2 from rfl), hst]
  simp [bodyPostS, results, Tryz.results21, go_sem]
  cases c₀
  simp_all
theorem end_n9 {wx : World} {F : Nat} {f : Array Value} {n : Value} {tmps : Array Value} (hf : f.size = 2) (hF : wx.heap[F]? = some (.cells f 31 (0, 0))) (he : tmps.getD 4 undef = n) (hq : tmps.getD 5 undef = .pointer (some ⟨F, 0, none⟩)) : (results Tryz.f16 tmps).run Tryz.prog wx = .ok (.tuple #[n, .agg f]) wx := by
  have h2 := run_loadVar_row (P := Tryz.prog) wx F 31 31 f (0, 0) _ hF Tryz.underlying31 rfl (by rw [hf]; exact infoFt)
  have h3 : Tryz.f16.results = #[.tmp 4, .cell 5 31] := rfl
  rw [Array.getD_eq_getD_getElem?] at he hq
  simp only [results, h3]
  simp [Result.andThen, he, hq, asAddr, h2]
theorem normal9_good (w : World) (v : Value) (b : List Nat) (hb : BSl w v b) (hT : Tabs w) (hbl : b.length ≤ 300000) (dp : Nat) (hd : dp ≤ 1024) (J : Nat) (hJ : b.length + 1 ≤ J) (hw : lwhole b dp J = (0, 0)) (hsk : ∃ q', lskip b dp J (dp + 1) 0 0 = .ok q') {t s : Tv} {ms : List (Nat × Nat)} {q : Nat} (hx : ltree b dp J (dp + 1) 0 0 [] = .ok (t, ms, q)) (hc : ChkC7 t 0) (hs : SrtC7 t s) (hp : Ptr s) (hl : (tfm s).length ≤ 1000000000) : Calls Tryz.prog 16 #[v, .int .i64 (dp : Nat)] w fun e w' => ∃ v', e = .returned (.tuple #[v', flt9 (0, 0)]) ∧ w'.ownsRow w.heap.size 5 1 v' (tfm s).length (bv (tfm s)) ∧ Below w.heap.size w w' := by
  have hmf : ∀ (fn : Fn) (first cap : Array Value) (w : World), (Instr.makeFunc fn first cap).run Tryz.prog w = .ok (.func fn first cap) w := fun _ _ _ _ => rfl
  have hb1 := below_alloc4 w (.cells #[.int .i64 0, .int .i64 0] 31)
  have HF1 := hide (heap_alloc_new w (.cells #[.int .i64 0, .int .i64 0] 31))
  have HB1 := hide hb1
  have HBB := hide hb
  have HTT := hide hT
  have HCW := hide (checkWhole9_any _ v b (hb.move (keep_below hb1)) (by omega) (dp : Int) (by omega) J hJ)
  rw [hw] at HCW
  have HCM := hide (fun w1 (h1 : BSl w1 v b) (h2 : Tabs w1) => meaning9_any w1 v b h1 h2 hbl dp hd J hJ hsk)
  rw [hx] at HCM
  have HCE := hide (fun w1 (cs : Array Value) (h1 : Tin w1 t cs) (h2 : Tabs w1) => encode_good w1 t s cs hc hs hp hl h1 h2)
  generalize tfm s = fm at *
  clear hb hT hbl hd hJ hw hsk hx hc hs hp hl hb1
  go_enter_defers Tryz.func16, Tryz.ntmps16
  go_wp2_with fail
  refine HCW.out.mono ?_
  generalize w.alloc (.cells #[.int .i64 0, .int .i64 0] 31) = w1 at *
  rintro e w3 ⟨hb3, ⟨-, rfl⟩ | ⟨hr, -⟩⟩
  case inr => exact absurd rfl hr
  have HF3 := hide ((hb3.block _ (blk_lt HF1.out)).trans HF1.out)
  have HB3 : Hid (Below w.heap.size w w3) := HB1.out.trans (hb3.mono HB1.out.size)
  have HCN := hide (HCM.out w3 (HBB.out.move (keep_below HB3.out)) (HTT.out.next HB3.out))
  clear hb3 HF1 HB1 HCW HCM
  go_wp2_with fail
  refine HCN.out.mono ?_
  rintro e w4 (⟨x, c, vn, D, hx, rfl, hb4, hN4, hD4, ho4⟩ | ⟨c, q9, hx, he', hb4⟩)
  case inr => cases hx
  injection hx with hx
  subst hx
  have HF4 := hide ((hb4.block _ (blk_lt HF3.out)).trans HF3.out)
  have HB4 : Hid (Below w.heap.size w w4) := HB3.out.trans (hb4.mono HB3.out.size)
  have HC13 := hide hN4.one
  obtain ⟨a6, cap6, hvn, -⟩ := own_formG ho4
  subst hvn
  have HTI : Hid (Tin w4 t c) := (hN4.ntv (hi := w4.heap.size) (fun q e => (hD4 q e).2.1)).tin
  clear hb4 hN4 hD4 ho4 HCN HF3 HB3
  have HAZ := hide (heap_alloc_new w4 (.cells #[.int .i64 0, .bool false, .bool false, .int .u64 0, .int .u64 0, .string ⟨#[]⟩, .slice none 0 0, .int .i64 0, .int .u64 0, .int .u64 0, .string ⟨#[]⟩, .slice none 0 0, .slice none 0 0] 41))
  have HINF : Hid ((Tryz.prog.info? 41).map (·.size) = some c.size) := by show _ = _; rw [HC13.out.1]; exact infoV13
  have HCA : Hid (c.all (·.oneCell') = true) := Array.all_eq_true.2 (fun i h => HC13.out.2 _ (by simp))
  have HCS : Hid ((#[.int .i64 0, .bool false, .bool false, .int .u64 0, .int .u64 0, .string ⟨#[]⟩, .slice none 0 0, .int .i64 0, .int .u64 0, .int .u64 0, .string ⟨#[]⟩, .slice none 0 0, .slice none 0 0] : Array Value).size = c.size) := by show _ = _; rw [HC13.out.1]; rfl
  have hba := below_alloc4 w4 (.cells #[.int .i64 0, .bool false, .bool false, .int .u64 0, .int .u64 0, .string ⟨#[]⟩, .slice none 0 0, .int .i64 0, .int .u64 0, .int .u64 0, .string ⟨#[]⟩, .slice none 0 0, .slice none 0 0] 41)
  have HB5 : Hid (Below w4.heap.size w4 ((w4.alloc (.cells #[.int .i64 0, .bool false, .bool false, .int .u64 0, .int .u64 0, .string ⟨#[]⟩, .slice none 0 0, .int .i64 0, .int .u64 0, .int .u64 0, .string ⟨#[]⟩, .slice none 0 0, .slice none 0 0] 41)).setRow w4.heap.size c)) := hba.trans ((row_kp _ _ _).below hba.size (fun q e => by omega))
  have HT5 := hide (row_same (cs := c) HAZ.out)
  clear hba
  go_upto_region 4 with (refine wpList_storeRow rfl rfl w4.heap.size #[.int .i64 0, .bool false, .bool false, .int .u64 0, .int .u64 0, .string ⟨#[]⟩, .slice none 0 0, .int .i64 0, .int .u64 0, .int .u64 0, .string ⟨#[]⟩, .slice none 0 0, .slice none 0 0] c 41 rfl rfl HAZ.out HINF.out HCS.out HCA.out ?_)
  clear HAZ
  generalize (w4.alloc (.cells #[.int .i64 0, .bool false, .bool false, .int .u64 0, .int .u64 0, .string ⟨#[]⟩, .slice none 0 0, .int .i64 0, .int .u64 0, .int .u64 0, .string ⟨#[]⟩, .slice none 0 0, .slice none 0 0] 41)).setRow w4.heap.size c = w5 at *
  have HF5 := hide ((HB5.out.block _ (blk_lt HF4.out)).trans HF4.out)
  have HVC : Hid (∀ j u, c[j]? = some u → w5.cell? ⟨w4.heap.size, 0 + j, none⟩ = some u) := fun j u hu => by rw [Nat.zero_add]; exact blk_cell HT5.out hu
  have HAV : Hid (∀ w, (isAgg 41).run Tryz.prog w = .ok true w) := aggV9
  have HB6 : Hid (Below w.heap.size w w5) := HB4.out.trans (HB5.out.mono HB4.out.size)
  have HCF := hide (HCE.out w5 c (HTI.out.move (keep_below HB5.out)) (HTT.out.next HB6.out))
  clear HCE HTI HB4
  go_wp2_with (refine wpList_aggAt rfl rfl HINF.out HAV.out w4.heap.size 0 c rfl rfl HVC.out ?_)
  refine HCF.out.mono ?_
  rintro e w6 ⟨v', rfl, ho6, hb6⟩
  have HF6 := hide ((hb6.block _ (blk_lt HF5.out)).trans HF5.out)
  have HB7 : Hid (Below w.heap.size w w6) := HB6.out.trans (hb6.mono HB6.out.size)
  have HO6 : Hid (w6.ownsRow w5.heap.size 5 1 v' fm.length (bv fm)) := ho6
  have HZ6 : Hid (w.heap.size < w5.heap.size) := blk_lt HF5.out
  have HIF : Hid ((Tryz.prog.info? 31).map (·.size) = some (#[.int .i64 0, .int .i64 0] : Array Value).size) := infoFt
  have HAF : Hid ((#[.int .i64 0, .int .i64 0] : Array Value).all (·.oneCell') = true) := by show _ = _; simp [Value.oneCell']
  obtain ⟨a7, cap7, hv7, -⟩ := own_formG HO6.out
  subst hv7
  clear ho6 hb6 HCF HF5 HB6 HVC HT5 HB5
  go_wp2_with (refine wpList_storeRow rfl rfl w.heap.size #[.int .i64 0, .int .i64 0] #[.int .i64 0, .int .i64 0] 31 rfl rfl HF6.out HIF.out rfl HAF.out ?_)
  refine leaves_cons (f := 21) (args := #[.pointer (some ⟨w.heap.size, 0, none⟩)]) (by simp) (by simp [go_sem]) ?_
  refine (catchN9_idle w.heap.size _ _ (row_same HF6.out) rfl).mono ?_
  rintro e u' w7 ⟨rfl, rfl, hr7, hk7⟩
  have hk67 : Kp (fun q => q = w.heap.size) w6 w7 := (row_kp _ _ _).trans hk7 (fun _ _ e => e)
  exact ⟨_, end_n9 rfl hr7 rfl rfl, _, rfl, own_rebase9 (hk67.owns HO6.out (fun q e e2 => by have h1 := (HO6.out.lt q e).1; have h2 := HZ6.out; omega)) (by have := HZ6.out; omega), HB7.out.trans (hk67.below HB7.out.size (fun q e => by omega))⟩
end
section
open Go.RowKit Go
theorem row2L {ops : Array Oper} {rest : List Oper} {o : Oper} {a : Act} {w : World} {Q : Exit → Act → World → Prop} {S T : TypeId} {z : Value} {k by' : Nat} (hI : (Tryz.prog.info? T).map (fun i => (i.zero, i.size, i.bytes)) = some (some z, k, by')) (hS : Tryz.prog.underlying S = some (.slice T)) (hk : 0 < k) (hk2 : k ≤ 100) (hg : o.guard = none) {x y : Operand} (ho : o.op = .buildSlice S 2 #[(0, x), (1, y)]) {c d : Array Value} (hx : a.eval x = .agg c) (hy : a.eval y = .agg d) (hc : c.size = k) (hd : d.size = k)
    (h : wpList Tryz.prog ops Q rest (a.put o.dst (.slice (some ⟨w.heap.size, 0, none⟩) 2 2)) (w.alloc (.cells (c ++ d) T))) : wpList Tryz.prog ops Q (o :: rest) a w := by
  obtain ⟨i, hi, hz, hs, _⟩ := info_ex hI
  refine wpList_buildSlice hg S T 2 _ ho (c ++ d) i _ hS hi hz (by rw [hs]; omega) (by rw [hs]; omega) ?_ h
  rw [hs]
  have e : (Array.map (fun (i, x) => (i, a.eval x)) #[((0 : Nat), x), (1, y)]).toList = (([.agg c, .agg d] : List Value).zipIdx 0).map fun x => (x.2, x.1) := by
    simp [hx, hy]
  rw [e]
  generalize hX : (Array.range (2 * k)).map (z.cells[· % z.cells.size]!) = X
  have hXs : X.size = 2 * k := by rw [← hX]; simp
  obtain ⟨r, hr, hsz, hk3⟩ := Great.fill_dense (s := k) hk [.agg c, .agg d] 0 X (by
    intro v hv
    rcases List.mem_cons.1 hv with rfl | hv
    · exact hc
    · rw [List.mem_singleton.1 hv]
      exact hd) (by rw [hXs]; simp)
  have e2 : r = c ++ d := by
    apply Array.ext_getElem?
    intro j
    rw [hk3 j, Array.getElem?_append]
    by_cases hj : j < k
    · rw [if_pos ⟨by omega, by simp; omega⟩, if_pos (by omega), Nat.div_eq_of_lt hj, Nat.mod_eq_of_lt hj]
      rfl
    · rw [if_neg (show ¬ j < c.size by omega)]
      by_cases hj2 : j < 2 * k
      · have e3 : j / k = 1 := Nat.div_eq_of_lt_le (by omega) (by omega)
        have e4 : j % k = j - k := by rw [Nat.mod_eq_sub_mod (by omega), Nat.mod_eq_of_lt (by omega)]
        rw [if_pos ⟨by omega, by simp; omega⟩, e3, e4, hc]
        rfl
      · rw [if_neg (by simp; omega), Array.getElem?_eq_none (by omega), Array.getElem?_eq_none (by omega)]
  rw [hr, e2]
theorem two_mkL (w : World) (c f : Array Value) :
    Below w.heap.size w ((((w.alloc (.cells vz9 41)).alloc (.cells zfL 31)).setRow w.heap.size c).setRow (w.heap.size + 1) f) ∧
    ((w.alloc (.cells vz9 41)).alloc (.cells zfL 31)).heap[w.heap.size]? = some (.cells vz9 41 (0, 0)) ∧
    (((w.alloc (.cells vz9 41)).alloc (.cells zfL 31)).setRow w.heap.size c).heap[w.heap.size + 1]? = some (.cells zfL 31 (0, 0)) ∧
    ((((w.alloc (.cells vz9 41)).alloc (.cells zfL 31)).setRow w.heap.size c).setRow (w.heap.size + 1) f).heap[w.heap.size]? = some (.cells c 41 (0, 0)) ∧
    ((((w.alloc (.cells vz9 41)).alloc (.cells zfL 31)).setRow w.heap.size c).setRow (w.heap.size + 1) f).heap[w.heap.size + 1]? = some (.cells f 31 (0, 0)) := by
  have h1 := heap_alloc_new w (.cells vz9 41)
  have b1 := below_alloc4 w (.cells vz9 41)
  have e1 : (w.alloc (.cells vz9 41)).heap.size = w.heap.size + 1 := by simp
  have h2 := heap_alloc_new (w.alloc (.cells vz9 41)) (.cells zfL 31)
  have b2 := below_alloc4 (w.alloc (.cells vz9 41)) (.cells zfL 31)
  rw [e1] at h2
  have h1' := (b2.block _ (blk_lt h1)).trans h1
  have b12 := b1.trans (b2.mono b1.size)
  generalize (w.alloc (.cells vz9 41)).alloc (.cells zfL 31) = w2 at *
  have k1 := row_kp w2 w.heap.size c
  have h3 := (k1.block _ (blk_lt h2) (by omega)).trans h2
  have h4 := row_same (cs := c) h1'
  have b3 := b12.trans (k1.below b12.size (fun q e => by omega))
  have k2 := row_kp (w2.setRow w.heap.size c) (w.heap.size + 1) f
  exact ⟨b3.trans (k2.below b3.size (fun q e => by omega)), h1', h3, (k2.block _ (blk_lt h4) (by omega)).trans h4, row_same h3⟩
theorem lit4L (w : World) : Below w.heap.size w (w.alloc (.cells #[.int .u8 159, .int .u8 24, .int .u8 1, .int .u8 255] 5)) ∧ BSl (w.alloc (.cells #[.int .u8 159, .int .u8 24, .int .u8 1, .int .u8 255] 5)) (.slice (some ⟨w.heap.size, 0, none⟩) 4 4) rdb9 :=
  ⟨below_alloc4 w _, bsl_block (xs := rdb9) (heap_alloc_new w _) (by decide) (by decide)⟩
theorem lit3L (w : World) : Below w.heap.size w (w.alloc (.cells #[.int .u8 159, .int .u8 24, .int .u8 1] 5)) ∧ BSl (w.alloc (.cells #[.int .u8 159, .int .u8 24, .int .u8 1] 5)) (.slice (some ⟨w.heap.size, 0, none⟩) 3 3) [159, 24, 1] :=
  ⟨below_alloc4 w _, bsl_block (xs := [159, 24, 1]) (heap_alloc_new w _) (by decide) (by decide)⟩
theorem rdt9_cells {w : World} {c : Array Value} (h : Tin w rdt9 c) : ∃ b off cap, c[12]? = some (.slice (some ⟨b, off, none⟩) 1 cap) ∧ w.cell? ⟨b, off + 3, none⟩ = some (.int .u64 1) := by
  obtain ⟨vy, vk, vi, hc, -, -, hv, -⟩ := h.parts
  obtain ⟨⟨a, cap, hva, _, hx⟩, _⟩ := hv
  obtain ⟨b, off, ha, hx⟩ := hx.resolve_left (by decide)
  obtain ⟨cs, h1, h2⟩ := hx 0 (.mk 3 false false 1 0 ⟨#[]⟩ [] ⟨0, 0, 0, []⟩ [] []) rfl
  obtain ⟨vy', vk', vi', hc', -⟩ := h1.parts
  subst hc
  subst hva
  subst ha
  refine ⟨b, off, cap, rfl, ?_⟩
  have h3 := h2 3 (.int .u64 1) (by rw [hc']; rfl)
  simpa using h3
def rdi9 : Tv := .mk 3 false false 1 0 ⟨#[]⟩ [] ⟨0, 0, 0, []⟩ [] []
theorem rd_chk9 : ChkC7 rdt9 0 := by
  have h1 : ChkN rdi9 := checkedN_step rdi9 (by decide) (by decide) (fun u hu => by cases hu)
  have h2 : ChkN rdt9 := checkedN_step rdt9 (by decide) (by decide) (fun u hu => by
    have e : u = rdi9 := List.mem_singleton.1 hu
    rw [e]
    exact h1)
  have h3 : chkf rdt9 0 = 0 := by decide +kernel
  intro w cs ht hT
  have h4 := checkN_any rdt9 h2 w cs ht (by decide +kernel) hT
  rw [h3] at h4
  exact h4
theorem rd_srt9 : SrtC7 rdt9 rdt9 := by
  have h1 : AgainC 57 (fun u s => s = u) rdi9 := sortedN_step rdi9 (by decide) (fun u hu => by cases hu)
  have h2 : AgainC 57 (fun u s => s = u) rdt9 := sortedN_step rdt9 (by decide) (fun u hu => by
    have e : u = rdi9 := List.mem_singleton.1 hu
    rw [e]
    exact h1)
  intro w cs ht
  refine (h2 w cs ht (by decide +kernel)).mono ?_
  rintro e w' ⟨c', s, rfl, rfl, hn, hb⟩
  exact ⟨c', rfl, hn.tin, hb⟩
theorem rd_tfm9 : tfm rdt9 = [129, 1] := by
  unfold rdt9
  simp [tfm, tfmL, hl, hinfo, hwide, be]
theorem rd_ptr9 : Ptr rdt9 := .mk rdt9 (by decide) (fun h => by cases h) (fun h => by cases h) (fun u hu => by
  have e : u = rdi9 := List.mem_singleton.1 hu
  rw [e]
  exact .mk rdi9 (by decide) (fun h => by cases h) (fun h => by cases h) (fun u hu => by cases hu))
theorem reads9_any (w : World) (hT : Tabs w) : Calls Tryz.prog 10 #[] w fun e w' => e = .returned (.bool true) ∧ Below w.heap.size w w' := by
  have HT := hide hT
  have HL1 := hide (lit4L w)
  clear hT
  go_enter Tryz.func10, Tryz.ntmps10
  go_wp2_with fail
  generalize w.alloc (.cells #[.int .u8 159, .int .u8 24, .int .u8 1, .int .u8 255] 5) = w1 at *
  refine (parse9_any w1 _ rdb9 HL1.out.2 (HT.out.next HL1.out.1) (by decide) 1 (by decide) 5 (by decide)).mono ?_
  rintro e w2 ⟨hb2, ⟨x, c, vn, D, hx, rfl, hN, hD, ho⟩ | ⟨f, hx, -⟩⟩
  case inr => rw [rd_pars9] at hx; cases hx
  rw [rd_pars9] at hx
  injection hx with hx
  subst hx
  have HIN0 := hide (hN.ntv (hi := w2.heap.size) (fun q e => (hD q e).2.1)).tin
  have H13 := hide hN.one
  obtain ⟨an, cn, hvn, -⟩ := own_formG ho
  subst hvn
  have HNS := hide (nsl_own (xs := [(0, 2), (1, 1)]) rfl ho (by decide))
  have HB2 : Hid (Below w.heap.size w w2) := HL1.out.1.trans (hb2.mono HL1.out.1.size)
  rw [flt_fcs]
  dsimp only
  clear hb2 hN hD ho HL1
  have hmk := two_mkL w2 c (fcsL 0 0)
  have HIV : Hid ((Tryz.prog.info? 41).map (·.size) = some c.size) := by show _ = _; rw [H13.out.1]; exact infoV13
  have HCA : Hid (c.all (·.oneCell') = true) := Array.all_eq_true.2 (fun i h => H13.out.2 _ (by simp))
  have HCS : Hid ((#[.int .i64 0, .bool false, .bool false, .int .u64 0, .int .u64 0, .string ⟨#[]⟩, .slice none 0 0, .int .i64 0, .int .u64 0, .int .u64 0, .string ⟨#[]⟩, .slice none 0 0, .slice none 0 0] : Array Value).size = c.size) := by show _ = _; rw [H13.out.1]; rfl
  have HIF : Hid ((Tryz.prog.info? 31).map (·.size) = some (fcsL 0 0).size) := infoFL
  have HAF := hide (fcs_allL 0 0)
  have HNV := hide hmk.2.1
  have HNF := hide hmk.2.2.1
  have HV3 := hide hmk.2.2.2.1
  have HG3 := hide hmk.2.2.2.2
  have HC3 := hide (HIN0.out.move (keep_below hmk.1))
  have HN3 := hide (HNS.out.move (fun _ _ h => h) (keep_below hmk.1))
  have HB3 : Hid (Below w.heap.size w _) := HB2.out.trans (hmk.1.mono HB2.out.size)
  clear hmk HIN0 HNS HB2
  unfold vz9 zfL at HNV HNF HV3 HG3 HC3 HN3 HB3
  go_upto_region 2 with (first
    | (refine wpList_storeRow rfl rfl w2.heap.size #[.int .i64 0, .bool false, .bool false, .int .u64 0, .int .u64 0, .string ⟨#[]⟩, .slice none 0 0, .int .i64 0, .int .u64 0, .int .u64 0, .string ⟨#[]⟩, .slice none 0 0, .slice none 0 0] c 41 rfl rfl HNV.out HIV.out HCS.out HCA.out ?_)
    | (refine wpList_storeRow rfl rfl (w2.heap.size + 1) #[.int .i64 0, .int .i64 0] (fcsL 0 0) 31 rfl rfl HNF.out HIF.out rfl HAF.out ?_))
  (try simp only [Act.put]); (try simp only [LsA, Ls0, LsS])
  generalize (((w2.alloc (.cells #[.int .i64 0, .bool false, .bool false, .int .u64 0, .int .u64 0, .string ⟨#[]⟩, .slice none 0 0, .int .i64 0, .int .u64 0, .int .u64 0, .string ⟨#[]⟩, .slice none 0 0, .slice none 0 0] 41)).alloc (.cells #[.int .i64 0, .int .i64 0] 31)).setRow w2.heap.size c).setRow (w2.heap.size + 1) (fcsL 0 0) = w3 at *
  clear HNV HNF HIV HCA HCS HIF HAF
  have HL4 := hide (lit4L w3)
  go_wp2_with fail
  generalize w3.alloc (.cells #[.int .u8 159, .int .u8 24, .int .u8 1, .int .u8 255] 5) = w4 at *
  have HB4 : Hid (Below w.heap.size w w4) := HB3.out.trans (HL4.out.1.mono HB3.out.size)
  refine (normal9_good w4 _ rdb9 HL4.out.2 (HT.out.next HB4.out) (by decide) 1 (by decide) 5 (by decide) rd_whole9 ⟨4, rd_skip9⟩ rd_tree9 rd_chk9 rd_srt9 rd_ptr9 (by rw [rd_tfm9]; decide)).mono ?_
  rintro e w5 ⟨v5, rfl, ho5, hb5⟩
  rw [rd_tfm9] at ho5
  have HT5 := hide (BSl.own ho5 (by decide))
  obtain ⟨a5, c5, hv5, -⟩ := own_formG ho5
  subst hv5
  have hb35 : Below w3.heap.size w3 w5 := HL4.out.1.trans (hb5.mono HL4.out.1.size)
  have HB5 : Hid (Below w.heap.size w w5) := HB3.out.trans (hb35.mono HB3.out.size)
  have hb36 := hb35
  clear ho5 hb5 HL4 HB4
  rw [flt_fcs]
  dsimp only
  have hmk := one_mkL w5 (fcsL 0 0)
  have hb36 := hb35.trans (hmk.1.mono hb35.size)
  have HN6 := hide (heap_alloc_new w5 (.cells zfL 31))
  have HI6 : Hid ((Tryz.prog.info? 31).map (·.size) = some (fcsL 0 0).size) := infoFL
  have HA6 := hide (fcs_allL 0 0)
  have HG6 := hide hmk.2
  have HV6 := hide ((hb36.block _ (blk_lt HV3.out)).trans HV3.out)
  have HF6 := hide ((hb36.block _ (blk_lt HG3.out)).trans HG3.out)
  have HC6 := hide (HC3.out.move (keep_below hb36))
  have HS6 := hide (HN3.out.move (fun _ _ h => h) (keep_below hb36))
  have HT6 := hide (HT5.out.move (keep_below hmk.1))
  have HB6 : Hid (Below w.heap.size w _) := HB5.out.trans (hmk.1.mono HB5.out.size)
  clear hmk hb35 hb36 HV3 HG3 HC3 HN3 HT5 HB5 HB3
  unfold zfL at HN6 HG6 HV6 HF6 HC6 HS6 HT6 HB6
  go_upto_region 3 with (refine wpList_storeRow rfl rfl w5.heap.size #[.int .i64 0, .int .i64 0] (fcsL 0 0) 31 rfl rfl HN6.out HI6.out rfl HA6.out ?_)
  (try simp only [Act.put]); (try simp only [LsA, Ls0, LsS])
  generalize (w5.alloc (.cells #[.int .i64 0, .int .i64 0] 31)).setRow w5.heap.size (fcsL 0 0) = w6 at *
  clear HN6 HI6 HA6
  have HL7 := hide (lit3L w6)
  go_wp2_with fail
  generalize w6.alloc (.cells #[.int .u8 159, .int .u8 24, .int .u8 1] 5) = w7 at *
  refine (whole9_any w7 _ [159, 24, 1] HL7.out.2 (by decide) 1 (by decide) 4 (by decide)).mono ?_
  rintro e w8 ⟨rfl, hb8⟩
  rw [rd_short9, flt_fcs]
  dsimp only
  have hb68 : Below w6.heap.size w6 w8 := HL7.out.1.trans (hb8.mono HL7.out.1.size)
  have hmk := one_mkL w8 (fcsL 92 3)
  have hb69 := hb68.trans (hmk.1.mono hb68.size)
  have HN9 := hide (heap_alloc_new w8 (.cells zfL 31))
  have HI9 : Hid ((Tryz.prog.info? 31).map (·.size) = some (fcsL 92 3).size) := infoFL
  have HA9 := hide (fcs_allL 92 3)
  have HH9 := hide hmk.2
  have HG9 := hide ((hb69.block _ (blk_lt HG6.out)).trans HG6.out)
  have HV9 := hide ((hb69.block _ (blk_lt HV6.out)).trans HV6.out)
  have HF9 := hide ((hb69.block _ (blk_lt HF6.out)).trans HF6.out)
  have HC9 := hide (HC6.out.move (keep_below hb69))
  have HS9 := hide (HS6.out.move (fun _ _ h => h) (keep_below hb69))
  have HT9 := hide (HT6.out.move (keep_below hb69))
  have HB9 : Hid (Below w.heap.size w _) := HB6.out.trans (hb69.mono HB6.out.size)
  clear hb8 hmk hb68 hb69 HL7 HG6 HV6 HF6 HC6 HS6 HT6 HB6
  unfold zfL at HN9 HH9 HG9 HV9 HF9 HC9 HS9 HT9 HB9
  go_upto_region 4 with (refine wpList_storeRow rfl rfl w8.heap.size #[.int .i64 0, .int .i64 0] (fcsL 92 3) 31 rfl rfl HN9.out HI9.out rfl HA9.out ?_)
  (try simp only [Act.put]); (try simp only [LsA, Ls0, LsS])
  generalize (w8.alloc (.cells #[.int .i64 0, .int .i64 0] 31)).setRow w8.heap.size (fcsL 92 3) = w9 at *
  clear HN9 HI9 HA9
  have hgA := heap_alloc_new w9 (.cells (ntc (0, 2) ++ ntc (1, 1)) 55)
  have hbA := below_alloc4 w9 (.cells (ntc (0, 2) ++ ntc (1, 1)) 55)
  have HSA : Hid (NSl (w9.alloc (.cells (ntc (0, 2) ++ ntc (1, 1)) 55)) (.slice (some ⟨w9.heap.size, 0, none⟩) 2 2) [(0, 2), (1, 1)]) := by
    refine ⟨⟨_, 2, rfl, ⟨Nat.le_refl _, fun e => by cases e⟩, .inr ⟨w9.heap.size, 0, rfl, fun i x hi => ⟨ntc x, rfl, fun j u hj => ?_⟩⟩⟩, by decide⟩
    refine blk_cell hgA ?_
    rcases i with _ | _ | i
    · injection hi with hi
      subst hi
      rcases j with _ | _ | j
      · exact hj
      · exact hj
      · cases hj
    · injection hi with hi
      subst hi
      rcases j with _ | _ | j
      · exact hj
      · exact hj
      · cases hj
    · cases hi
  have HBA : Hid (Below w9.heap.size w9 (w9.alloc (.cells (ntc (0, 2) ++ ntc (1, 1)) 55))) := hbA
  have HSB := hide (HS9.out.move (fun _ _ h => h) (keep_below hbA))
  clear hgA hbA HS9
  go_wp2_with (refine row2L infoNt3 Tryz.underlying42 (by decide) (by decide) rfl rfl (c := ntc (0, 2)) (d := ntc (1, 1)) rfl rfl rfl rfl ?_)
  generalize w9.alloc (.cells (ntc (0, 2) ++ ntc (1, 1)) 55) = w10 at *
  refine (eqNotes_any HSB.out HSA.out).mono ?_
  rintro e w11 ⟨rfl, hb11⟩
  have hb9 : Below w9.heap.size w9 w11 := HBA.out.trans (hb11.mono HBA.out.size)
  have HHb := hide ((hb9.block _ (blk_lt HH9.out)).trans HH9.out)
  have HGb := hide ((hb9.block _ (blk_lt HG9.out)).trans HG9.out)
  have HVb := hide ((hb9.block _ (blk_lt HV9.out)).trans HV9.out)
  have HFb := hide ((hb9.block _ (blk_lt HF9.out)).trans HF9.out)
  have HCb := hide (HC9.out.move (keep_below hb9))
  have htx : (convert 26 9 (.slice a5 2 c5)).run Tryz.prog w11 = .ok (.string ⟨#[129, 1]⟩) w11 := by
    have h := (HT9.out.move (keep_below hb9)).text
    rw [show nstr [129, 1] = ⟨#[129, 1]⟩ by decide] at h
    exact h
  have HBb : Hid (Below w.heap.size w w11) := HB9.out.trans (hb9.mono HB9.out.size)
  clear hb9 hb11 HSA HSB HBA HH9 HG9 HV9 HF9 HC9 HT9 HB9
  obtain ⟨gb, off, cap, k12, k3⟩ := rdt9_cells HCb.out
  have c12 : w11.cell? ⟨w2.heap.size, 12, none⟩ = some (.slice (some ⟨gb, off, none⟩) 1 cap) := blk_cell HVb.out k12
  clear k12
  go_wp2_with (first
    | (refine wpList_execWL rfl (exec_fltAtL (g := w2.heap.size + 1) (c := fcsL 0 0) rfl rfl rfl HFb.out) ?_)
    | (refine wpList_execWL rfl (exec_fltAtL (g := w5.heap.size) (c := fcsL 0 0) rfl rfl rfl HGb.out) ?_)
    | (refine wpList_execWL rfl (exec_fltAtL (g := w8.heap.size) (c := fcsL 92 3) rfl rfl rfl HHb.out) ?_)
    | (refine wpList_execWL rfl (exec_eqfltL (e := 0) (p := 0) (e' := 0) (p' := 0) rfl rfl rfl) ?_)
    | (refine wpList_execWL rfl (exec_eqfltL (e := 92) (p := 3) (e' := 92) (p' := 3) rfl rfl rfl) ?_))
  go_ret
  exact ⟨rfl, HBb.out⟩
end
section
open Go.ChangeShapes Go.WideShapes Go.ChangeAt Go.RowKit Go.Deep Go.Joins Go
theorem Tryz.cellsReads9 : Tryz.prog.cellsOf 25 = 2 := by kernel_rfl
theorem reads9_open {H : Type} {enc : TypeId × Value → H} {w : World} {base b0 : Nat} {r : Reach} {held : Bool} {v : Value} {d : DataW H} {p : List MemPlace} (hv : Value.okWide Tryz.prog w r b0 25 v) (h : DataW.Trod enc Tryz.prog w base (fun _ => true) held 25 v d p) (hW : (d.weights Tryz.prog 25).all (· ≤ reachBytes) = true) :
    ∃ (vB vI : Value) (nB nI : Nat), v = .agg #[vB, vI] ∧ RowsIn w vB nB ∧ IntsIn w vI nI := by
  obtain ⟨c0, c1, y0, y1, m, rfl, hd, _, hy0, hy1⟩ := open_agg2 Tryz.underlying25 (by kernel_rfl) Tryz.cellsReads9 hv h
  subst hd
  have hs2 : (DataW.weightsEach Tryz.prog [22, 23] [y0.1, y1.1]).all (· ≤ reachBytes) = true := by
    simp only [DataW.weights, Tryz.underlying25] at hW
    exact hW
  obtain ⟨nB, hB⟩ := rows_open hy0 hs2 (j := 0) rfl rfl
  obtain ⟨nI, hI⟩ := ints_open hy1
  exact ⟨c0, c1, nB, nI, rfl, hB, hI⟩
end
section
open Go.RowKit Go
theorem acc_eq : (Rows.laid_unicode_utf8_acceptRanges : DataW Unit) = Lib.acceptData := by kernel_rfl
theorem fst_eq : Rows.laid_unicode_utf8_first = Lib.firstData := by kernel_rfl
theorem tabs_of_laid {W : World} (h : laidMet Tryz.prog [("unicode/utf8.acceptRanges", Rows.laid_unicode_utf8_acceptRanges), ("unicode/utf8.first", Rows.laid_unicode_utf8_first)] W) : Tabs W := by
  rw [acc_eq, fst_eq] at h
  exact utf8Tabs_of_readsT (U8Types.of196 Tryz.laysValid) ⟨by kernel_rfl, by kernel_rfl, by kernel_rfl, by kernel_rfl, by kernel_rfl, by kernel_rfl, by kernel_rfl⟩ (Lib.laidMet.reads h (.tail _ (.head _))) (Lib.laidMet.reads h (.head _))
noncomputable def laidWorld6 (os : Os) : World :=
  let w0 := World.holding Tryz.prog os ⟨#[], #[], []⟩
  let put (h : Array Obj) (g : Nat) (cs : Array Value) : Array Obj := h.modify g fun
    | .cells _ t frozen => .cells cs t frozen
    | o => o
  let h1 := put w0.heap 1 (Lib.firstTab.map fun z => Value.int .u8 z).toArray
  let h2 := put h1 2 ((List.range 16).flatMap fun i => [Value.int .u8 (Lib.accLo i), Value.int .u8 (Lib.accHi i)]).toArray
  { w0 with heap := h2 }
theorem laid_met6 (os : Os) (args : Array Value) : laidMet Tryz.prog [("unicode/utf8.acceptRanges", Rows.laid_unicode_utf8_acceptRanges), ("unicode/utf8.first", Rows.laid_unicode_utf8_first)] ((laidWorld6 os).forCall (fun _ _ => 0) ⟨#[], args, []⟩).memory := by
  rw [acc_eq, fst_eq]
  exact (LaidIn.of_run (l := [("unicode/utf8.acceptRanges", Lib.acceptData), ("unicode/utf8.first", Lib.firstData)]) [2, 1] 8 (by kernel_rfl) (by kernel_rfl) (by kernel_rfl) (by kernel_rfl)).met
end
section
open Go.ChangeShapes Go.WideShapes Go.ChangeAt Go.RowKit Go.Deep Go.Joins Go

end
end Go.Proofs.YtmcamdcgnegmmaaGreatDoor

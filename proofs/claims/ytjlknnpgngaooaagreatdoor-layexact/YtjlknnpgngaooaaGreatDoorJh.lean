import Derived.Test.YtjlknnpgngaooaaGreatDoorJg
import Derived.Test.YtjlknnpgngaooaaGreatDoorJc
import Derived.Test.YtjlknnpgngaooaaGreatDoorJe
import Derived.Test.YtjlknnpgngaooaaGreatDoorJb
namespace Go.Proofs.YtjlknnpgngaooaaGreatDoor
section
open Go.RowKit Go
def SizC (p : Prt) : Prop := ∀ (w : World) (S : Nat → Prop) (v : Value), (∀ q, S q → q < w.heap.size) → Pis w S p v → Pok p → (pall p).length ≤ 1000000000 → Calls Tryz.prog 52 #[v] w fun e w' => e = .returned (.int .i64 ((pall p).length : Nat)) ∧ Below w.heap.size w w'
theorem pall_take {p : Prt} {k : Nat} {q : Prt} (h : (pbl p)[k]? = some q) : (((pbl p).take (k + 1)).map pall).flatten = (((pbl p).take k).map pall).flatten ++ pall q := by
  obtain ⟨hk, e⟩ := List.getElem?_eq_some_iff.1 h
  rw [List.take_succ_eq_append_getElem hk, e]
  simp
set_option maxRecDepth 1000000 in
set_option maxHeartbeats 4000000 in
theorem size_step (p : Prt) (ih : ∀ q, pm q < pm p → SizC q) : SizC p := by
  intro w S v hS hp hok hl
  have HIH := hide ih
  have HSq := hide hS
  have HP := hide hp
  have HOK := hide hok
  have HL := hide hl
  have HSP := hide (pall_split hok)
  have HPZ := hide (psz_len p)
  obtain ⟨T0, x0, e0⟩ := pis_one hp
  subst e0
  clear ih hS hp hok hl
  go_enter Tryz.func52, Tryz.ntmps52
  go_upto_region 1 with fail
  go_cut [3] from 6 to 8 (fun vv wx => vv = .int .i64 (psz p : Nat) ∧ Hid (Below w.heap.size w wx))
  case first =>
    clear HIH HOK HL HSP HPZ HSq
    cases p with
    | null => as_aux_lemma =>
      have e : Value.iface T0 x0 = .iface 131 (.agg #[]) := HP.out
      injection e with e1 e2
      subst e1
      subst e2
      have hm : ∀ w, (method 363 131 (.agg #[]) "trellis/lay.size").run Tryz.prog w = .ok (216, .agg #[]) w := fun _ => by kernel_rfl
      go_wp2_with fail
      refine (nullSize_any _).mono ?_
      rintro e w1 ⟨rfl, hb1⟩
      have HBB : Hid (Below w.heap.size w w1) := hb1
      clear hb1 hm
      go_wp2_with fail
      go_meet
      case rel => exact ⟨rfl, HBB⟩
    | truth b => as_aux_lemma =>
      have e : Value.iface T0 x0 = .iface 120 (.bool b) := HP.out
      injection e with e1 e2
      subst e1
      subst e2
      have hm : ∀ w, (method 363 120 (.bool b) "trellis/lay.size").run Tryz.prog w = .ok (199, .bool b) w := fun _ => by kernel_rfl
      go_wp2_with fail
      refine (truthSize_any b _).mono ?_
      rintro e w1 ⟨rfl, hb1⟩
      have HBB : Hid (Below w.heap.size w w1) := hb1
      clear hb1 hm
      go_wp2_with fail
      go_meet
      case rel => exact ⟨rfl, HBB⟩
    | whole g n => as_aux_lemma =>
      have e : Value.iface T0 x0 = .iface 122 (.agg #[.bool g, .int .u64 (n : Nat)]) := HP.out.1
      injection e with e1 e2
      subst e1
      subst e2
      have hm : ∀ w, (method 363 122 (.agg #[.bool g, .int .u64 (n : Nat)]) "trellis/lay.size").run Tryz.prog w = .ok (201, .agg #[.bool g, .int .u64 (n : Nat)]) w := fun _ => by kernel_rfl
      go_wp2_with fail
      refine (wholeSize_any g n HP.out.2 _).mono ?_
      rintro e w1 ⟨rfl, hb1⟩
      have HBB : Hid (Below w.heap.size w w1) := hb1
      clear hb1 hm
      go_wp2_with fail
      go_meet
      case rel => exact ⟨rfl, HBB⟩
    | float b => as_aux_lemma =>
      have e : Value.iface T0 x0 = .iface 123 (.int .u64 (b : Nat)) := HP.out.1
      injection e with e1 e2
      subst e1
      subst e2
      have hm : ∀ w, (method 363 123 (.int .u64 (b : Nat)) "trellis/lay.size").run Tryz.prog w = .ok (205, .int .u64 (b : Nat)) w := fun _ => by kernel_rfl
      go_wp2_with fail
      refine (floatSize_any b _).mono ?_
      rintro e w1 ⟨rfl, hb1⟩
      have HBB : Hid (Below w.heap.size w w1) := hb1
      clear hb1 hm
      go_wp2_with fail
      go_meet
      case rel => exact ⟨rfl, HBB⟩
    | text s => as_aux_lemma =>
      have e : Value.iface T0 x0 = .iface 124 (.string s) := HP.out.1
      injection e with e1 e2
      subst e1
      subst e2
      have hm : ∀ w, (method 363 124 (.string s) "trellis/lay.size").run Tryz.prog w = .ok (207, .string s) w := fun _ => by kernel_rfl
      go_wp2_with fail
      refine (textSize_any s HP.out.2 _).mono ?_
      rintro e w1 ⟨rfl, hb1⟩
      have HBB : Hid (Below w.heap.size w w1) := hb1
      clear hb1 hm
      go_wp2_with fail
      go_meet
      case rel => exact ⟨rfl, HBB⟩
    | octets y => as_aux_lemma =>
      obtain ⟨vb, e, hb, -, hyl⟩ := HP.out
      injection e with e1 e2
      obtain ⟨⟨a, c, hv, _, _⟩, _, _⟩ := hb
      subst hv
      subst e1
      subst e2
      have HOC : Hid (y.length ≤ 140737488351232) := hyl
      clear hyl
      have hm : ∀ w, (method 363 125 (.slice a y.length c) "trellis/lay.size").run Tryz.prog w = .ok (210, .slice a y.length c) w := fun _ => by kernel_rfl
      go_wp2_with fail
      refine (octetsSize_any a y.length c HOC.out _).mono ?_
      rintro e w1 ⟨rfl, hb1⟩
      have HBB : Hid (Below w.heap.size w w1) := by rw [hb1]; exact Below.refl _ _
      clear hb1 hm
      go_wp2_with fail
      go_meet
      case rel => exact ⟨rfl, HBB⟩
    | name y => as_aux_lemma =>
      obtain ⟨vb, e, hb, -, -, hyl⟩ := HP.out
      injection e with e1 e2
      obtain ⟨⟨a, c, hv, _, _⟩, _, _⟩ := hb
      subst hv
      subst e1
      subst e2
      have HOC : Hid (y.length ≤ 140737488351232) := by show _ ≤ _; omega
      clear hyl
      have hm : ∀ w, (method 363 193 (.agg #[.slice a y.length c]) "trellis/lay.size").run Tryz.prog w = .ok (218, .agg #[.slice a y.length c]) w := fun _ => by kernel_rfl
      go_wp2_with fail
      refine (nameSize_any a y.length c HOC.out _).mono ?_
      rintro e w1 ⟨rfl, hb1⟩
      have HBB : Hid (Below w.heap.size w w1) := hb1
      clear hb1 hm
      go_wp2_with fail
      go_meet
      case rel => exact ⟨rfl, HBB⟩
    | list is => as_aux_lemma =>
      obtain ⟨vi, e, hvi⟩ := HP.out
      injection e with e1 e2
      have HOC : Hid (is.length ≤ 140737488351232) := hvi.max
      obtain ⟨⟨a, c, cx, hv, -, -, -⟩, -⟩ := hvi
      subst hv
      subst e1
      subst e2
      have hm : ∀ w, (method 363 127 (.slice a is.length c) "trellis/lay.size").run Tryz.prog w = .ok (212, .slice a is.length c) w := fun _ => by kernel_rfl
      go_wp2_with fail
      refine (listSize_any a is.length c HOC.out _).mono ?_
      rintro e w1 ⟨rfl, hb1⟩
      have HBB : Hid (Below w.heap.size w w1) := hb1
      clear hb1 hm
      go_wp2_with fail
      go_meet
      case rel => exact ⟨rfl, HBB⟩
    | entries ks is => as_aux_lemma =>
      obtain ⟨vk, vi, e, hk, -, -⟩ := HP.out
      injection e with e1 e2
      have HOC : Hid (ks.length ≤ 140737488351232) := hk.max
      obtain ⟨⟨a, c, hv, _, _⟩, _, _⟩ := hk
      subst hv
      subst e1
      subst e2
      have hm : ∀ w, (method 363 129 (.agg #[.slice a ks.length c, vi]) "trellis/lay.size").run Tryz.prog w = .ok (214, .agg #[.slice a ks.length c, vi]) w := fun _ => by kernel_rfl
      go_wp2_with fail
      refine (entriesSize_any a ks.length c vi HOC.out _).mono ?_
      rintro e w1 ⟨rfl, hb1⟩
      have HBB : Hid (Below w.heap.size w w1) := hb1
      clear hb1 hm
      go_wp2_with fail
      go_meet
      case rel => exact ⟨rfl, HBB⟩
  obtain ⟨rfl, HB1⟩ := hcut
  have HP1 := hide (HP.out.live (Kp.of_below HB1.out) (fun _ hq => .inl hq))
  have HBC := hide (below_any wc S (fun q hq => Nat.lt_of_lt_of_le (HSq.out q hq) HB1.out.size) p _ HP1.out HOK.out HL.out)
  go_wp2_with fail
  refine HBC.out.mono ?_
  rintro e w2 ⟨vp, vs, rfl, hb2, ho2, hp2⟩
  have HB2 : Hid (Below w.heap.size w w2) := HB1.out.trans (hb2.mono HB1.out.size)
  obtain ⟨av, cv, hvv⟩ := own_slice7 ho2
  subst hvv
  have HO2 := hide ho2
  have HP2 := hide hp2
  have HPB : Hid (∀ k q, (pbl p)[k]? = some q → Pok q ∧ pm q < pm p) := fun k q hq => pbl_ok HOK.out (List.mem_of_getElem? hq)
  have HTK : Hid (∀ k q, (pbl p)[k]? = some q → (((pbl p).take (k + 1)).map pall).flatten = (((pbl p).take k).map pall).flatten ++ pall q) := fun k q hq => pall_take hq
  have HLE : Hid (∀ k, psz p + (((pbl p).take k).map pall).flatten.length ≤ (pall p).length) := fun k => by
    have h1 := HSP.out
    have h2 : (((pbl p).take k).map pall).flatten.length ≤ ((pbl p).map pall).flatten.length := by
      have e : (pbl p).map pall = ((pbl p).take k).map pall ++ ((pbl p).drop k).map pall := by rw [← List.map_append, List.take_append_drop]
      rw [e, List.flatten_append, List.length_append]
      omega
    rw [h1, List.length_append, HPZ.out]
    omega
  have HFN : Hid (psz p + (((pbl p).take (pbl p).length).map pall).flatten.length = (pall p).length) := by
    show _ = _
    rw [List.take_length, HSP.out, List.length_append, HPZ.out]
  have HPL : Hid ((pbl p).length ≤ 1000000000) := by
    have h1 := flat_len7 (pbl p)
    have h2 := HL.out
    have h3 := HSP.out
    show _ ≤ _
    rw [h3, List.length_append] at h2
    omega
  generalize pbl p = ps at *
  have hpl := HPL.out
  clear hb2 ho2 hp2 HBC HP HP1 HB1
  go_wp2_with fail
  go_loopw [3, 11] (fun nn kk wx => ∃ (k : Nat) (m : Nat), k ≤ ps.length ∧ kk = .int .i64 (k : Nat) ∧ nn = .int .i64 (m : Nat) ∧ Hid (m = psz p + ((ps.take k).map pall).flatten.length) ∧ Hid (Below w2.heap.size w2 wx)) (fun _ kk _ => ps.length - (intOf kk).toNat)
  case atStart => exact ⟨0, psz p, by omega, rfl, rfl, hide (by simp), hide (Below.refl _ _)⟩
  case round =>
    rename World => wx
    obtain ⟨k, m, hk, rfl, rfl, HM, HBX⟩ := hrel
    by_cases hlt : k < ps.length
    · as_aux_lemma =>
      have g1 : (k : Int) < (ps.length : Int) := by omega
      have hvl : vs.length = ps.length := by have := HO2.out.1; omega
      obtain ⟨g, hag⟩ : ∃ g, av = some ⟨g, 0, none⟩ := by
        rcases HO2.out.2 with ⟨_, h1⟩ | ⟨g', c', cur, e, _⟩
        · omega
        · injection e with e1 _ _
          exact ⟨g', e1⟩
      subst hag
      have hvk : vs[k]? = some vs[k] := List.getElem?_eq_getElem (by omega)
      have hpk : ps[k]? = some ps[k] := List.getElem?_eq_getElem hlt
      have ck : wx.cell? ⟨g, k, none⟩ = some vs[k] := by
        have h := HO2.out.cells (g := g) rfl k _ hvk
        rw [addr_add, Nat.zero_add] at h
        exact keep_below HBX.out _ _ h
      obtain ⟨hok, hpm⟩ := HPB.out k _ hpk
      have hpis := (HP2.out k _ _ hpk hvk).live (Kp.of_below HBX.out) (fun _ hq => .inl hq)
      have htk := HTK.out k _ hpk
      have hle := HLE.out (k + 1)
      rw [htk, List.length_append] at hle
      have hll := HL.out
      have HQC := hide (HIH.out _ hpm wx S _ (fun q hq => Nat.lt_of_lt_of_le (HSq.out q hq) (Nat.le_trans HB2.out.size HBX.out.size)) hpis hok (by omega))
      have hmm : m + (pall ps[k]).length ≤ 1000000000 := by have := HM.out; omega
      have HM2 : Hid (m + (pall ps[k]).length = psz p + ((ps.take (k + 1)).map pall).flatten.length) := by show _ = _; rw [htk, List.length_append, HM.out]; omega
      obtain ⟨T1, x1, e1⟩ := pis_one hpis
      rw [e1] at ck HQC
      generalize (pall ps[k]).length = z at *
      have e3 : IntKind.i64.wrap ((m : Int) + (z : Int)) = ((m + z : Nat) : Int) := by rw [IntKind.wrap_i64]; omega
      have HLT := hide hlt
      clear hok hpm hpis htk hle hll hvk hpk hvl hlt hmm e1
      go_wp2_with fail
      refine HQC.out.mono ?_
      rintro e w3 ⟨rfl, hb3⟩
      have HB3 : Hid (Below w2.heap.size w2 w3) := HBX.out.trans (hb3.mono HBX.out.size)
      clear hb3 ck HQC
      go_wp2_with fail
      go_roundw
      case rel => exact ⟨k + 1, m + z, by have := HLT.out; omega, by go_num, by go_num, HM2, HB3⟩
      case measure => have := HLT.out; simp [intOf]; omega
    · as_aux_lemma =>
      have g1 : ¬ (k : Int) < (ps.length : Int) := by omega
      have HE : Hid (m = (pall p).length) := by
        show _ = _
        rw [HM.out, ← HFN.out, show k = ps.length by omega]
      have HBF : Hid (Below w.heap.size w wx) := HB2.out.trans (HBX.out.mono HB2.out.size)
      clear hlt
      go_wp2_with fail
      go_ret
      exact ⟨by rw [HE.out]; rfl, HBF.out⟩
theorem size7_any (p : Prt) : SizC p := by
  have key : ∀ N p, pm p < N → SizC p := by
    intro N
    induction N with
    | zero => intro p h; omega
    | succ N ih => intro p h; exact size_step p (fun q hq => ih q (by omega))
  exact key _ p (Nat.lt_succ_self _)
end
section
open Go.RowKit Go
def LaiC (p : Prt) : Prop := ∀ (w : World) (B : Nat) (v : Value) (n : Nat) (ds : List Nat) (vp : Value), w.ownsRow B 5 1 v n (bv ds) → v ≠ .slice none 0 0 → B ≤ w.heap.size → Pis w (fun q => v.ownBlock = some q) p vp → Pok p → n + (pall p).length ≤ 140737488340000 → (pall p).length ≤ 1000000000 → Calls Tryz.prog 59 #[v, vp] w (LayP w B v n ds (pall p))
set_option maxRecDepth 1000000 in
set_option maxHeartbeats 4000000 in
theorem laid_step (p : Prt) (ih : ∀ q, pm q < pm p → LaiC q) : LaiC p := by
  intro w B v n ds vp hown hnn hB hp hok hlx hl
  have HIH := hide ih
  have HO := hide hown
  have HNN := hide hnn
  have HBq := hide hB
  have HP := hide hp
  have HOK := hide hok
  have HLX0 := hide hlx
  have HL := hide hl
  have HSP := hide (pall_split hok)
  have HPZ := hide (psz_len p)
  have HLX : Hid (n + (pfm p).length ≤ 140737488340000) := by
    have h1 := HSP.out
    rw [h1, List.length_append] at hlx
    show _ ≤ _
    omega
  have HNq : Hid (n ≤ 140737488350000) := by show _ ≤ _; omega
  obtain ⟨T0, x0, e0⟩ := pis_one hp
  subst e0
  obtain ⟨a, c, hv⟩ := own_slice7 hown
  subst hv
  clear ih hown hnn hB hp hok hlx hl
  go_enter Tryz.func59, Tryz.ntmps59
  go_upto_region 1 with fail
  go_cut [0] from 7 to 10 (fun vv wx => Hid (LayP w B (.slice a n c) n ds (pfm p) (.returned vv) wx))
  case first =>
    clear HIH HOK HL HSP HPZ HLX0
    cases p with
    | null => as_aux_lemma =>
      have e : Value.iface T0 x0 = .iface 131 (.agg #[]) := HP.out
      injection e with e1 e2
      subst e1
      subst e2
      have hm : ∀ w, (method 363 131 (.agg #[]) "trellis/lay.lay").run Tryz.prog w = .ok (215, .agg #[]) w := fun _ => by kernel_rfl
      have HCC := hide (nullLay_any w B _ n ds HO.out HNN.out HBq.out HNq.out)
      go_wp2_with fail
      refine HCC.out.mono ?_
      rintro e w1 ⟨v1, rfl, h1, h2, h3, h4⟩
      have HL1 : Hid (LayP w B (.slice a n c) n ds [246] (.returned v1) w1) := ⟨v1, rfl, h1, h2, h3, h4⟩
      clear h1 h2 h3 h4 hm HCC
      go_wp2_with fail
      go_meet
      case rel => exact HL1
    | truth b => as_aux_lemma =>
      have e : Value.iface T0 x0 = .iface 120 (.bool b) := HP.out
      injection e with e1 e2
      subst e1
      subst e2
      have hm : ∀ w, (method 363 120 (.bool b) "trellis/lay.lay").run Tryz.prog w = .ok (198, .bool b) w := fun _ => by kernel_rfl
      have HCC : Hid (Calls Tryz.prog 198 #[.bool b, .slice a n c] w (LayP w B (.slice a n c) n ds [if b = true then 245 else 244])) := by
        cases b with
        | true => exact trueLay_any w B _ n ds HO.out HNN.out HBq.out HNq.out
        | false => exact falseLay_any w B _ n ds HO.out HNN.out HBq.out HNq.out
      have HPF : Hid (pfm (.truth b) = [if b = true then 245 else 244]) := rfl
      generalize ([if b = true then 245 else 244] : List Nat) = F at *
      go_wp2_with fail
      refine HCC.out.mono ?_
      rintro e w1 ⟨v1, rfl, h1, h2, h3, h4⟩
      have HL1 : Hid (LayP w B (.slice a n c) n ds F (.returned v1) w1) := ⟨v1, rfl, h1, h2, h3, h4⟩
      have HL2 : Hid (LayP w B (.slice a n c) n ds (pfm (.truth b)) (.returned v1) w1) := by have h := HL1.out; rw [← HPF.out] at h; exact h
      clear h1 h2 h3 h4 hm HCC
      go_wp2_with fail
      go_meet
      case rel => exact HL2
    | whole g m => as_aux_lemma =>
      have e : Value.iface T0 x0 = .iface 122 (.agg #[.bool g, .int .u64 (m : Nat)]) := HP.out.1
      injection e with e1 e2
      subst e1
      subst e2
      have hm : ∀ w, (method 363 122 (.agg #[.bool g, .int .u64 (m : Nat)]) "trellis/lay.lay").run Tryz.prog w = .ok (200, .agg #[.bool g, .int .u64 (m : Nat)]) w := fun _ => by kernel_rfl
      have HCC := hide (wholeLay_any w B _ n ds HO.out HNN.out HBq.out HNq.out g m HP.out.2)
      go_wp2_with fail
      refine HCC.out.mono ?_
      rintro e w1 ⟨v1, rfl, h1, h2, h3, h4⟩
      have HL1 : Hid (LayP w B (.slice a n c) n ds (hl (if g = true then 1 else 0) m) (.returned v1) w1) := ⟨v1, rfl, h1, h2, h3, h4⟩
      clear h1 h2 h3 h4 hm HCC
      go_wp2_with fail
      go_meet
      case rel => exact HL1
    | float b => as_aux_lemma =>
      have e : Value.iface T0 x0 = .iface 123 (.int .u64 (b : Nat)) := HP.out.1
      injection e with e1 e2
      subst e1
      subst e2
      have hm : ∀ w, (method 363 123 (.int .u64 (b : Nat)) "trellis/lay.lay").run Tryz.prog w = .ok (204, .int .u64 (b : Nat)) w := fun _ => by kernel_rfl
      have HCC := hide (floatLay_any w B _ n ds HO.out HNN.out HBq.out HNq.out b HP.out.2)
      go_wp2_with fail
      refine HCC.out.mono ?_
      rintro e w1 ⟨v1, rfl, h1, h2, h3, h4⟩
      have HL1 : Hid (LayP w B (.slice a n c) n ds (251 :: be 8 b) (.returned v1) w1) := ⟨v1, rfl, h1, h2, h3, h4⟩
      clear h1 h2 h3 h4 hm HCC
      go_wp2_with fail
      go_meet
      case rel => exact HL1
    | text s => as_aux_lemma =>
      have e : Value.iface T0 x0 = .iface 124 (.string s) := HP.out.1
      injection e with e1 e2
      subst e1
      subst e2
      have HLQ : Hid (n + s.size ≤ 140737488350000) := by
        have h1 : n + (kfm s).length ≤ 140737488340000 := HLX.out
        unfold kfm at h1
        rw [List.length_append, sl_len7] at h1
        show _ ≤ _
        omega
      have hm : ∀ w, (method 363 124 (.string s) "trellis/lay.lay").run Tryz.prog w = .ok (206, .string s) w := fun _ => by kernel_rfl
      have HCC := hide (textLay_any w B _ n ds HO.out HNN.out HBq.out HNq.out s HLQ.out)
      go_wp2_with fail
      refine HCC.out.mono ?_
      rintro e w1 ⟨v1, rfl, h1, h2, h3, h4⟩
      have HL1 : Hid (LayP w B (.slice a n c) n ds (kfm s) (.returned v1) w1) := ⟨v1, rfl, h1, h2, h3, h4⟩
      clear h1 h2 h3 h4 hm HCC
      go_wp2_with fail
      go_meet
      case rel => exact HL1
    | octets y => as_aux_lemma =>
      obtain ⟨vb, e, hb, hbs, hyl⟩ := HP.out
      injection e with e1 e2
      have HYB := hide hb
      have HYV := hide hbs
      obtain ⟨⟨ay, cy, hv, _, _⟩, _, _⟩ := hb
      subst hv
      subst e1
      subst e2
      have HLQ : Hid (n + y.length ≤ 140737488350000) := by
        have h1 : n + (hl 2 y.length ++ y).length ≤ 140737488340000 := HLX.out
        rw [List.length_append] at h1
        show _ ≤ _
        omega
      clear hyl hbs
      have hm : ∀ w, (method 363 125 (.slice ay y.length cy) "trellis/lay.lay").run Tryz.prog w = .ok (209, .slice ay y.length cy) w := fun _ => by kernel_rfl
      have HCC := hide (octetsLay_any w B _ n ds HO.out HNN.out HBq.out HNq.out _ y HYB.out HYV.out HLQ.out)
      go_wp2_with fail
      refine HCC.out.mono ?_
      rintro e w1 ⟨v1, rfl, h1, h2, h3, h4⟩
      have HL1 : Hid (LayP w B (.slice a n c) n ds (hl 2 y.length ++ y) (.returned v1) w1) := ⟨v1, rfl, h1, h2, h3, h4⟩
      clear h1 h2 h3 h4 hm HCC
      go_wp2_with fail
      go_meet
      case rel => exact HL1
    | name y => as_aux_lemma =>
      obtain ⟨vb, e, hb, hy0, hbs, hyl⟩ := HP.out
      injection e with e1 e2
      have HYB := hide hb
      have HY0 := hide hy0
      have HYV := hide hbs
      obtain ⟨⟨ay, cy, hv, _, _⟩, _, _⟩ := hb
      subst hv
      subst e1
      subst e2
      have HLQ : Hid (n + 10 + y.length ≤ 140737488350000) := by
        have h1 : n + (hl 6 42 ++ (hl 2 y.length ++ y)).length ≤ 140737488340000 := HLX.out
        rw [List.length_append, List.length_append] at h1
        show _ ≤ _
        omega
      clear hyl hbs hy0
      have hm : ∀ w, (method 363 193 (.agg #[.slice ay y.length cy]) "trellis/lay.lay").run Tryz.prog w = .ok (217, .agg #[.slice ay y.length cy]) w := fun _ => by kernel_rfl
      have HCC := hide (nameLay_any w B _ n ds HO.out HNN.out HBq.out HNq.out _ y HYB.out HY0.out HYV.out HLQ.out)
      go_wp2_with fail
      refine HCC.out.mono ?_
      rintro e w1 ⟨v1, rfl, h1, h2, h3, h4⟩
      have HL1 : Hid (LayP w B (.slice a n c) n ds (hl 6 42 ++ (hl 2 y.length ++ y)) (.returned v1) w1) := ⟨v1, rfl, h1, h2, h3, h4⟩
      clear h1 h2 h3 h4 hm HCC
      go_wp2_with fail
      go_meet
      case rel => exact HL1
    | list is => as_aux_lemma =>
      obtain ⟨vi, e, hvi⟩ := HP.out
      injection e with e1 e2
      have HOC : Hid (is.length ≤ 140737488351232) := hvi.max
      obtain ⟨⟨ay, cy, cx, hv, -, -, -⟩, -⟩ := hvi
      subst hv
      subst e1
      subst e2
      have hm : ∀ w, (method 363 127 (.slice ay is.length cy) "trellis/lay.lay").run Tryz.prog w = .ok (211, .slice ay is.length cy) w := fun _ => by kernel_rfl
      have HCC := hide (listLay_any w B _ n ds HO.out HNN.out HBq.out HNq.out ay is.length cy HOC.out)
      go_wp2_with fail
      refine HCC.out.mono ?_
      rintro e w1 ⟨v1, rfl, h1, h2, h3, h4⟩
      have HL1 : Hid (LayP w B (.slice a n c) n ds (hl 4 is.length) (.returned v1) w1) := ⟨v1, rfl, h1, h2, h3, h4⟩
      clear h1 h2 h3 h4 hm HCC
      go_wp2_with fail
      go_meet
      case rel => exact HL1
    | entries ks is => as_aux_lemma =>
      obtain ⟨vk, vi, e, hk, -, -⟩ := HP.out
      injection e with e1 e2
      have HOC : Hid (ks.length ≤ 140737488351232) := hk.max
      obtain ⟨⟨ay, cy, hv, _, _⟩, _, _⟩ := hk
      subst hv
      subst e1
      subst e2
      have hm : ∀ w, (method 363 129 (.agg #[.slice ay ks.length cy, vi]) "trellis/lay.lay").run Tryz.prog w = .ok (213, .agg #[.slice ay ks.length cy, vi]) w := fun _ => by kernel_rfl
      have HCC := hide (entriesLay_any w B _ n ds HO.out HNN.out HBq.out HNq.out ay ks.length cy vi HOC.out)
      go_wp2_with fail
      refine HCC.out.mono ?_
      rintro e w1 ⟨v1, rfl, h1, h2, h3, h4⟩
      have HL1 : Hid (LayP w B (.slice a n c) n ds (hl 5 ks.length) (.returned v1) w1) := ⟨v1, rfl, h1, h2, h3, h4⟩
      clear h1 h2 h3 h4 hm HCC
      go_wp2_with fail
      go_meet
      case rel => exact HL1
  have HL1 := hcut
  clear hcut
  obtain ⟨o1, o2, o3, o4⟩ := HL1.out.out
  obtain ⟨a1, c1, hv1⟩ := own_slice7 o1
  subst hv1
  have HP1 : Hid (Pis wc (fun q => (Value.slice a1 (n + (pfm p).length) c1).ownBlock = some q) p (.iface T0 x0)) := HP.out.live o3 (fun q hq => by
    rcases o4 with e | e
    · exact .inl (e ▸ hq)
    · exact .inr (e q hq))
  have HBC := hide (below_any wc (fun q => (Value.slice a1 (n + (pfm p).length) c1).ownBlock = some q) (fun q hq => (o1.lt q hq).2) p _ HP1.out HOK.out HL.out)
  clear o1 o2 o3 o4
  go_wp2_with fail
  refine HBC.out.mono ?_
  rintro e w2 ⟨vp, vs, rfl, hb2, ho2, hp2⟩
  have HL2 : Hid (LayP w B (.slice a n c) n ds (pfm p) (.returned (.slice a1 (n + (pfm p).length) c1)) w2) := by
    obtain ⟨o1, o2, o3, o4⟩ := HL1.out.out
    exact ⟨_, rfl, (Kp.of_below (S := fun _ => False) hb2).owns o1 (fun _ _ h => h), o2, o3.trans (Kp.of_below (S := fun q => (Value.slice a n c).ownBlock = some q) hb2) (fun _ _ e => e), o4⟩
  obtain ⟨av, cv, hvv⟩ := own_slice7 ho2
  subst hvv
  have HR2 := hide ho2
  have HP2 := hide hp2
  have HWC : Hid (wc.heap.size ≤ w2.heap.size) := hb2.size
  have HPB : Hid (∀ k q, (pbl p)[k]? = some q → Pok q ∧ pm q < pm p) := fun k q hq => pbl_ok HOK.out (List.mem_of_getElem? hq)
  have HTK : Hid (∀ k q, (pbl p)[k]? = some q → (((pbl p).take (k + 1)).map pall).flatten = (((pbl p).take k).map pall).flatten ++ pall q) := fun k q hq => pall_take hq
  have HLE : Hid (∀ k, (pfm p).length + (((pbl p).take k).map pall).flatten.length ≤ (pall p).length) := fun k => by
    have h1 := HSP.out
    have h2 : (((pbl p).take k).map pall).flatten.length ≤ ((pbl p).map pall).flatten.length := by
      have e : (pbl p).map pall = ((pbl p).take k).map pall ++ ((pbl p).drop k).map pall := by rw [← List.map_append, List.take_append_drop]
      rw [e, List.flatten_append, List.length_append]
      omega
    rw [h1, List.length_append]
    omega
  have HFN : Hid (pfm p ++ (((pbl p).take (pbl p).length).map pall).flatten = pall p) := by
    show _ = _
    rw [List.take_length, HSP.out]
  have HPL : Hid ((pbl p).length ≤ 1000000000) := by
    have h1 := flat_len7 (pbl p)
    have h2 := HL.out
    have h3 := HSP.out
    show _ ≤ _
    rw [h3, List.length_append] at h2
    omega
  generalize pbl p = ps at *
  have hpl := HPL.out
  clear hb2 ho2 hp2 HBC HP HP1 HL1
  go_wp2_with fail
  go_loopw [0, 13] (fun bb kk wx => ∃ (k : Nat) (L : List Nat), k ≤ ps.length ∧ kk = .int .i64 (k : Nat) ∧ Hid (L = pfm p ++ ((ps.take k).map pall).flatten) ∧ Hid (LayP w B (.slice a n c) n ds L (.returned bb) wx) ∧ Hid (wx.ownsRow wc.heap.size 103 1 (.slice av ps.length cv) ps.length vs ∧ ∀ (i : Nat) (q : Prt) (u : Value), k ≤ i → ps[i]? = some q → vs[i]? = some u → Pis wx (fun z => bb.ownBlock = some z) q u)) (fun _ kk _ => ps.length - (intOf kk).toNat)
  case atStart => exact ⟨0, pfm p, by omega, rfl, hide (by simp), HL2, hide ⟨HR2.out, fun i q u _ hq hu => HP2.out i q u hq hu⟩⟩
  case round =>
    rename World => wx
    obtain ⟨k, L, hk, rfl, HLL, HLY, HRP⟩ := hrel
    clear HL2 HR2 HP2
    by_cases hlt : k < ps.length
    · as_aux_lemma =>
      have g1 : (k : Int) < (ps.length : Int) := by omega
      have hvl : vs.length = ps.length := by have := HRP.out.1.1; omega
      obtain ⟨g, hag⟩ : ∃ g, av = some ⟨g, 0, none⟩ := by
        rcases HRP.out.1.2 with ⟨_, h1⟩ | ⟨g', c', cur, e, _⟩
        · omega
        · injection e with e1 _ _
          exact ⟨g', e1⟩
      subst hag
      have hvk : vs[k]? = some vs[k] := List.getElem?_eq_getElem (by omega)
      have hpk : ps[k]? = some ps[k] := List.getElem?_eq_getElem hlt
      have ck : wx.cell? ⟨g, k, none⟩ = some vs[k] := by
        have h := HRP.out.1.cells (g := g) rfl k _ hvk
        rw [addr_add, Nat.zero_add] at h
        exact h
      obtain ⟨hok, hpm⟩ := HPB.out k _ hpk
      have hpis := HRP.out.2 k _ _ (Nat.le_refl _) hpk hvk
      have htk := HTK.out k _ hpk
      have hle := HLE.out (k + 1)
      rw [htk, List.length_append] at hle
      have hll := HL.out
      have hlx := HLX0.out
      obtain ⟨o1, o2, o3, o4⟩ := HLY.out.out
      obtain ⟨ab, cb, hvb⟩ := own_slice7 o1
      subst hvb
      have hLl : L.length = (pfm p).length + (((ps.take k).map pall).flatten).length := by rw [HLL.out, List.length_append]
      have HQC := hide (HIH.out _ hpm wx B _ (n + L.length) (ds ++ L) _ o1 o2 (Nat.le_trans HBq.out o3.size) hpis hok (by omega) (by omega))
      have HL3 : Hid (L ++ pall ps[k] = pfm p ++ ((ps.take (k + 1)).map pall).flatten) := by show _ = _; rw [htk, HLL.out, List.append_assoc]
      obtain ⟨T1, x1, e1⟩ := pis_one hpis
      rw [e1] at ck HQC
      have HLT := hide hlt
      have HK3 := hide o3
      have HA3 : Hid (At7 w (.slice a n c) (.slice ab (n + L.length) cb)) := o4
      generalize hq : ps[k] = qk at *
      clear hok hpm hpis htk hle hll hvk hpk hvl hlt e1 o1 o2 o3 o4 hLl hlx hq
      go_wp2_with fail
      refine HQC.out.mono ?_
      rintro e w3 ⟨v3, rfl, h1, h2, h3, h4⟩
      have HL4 : Hid (LayP w B (.slice a n c) n ds (L ++ pall qk) (.returned v3) w3) := LayP.two HK3.out HA3.out rfl (by rw [← List.append_assoc]; exact h1) h3 h2 h4
      have hrow : w3.ownsRow wc.heap.size 103 1 (.slice (some ⟨g, 0, none⟩) ps.length cv) ps.length vs := h3.owns HRP.out.1 (fun q hq e => by
        have hb := HLY.out.out.1
        exact own_apart HRP.out.1 hb (by decide) hq e)
      have HR4 : Hid (w3.ownsRow wc.heap.size 103 1 (.slice (some ⟨g, 0, none⟩) ps.length cv) ps.length vs ∧ ∀ (i : Nat) (q : Prt) (u : Value), k + 1 ≤ i → ps[i]? = some q → vs[i]? = some u → Pis w3 (fun z => v3.ownBlock = some z) q u) := ⟨hrow, fun i q u hi hq hu => (HRP.out.2 i q u (by omega) hq hu).live h3 (fun z hz => by
        rcases h4 with e | e
        · exact .inl (e ▸ hz)
        · exact .inr (e z hz))⟩
      clear h1 h2 h3 h4 hrow ck HQC HRP HLY HK3 HA3
      go_wp2_with fail
      go_roundw
      case rel => exact ⟨k + 1, _, by have := HLT.out; omega, by go_num, HL3, HL4, HR4⟩
      case measure => have := HLT.out; simp [intOf]; omega
    · as_aux_lemma =>
      have g1 : ¬ (k : Int) < (ps.length : Int) := by omega
      have HE : Hid (LayP w B (.slice a n c) n ds (pall p) (.returned u0) wx) := by
        have h := HLY.out
        rw [HLL.out, show k = ps.length by omega, HFN.out] at h
        exact h
      clear hlt HRP
      go_wp2_with fail
      go_ret
      exact HE.out
theorem laid7_any (p : Prt) : LaiC p := by
  have key : ∀ N p, pm p < N → LaiC p := by
    intro N
    induction N with
    | zero => intro p h; omega
    | succ N ih => intro p h; exact laid_step p (fun q hq => ih q (by omega))
  exact key _ p (Nat.lt_succ_self _)
end
section
open Go.RowKit Go
/-- value.Check's and value.Sorted's contracts for a value, as Append leans on them. -/
def ChkC7 (t : Tv) (E : Nat) : Prop := ∀ (w : World) (cs : Array Value), Tin w t cs → Tabs w → Calls Tryz.prog 44 #[.agg cs] w fun e w' => e = .returned (.int .i64 (E : Nat)) ∧ Below w.heap.size w w'
def SrtC7 (t s : Tv) : Prop := ∀ (w : World) (cs : Array Value), Tin w t cs → Calls Tryz.prog 58 #[.agg cs] w fun e w' => ∃ c', e = .returned (.agg c') ∧ Tin w' s c' ∧ Below w.heap.size w w'
def AppP (w : World) (ds xs : List Nat) (e : Ending) (w' : World) : Prop := ∃ v', e = .returned (.tuple #[v', .int .i64 0]) ∧ w'.ownsRow w.heap.size 5 1 v' (ds ++ xs).length (bv (ds ++ xs)) ∧ Below w.heap.size w w'
theorem mk7 (w : World) (c : Nat) (hc : c ≤ 10000000000) : ∃ cur : Array Value, cur.size = c ∧ (Instr.makeSlice 23 (.int .i64 0) (.int .i64 (c : Nat))).run Tryz.prog w = .ok (.slice (some ⟨w.heap.size, 0, none⟩) 0 c) (w.alloc (.cells cur 5)) := by
  obtain ⟨i5, hi, hz0, hz1, hz2⟩ := info5_ex
  have hr := run_make (P := Tryz.prog) w 23 5 i5 (.int .u8 0) Tryz.underlying23 hi hz0 .i64 .i64 0 c (by omega) (by omega) (by rw [hz2]; omega) (by omega)
  simp only [Int.toNat_natCast, hz1, Nat.mul_one] at hr
  exact ⟨_, by simp [madeCells], hr⟩
theorem mk7_own (w : World) (c : Nat) (cur : Array Value) (hc : cur.size = c) (hl : c ≤ 10000000000) (B : Nat) (hB : B ≤ w.heap.size) : (w.alloc (.cells cur 5)).ownsRow B 5 1 (.slice (some ⟨w.heap.size, 0, none⟩) 0 c) 0 (bv []) :=
  World.ownsRow_made w cur c hB (by unfold maxLen; omega) (by omega)
set_option maxRecDepth 1000000 in
set_option maxHeartbeats 4000000 in
/-- A value that is no tree. -/
theorem append_bad (w : World) (vb : Value) (t : Tv) (cs : Array Value) (E : Nat) (hE : E ≠ 0) (hc : ChkC7 t E) (ht : Tin w t cs) (hT : Tabs w) : Calls Tryz.prog 31 #[vb, .agg cs] w fun e w' => e = .returned (.tuple #[.slice none 0 0, .int .i64 (E : Nat)]) ∧ Below w.heap.size w w' := by
  have hb0 := below_alloc4 w (.cells cs 65)
  have HB0 := hide hb0
  have HG0 := hide (heap_alloc_new w (.cells cs 65))
  have HSZ := hide ht.size13
  have HCK := hide (hc (w.alloc (.cells cs 65)) cs (ht.move (keep_below hb0)) (hT.next hb0))
  have gE : ((E : Int) != 0) = true := by rw [bne_iff_ne]; omega
  clear hc ht hT hE hb0
  go_enter Tryz.func31, Tryz.ntmps31
  go_upto_region 1 with fail
  generalize w.alloc (.cells cs 65) = w0 at *
  have HVC : Hid (∀ j u, cs[j]? = some u → w0.cell? ⟨w.heap.size, 0 + j, none⟩ = some u) := fun j u hu => by rw [Nat.zero_add]; exact blk_cell HG0.out hu
  go_wp2_with (refine wpList_exec rfl (exec_valAt (g := w.heap.size) (off := 0) (cs := cs) rfl rfl HSZ.out HVC.out) ?_)
  refine HCK.out.mono ?_
  rintro e w1 ⟨rfl, hb1⟩
  have HB1 : Hid (Below w.heap.size w w1) := HB0.out.trans (hb1.mono HB0.out.size)
  clear hb1
  go_wp2_with fail
  go_ret2
  exact ⟨rfl, HB1.out⟩
set_option maxRecDepth 1000000 in
set_option maxHeartbeats 4000000 in
/-- A tree's form behind bytes. -/
theorem append_good (w : World) (vb : Value) (bs : List Nat) (hb : BSl w vb bs) (hbl : bs.length ≤ 1000000000) (t s : Tv) (cs : Array Value) (hc : ChkC7 t 0) (hs : SrtC7 t s) (hp : Ptr s) (hl : (tfm s).length ≤ 1000000000) (ht : Tin w t cs) (hT : Tabs w) : Calls Tryz.prog 31 #[vb, .agg cs] w (AppP w bs (tfm s)) := by
  have hb0 := below_alloc4 w (.cells cs 65)
  have HB0 := hide hb0
  have HG0 := hide (heap_alloc_new w (.cells cs 65))
  have HSZ := hide ht.size13
  have HTN := hide ht
  have HBS := hide hb
  have HPT := hide hp
  have HL := hide hl
  have HBL := hide hbl
  have HSC := hide hs
  have HCK := hide (hc (w.alloc (.cells cs 65)) cs (ht.move (keep_below hb0)) (hT.next hb0))
  obtain ⟨⟨ab, cb, hvb, _, _⟩, _, _⟩ := hb
  subst hvb
  clear hc ht hT hb0 hs hp hl hbl
  go_enter Tryz.func31, Tryz.ntmps31
  go_upto_region 1 with fail
  generalize w.alloc (.cells cs 65) = w0 at *
  have HVC : Hid (∀ j u, cs[j]? = some u → w0.cell? ⟨w.heap.size, 0 + j, none⟩ = some u) := fun j u hu => by rw [Nat.zero_add]; exact blk_cell HG0.out hu
  go_wp2_with (refine wpList_exec rfl (exec_valAt (g := w.heap.size) (off := 0) (cs := cs) rfl rfl HSZ.out HVC.out) ?_)
  refine HCK.out.mono ?_
  rintro e w1 ⟨rfl, hb1⟩
  have HB1 : Hid (Below w.heap.size w w1) := HB0.out.trans (hb1.mono HB0.out.size)
  have HV1 : Hid (∀ j u, cs[j]? = some u → w1.cell? ⟨w.heap.size, 0 + j, none⟩ = some u) := fun j u hu => keep_below hb1 _ _ (HVC.out j u hu)
  have HS1 := hide (HSC.out w1 cs (HTN.out.move (keep_below HB1.out)))
  clear hb1 HVC HCK
  go_wp2_with (refine wpList_exec rfl (exec_valAt (g := w.heap.size) (off := 0) (cs := cs) rfl rfl HSZ.out HV1.out) ?_)
  refine HS1.out.mono ?_
  rintro e w2 ⟨c2, rfl, ht2, hb2⟩
  have HB2 : Hid (Below w.heap.size w w2) := HB1.out.trans (hb2.mono HB1.out.size)
  have HP2 := hide (partOf_any w2 (fun _ => False) (fun _ h => False.elim h) s c2 (Tis.of_tin ht2 (fun _ h => False.elim h)))
  clear ht2 hb2 HS1 HV1
  go_wp2_with fail
  refine HP2.out.mono ?_
  rintro e w3 ⟨v3, rfl, hb3, hp3⟩
  have HB3 : Hid (Below w.heap.size w w3) := HB2.out.trans (hb3.mono HB2.out.size)
  have HPA : Hid (pall (prt s) = tfm s) := pall_prt HPT.out
  have HOK := hide (pok_prt HPT.out)
  have HSI := hide (size7_any (prt s) w3 (fun _ => False) v3 (fun _ h => False.elim h) hp3 HOK.out (by rw [HPA.out]; exact HL.out))
  have HP3 := hide hp3
  obtain ⟨T3, x3, e3⟩ := pis_one hp3
  subst e3
  rw [HPA.out] at HSI
  clear hb3 hp3 HP2
  go_wp2_with fail
  refine HSI.out.mono ?_
  rintro e w4 ⟨rfl, hb4⟩
  have HB4 : Hid (Below w.heap.size w w4) := HB3.out.trans (hb4.mono HB3.out.size)
  have HP4 := hide (HP3.out.live (Kp.of_below (S := fun _ => False) hb4) (fun _ h => False.elim h))
  clear hb4 HSI
  obtain ⟨K, hK⟩ : ∃ K : Nat, K = bs.length + (tfm s).length := ⟨_, rfl⟩
  have hbl2 := HBL.out
  have hll2 := HL.out
  have e1 : IntKind.i64.wrap ((bs.length : Int) + ((tfm s).length : Int)) = (K : Int) := by rw [IntKind.wrap_i64]; omega
  obtain ⟨cur, hcz, hmk⟩ := mk7 w4 K (by omega)
  have hb5 := below_alloc4 w4 (.cells cur 5)
  have HB5 : Hid (Below w.heap.size w (w4.alloc (.cells cur 5))) := HB4.out.trans (hb5.mono HB4.out.size)
  have HO5 := hide (mk7_own w4 K cur hcz (by omega) w.heap.size HB4.out.size)
  have HP5 : Hid (Pis (w4.alloc (.cells cur 5)) (fun q => (Value.slice (some ⟨w4.heap.size, 0, none⟩) 0 K).ownBlock = some q) (prt s) (.iface T3 x3)) := HP4.out.live (Kp.of_below (S := fun _ => False) hb5) (fun q hq => by
    have e : w4.heap.size = q := Option.some.inj hq
    exact .inr (Nat.le_of_eq e))
  have HS5 := hide (HBS.out.move (keep_below HB5.out))
  clear hK hbl2 hll2 hcz hb5 HP3 HP4
  have hbl3 := HBL.out
  go_wp2_with (at_builtin; refine append_bytes rfl _ _ 23 23 rfl Tryz.underlying23 Tryz.underlying23 w.heap.size _ 0 [] rfl HO5.out (fun h => by cases h) _ bs rfl HS5.out (by omega) HB5.out.size ?_)
  intro v6 w6 hO6 hg6 hn6 hA6
  have hk6 := kp_grown hg6
  have hs6 : ∀ k, (fun q => (Value.slice (some ⟨w4.heap.size, 0, none⟩) 0 K).ownBlock = some q) k → w.heap.size ≤ k := fun k hk => by
    have e : w4.heap.size = k := Option.some.inj hk
    exact e ▸ HB4.out.size
  have HB6 : Hid (Below w.heap.size w w6) := HB5.out.trans (hk6.below HB5.out.size hs6)
  have HP6 := hide (HP5.out.live (T := fun q => v6.ownBlock = some q) hk6 (fun q hq => by
    rcases hA6 with e | e
    · exact .inl (e ▸ hq)
    · exact .inr (e q hq)))
  have hll3 := HL.out
  have HLA := hide (laid7_any (prt s) w6 w.heap.size v6 bs.length bs (.iface T3 x3) hO6 hn6 HB6.out.size HP6.out HOK.out (by rw [HPA.out]; omega) (by rw [HPA.out]; exact HL.out))
  have hlt6 := hide (fun k (hk : v6.ownBlock = some k) => (hO6.lt k hk).1)
  obtain ⟨a6, c6, hv6⟩ := own_slice7 hO6
  subst hv6
  rw [HPA.out] at HLA
  clear hO6 hg6 hn6 hA6 hk6 hs6 hll3 hbl3 HO5 HS5 HP5 HB5 HP6 hmk e1
  go_wp2_with fail
  refine HLA.out.mono ?_
  rintro e w7 ⟨v7, rfl, g1, g2, g3, g4⟩
  have HB7 : Hid (Below w.heap.size w w7) := HB6.out.trans (g3.below HB6.out.size hlt6.out)
  have HO7 := hide g1
  clear g1 g2 g3 g4 HLA
  go_wp2_with fail
  go_ret2
  refine ⟨v7, rfl, ?_, HB7.out⟩
  rw [List.length_append]
  exact HO7.out
end
section
open Go.RowKit Go
set_option maxRecDepth 1000000 in
set_option maxHeartbeats 4000000 in
/-- A tree's form alone. -/
theorem encode_good (w : World) (t s : Tv) (cs : Array Value) (hc : ChkC7 t 0) (hs : SrtC7 t s) (hp : Ptr s) (hl : (tfm s).length ≤ 1000000000) (ht : Tin w t cs) (hT : Tabs w) : Calls Tryz.prog 19 #[.agg cs] w (AppP w [] (tfm s)) := by
  have hb0 := below_alloc4 w (.cells cs 65)
  have HB0 := hide hb0
  have HG0 := hide (heap_alloc_new w (.cells cs 65))
  have HSZ := hide ht.size13
  have HCA := hide (append_good (w.alloc (.cells cs 65)) (.slice none 0 0) [] ⟨⟨none, 0, rfl, by simp, .inl rfl⟩, by simp, fun x h => by cases h⟩ (by simp) t s cs hc hs hp hl (ht.move (keep_below hb0)) (hT.next hb0))
  clear hc hs hp hl ht hT hb0
  go_enter Tryz.func19, Tryz.ntmps19
  go_upto_region 1 with fail
  generalize w.alloc (.cells cs 65) = w0 at *
  have HVC : Hid (∀ j u, cs[j]? = some u → w0.cell? ⟨w.heap.size, 0 + j, none⟩ = some u) := fun j u hu => by rw [Nat.zero_add]; exact blk_cell HG0.out hu
  go_wp2_with (refine wpList_exec rfl (exec_valAt (g := w.heap.size) (off := 0) (cs := cs) rfl rfl HSZ.out HVC.out) ?_)
  refine HCA.out.mono ?_
  rintro e w1 ⟨v1, rfl, h1, hb1⟩
  have HB1 : Hid (Below w.heap.size w w1) := HB0.out.trans (hb1.mono HB0.out.size)
  have HO1 := hide (own_mono h1 HB0.out.size)
  clear h1 hb1 HCA HVC
  go_wp2_with fail
  go_ret2
  exact ⟨v1, rfl, HO1.out, HB1.out⟩
set_option maxRecDepth 1000000 in
set_option maxHeartbeats 4000000 in
/-- A value that is no tree has no form. -/
theorem encode_bad (w : World) (t : Tv) (cs : Array Value) (E : Nat) (hE : E ≠ 0) (hc : ChkC7 t E) (ht : Tin w t cs) (hT : Tabs w) : Calls Tryz.prog 19 #[.agg cs] w fun e w' => e = .returned (.tuple #[.slice none 0 0, .int .i64 (E : Nat)]) ∧ Below w.heap.size w w' := by
  have hb0 := below_alloc4 w (.cells cs 65)
  have HB0 := hide hb0
  have HG0 := hide (heap_alloc_new w (.cells cs 65))
  have HSZ := hide ht.size13
  have HCA := hide (append_bad (w.alloc (.cells cs 65)) (.slice none 0 0) t cs E hE hc (ht.move (keep_below hb0)) (hT.next hb0))
  clear hc hE ht hT hb0
  go_enter Tryz.func19, Tryz.ntmps19
  go_upto_region 1 with fail
  generalize w.alloc (.cells cs 65) = w0 at *
  have HVC : Hid (∀ j u, cs[j]? = some u → w0.cell? ⟨w.heap.size, 0 + j, none⟩ = some u) := fun j u hu => by rw [Nat.zero_add]; exact blk_cell HG0.out hu
  go_wp2_with (refine wpList_exec rfl (exec_valAt (g := w.heap.size) (off := 0) (cs := cs) rfl rfl HSZ.out HVC.out) ?_)
  refine HCA.out.mono ?_
  rintro e w1 ⟨rfl, hb1⟩
  have HB1 : Hid (Below w.heap.size w w1) := HB0.out.trans (hb1.mono HB0.out.size)
  clear hb1 HCA HVC
  go_wp2_with fail
  go_ret2
  exact ⟨rfl, HB1.out⟩
end
section
open Go.RowKit Go
set_option maxRecDepth 1000000 in
theorem bad6_any (s : ByteArray) (w : World) (hs : s.size ≤ 140737488351232) (hT : Tabs w) : Calls Tryz.prog 136 #[.string s] w fun e w' => e = .returned (.bool (badb s)) ∧ Below w.heap.size w w' := by
  have cV : Calls Tryz.prog 161 #[.string s] w fun e w' => e = .returned (.bool (Lib.validD s.data.toList)) ∧ Below w.heap.size w w' := Any.utf8_ValidString Tryz.laysValid s w (by omega) hT
  have HV := hide cV
  unfold badb
  clear cV hT
  generalize Lib.validD s.data.toList = V at *
  go_enter Tryz.func136, Tryz.ntmps136
  go_wp2_with fail
  refine (Hid.out HV).mono ?_
  rintro e w1 ⟨rfl, hb1⟩
  have HB1 := hide hb1
  clear hb1 HV
  go_wp2_with fail
  go_ret
  exact ⟨rfl, HB1.out⟩
set_option maxRecDepth 1000000 in
set_option maxHeartbeats 1000000 in
theorem indexFunc_any (w : World) (v : Value) (ks : List ByteArray) (hv : SSl w v ks) (hT : Tabs w) : Calls Tryz.prog 162 #[v, .func (.func 136) #[] #[]] w fun e w' => ∃ r : Int, e = .returned (.int .i64 r) ∧ decide (0 ≤ r) = ks.any badb ∧ Below w.heap.size w w' := by
  have HSZ := hide hv.size
  have HT := hide hT
  obtain ⟨⟨a, cap, rfl, _, hc⟩, hmax, _⟩ := hv
  have HC := hide hc
  clear hc hT
  go_enter Tryz.func162, Tryz.ntmps162
  go_wp2_with fail
  go_loopw [8] (fun ii wx => ∃ i : Nat, i ≤ ks.length ∧ ii = .int .i64 (i : Nat) ∧ Hid (∀ j s, j < i → ks[j]? = some s → badb s = false) ∧ Hid (Below w.heap.size w wx)) (fun ii _ => ks.length - (intOf ii).toNat)
  case atStart => exact ⟨0, by omega, rfl, fun j s hj => absurd hj (by omega), Below.refl _ _⟩
  case round =>
    obtain ⟨i, hi, rfl, HI, HBw⟩ := hrel
    by_cases hlt : i < ks.length
    · as_aux_lemma =>
      have g1 : (i : Int) < (ks.length : Int) := by omega
      obtain ⟨s, hs⟩ : ∃ s, ks[i]? = some s := ⟨ks[i], List.getElem?_eq_getElem hlt⟩
      obtain ⟨b, off, rfl, hcc⟩ := HC.out.resolve_left (fun h => by rw [h] at hlt; simp at hlt)
      have c1 := keep_below HBw.out _ _ (hcc i s hs)
      have HCA := hide (bad6_any s wr (HSZ.out s (List.mem_of_getElem? hs)) (HT.out.next HBw.out))
      have HS1 := hide hs
      clear hcc hs HC
      go_wp2_with fail
      refine HCA.out.mono ?_
      rintro e w1 ⟨rfl, hb1⟩
      have HB1 : Hid (Below w.heap.size w w1) := HBw.out.trans (hb1.mono HBw.out.size)
      clear hb1 HCA c1
      rcases Bool.eq_false_or_eq_true (badb s) with hr | hr
      · have HA : Hid (ks.any badb = true) := List.any_eq_true.2 ⟨s, List.mem_of_getElem? HS1.out, hr⟩
        rw [hr]
        go_wp2_with fail
        go_ret
        exact ⟨_, rfl, by rw [HA.out, decide_eq_true (by omega)], HB1.out⟩
      · have HI2 : Hid (∀ j s, j < i + 1 → ks[j]? = some s → badb s = false) := fun j s' hj h1 => by
          by_cases hji : j = i
          · subst hji
            rw [HS1.out] at h1
            injection h1 with h1
            rw [← h1]
            exact hr
          · exact HI.out j s' (by omega) h1
        rw [hr]
        clear hr HS1 HI
        go_wp2_with fail
        go_roundw
        case rel => exact ⟨i + 1, by omega, by go_num, HI2, HB1⟩
        case measure => simp [intOf]; omega
    · as_aux_lemma =>
      have g1 : ¬ (i : Int) < (ks.length : Int) := by omega
      have HA : Hid (ks.any badb = false) := by
        show _ = _
        rw [List.any_eq_false]
        intro s hs
        obtain ⟨j, hj, e⟩ := List.getElem_of_mem hs
        have h := HI.out j s (by omega) (by rw [List.getElem?_eq_getElem hj, e])
        rw [h]
        simp
      go_wp2_with fail
      go_ret
      exact ⟨_, rfl, by rw [HA.out]; rfl, HBw.out⟩
set_option maxRecDepth 1000000 in
theorem containsFunc_any (w : World) (v : Value) (ks : List ByteArray) (hv : SSl w v ks) (hT : Tabs w) : Calls Tryz.prog 137 #[v, .func (.func 136) #[] #[]] w fun e w' => e = .returned (.bool (ks.any badb)) ∧ Below w.heap.size w w' := by
  have HX := hide (indexFunc_any w v ks hv hT)
  obtain ⟨⟨a, cap, rfl, _, hc⟩, hmax, _⟩ := hv
  clear hc hT
  go_enter Tryz.func137, Tryz.ntmps137
  go_wp2_with fail
  refine HX.out.mono ?_
  rintro e w1 ⟨r, rfl, hr, hb1⟩
  have HR := hide hr
  have HB1 := hide hb1
  clear hr hb1 HX
  go_wp2_with fail
  go_ret
  exact ⟨by rw [← HR.out]; rfl, HB1.out⟩
end
end Go.Proofs.YtjlknnpgngaooaaGreatDoor

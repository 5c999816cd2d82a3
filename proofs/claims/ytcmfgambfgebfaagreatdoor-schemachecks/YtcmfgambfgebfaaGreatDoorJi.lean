import Derived.Test.YtcmfgambfgebfaaGreatDoorJh
import Derived.Test.YtcmfgambfgebfaaGreatDoorJg
import Derived.Test.YtcmfgambfgebfaaGreatDoorJf
import Derived.Test.YtcmfgambfgebfaaGreatDoorJa
import Derived.Test.YtcmfgambfgebfaaGreatDoorSlcf
import Derived.Lib.TrimUEq
namespace Go.Proofs.YtcmfgambfgebfaaGreatDoor
section
open Go.RowKit Go
/-! ### keys, texts -/
set_option maxRecDepth 1000000 in
set_option maxHeartbeats 1000000 in
theorem keys11_any (w : World) (v : Value) (cs : List Cz) (hv : CSl w v cs) (hn : cs.length ≤ 1000) : Calls Tryz.prog 87 #[v] w fun e w' => ∃ v', e = .returned v' ∧ Hid (SSl w' v' (cs.map (·.k)) ∧ Below w.heap.size w w') := by
  have HSZ : Hid (∀ s ∈ cs.map (·.k), s.size ≤ 140737488351232) := fun s hs => by
    obtain ⟨x, hx, rfl⟩ := List.mem_map.1 hs
    obtain ⟨i, hi, e⟩ := List.getElem_of_mem hx
    rcases hv.form with ⟨_, _, _, _, h | ⟨b, off, _, h⟩⟩
    · rw [h] at hx; cases hx
    · obtain ⟨_, ⟨_, h3, _⟩, _⟩ := h i x (by rw [List.getElem?_eq_getElem hi, e])
      exact h3
  obtain ⟨⟨a, cap, rfl, hcap, hform⟩, hmax⟩ := hv
  have HF := hide hform
  have HN := hide hn
  clear hform hcap hn
  go_enter Tryz.func87, Tryz.ntmps87
  go_wp2_with fail
  go_loopw [3, 4] (fun vo vi wx => ∃ (i : Nat) (a0 : Option Addr) (n0 c0 : Nat), i ≤ cs.length ∧ vo = .slice a0 n0 c0 ∧ vi = .int .i64 (i : Nat) ∧ Hid (wx.ownsRow w.heap.size 9 1 (.slice a0 n0 c0) i (sv ((cs.take i).map (·.k)))) ∧ Hid (Below w.heap.size w wx)) (fun _ vi _ => cs.length - (intOf vi).toNat)
  case atStart => exact ⟨0, none, 0, 0, by omega, rfl, rfl, World.ownsRow_nil _ _ _ _, Below.refl _ _⟩
  case round =>
    obtain ⟨i, a0, n0, c0, hi, rfl, rfl, HO, HBz1⟩ := hrel
    by_cases hlt : i < cs.length
    · as_aux_lemma =>
      have g1 : (i : Int) < (cs.length : Int) := by omega
      obtain ⟨x, hx⟩ : ∃ x, cs[i]? = some x := ⟨cs[i], List.getElem?_eq_getElem hlt⟩
      obtain ⟨b, off, rfl, hcc⟩ := HF.out.resolve_left (fun h => by rw [h] at hlt; simp at hlt)
      obtain ⟨c, ⟨rfl, hz, _⟩, hcell⟩ := hcc i x hx
      have qk := keep_below HBz1.out _ _ (hcell 0 (.string x.k) rfl)
      rw [Nat.add_zero] at qk
      have HTK : Hid ((cs.take (i + 1)).map (·.k) = (cs.take i).map (·.k) ++ [x.k]) := by
        show _ = _
        rw [List.take_succ_eq_append_getElem hlt, List.map_append]
        rw [List.getElem?_eq_getElem hlt] at hx
        injection hx with hx
        rw [hx]
        rfl
      have HZ := hide hz
      have HBS := hide HBz1.out.size
      have HLI : Hid (i ≤ 1000) := by have := HN.out; show _ ≤ _; omega
      clear hcc hcell hx hz
      go_wp2_with (at_builtin; refine append_ssl rfl _ _ rfl w.heap.size _ i ((cs.take i).map (·.k)) rfl (HO.out.alloc _) _ [x.k] rfl (one_ssl _ x.k HZ.out) ?b1 ?b2 ?_)
      case b1 => have := HLI.out; simp; omega
      case b2 => have := HBS.out; simp; omega
      intro v2 w2 hown2 hgr2
      have hbel2 : Below w.heap.size w w2 := (HBz1.out.alloc HBS.out _).grown hgr2 (by have := HBS.out; simp; omega) (fun q hq => (HO.out.lt q hq).1)
      have HO2 : Hid (w2.ownsRow w.heap.size 9 1 v2 (i + 1) (sv ((cs.take (i + 1)).map (·.k)))) := by show World.ownsRow _ _ _ _ _ _ _; rw [HTK.out]; first | exact hown2 | (rw [List.map_take]; exact hown2)
      have HB2 := hide hbel2
      clear hgr2 hown2 hbel2 HO HBz1
      obtain ⟨a2, c2, hv0, _⟩ := own_formG HO2.out
      subst hv0
      go_wp2_with fail
      go_roundw
      case rel => exact ⟨i + 1, _, _, _, by omega, rfl, by go_num, HO2, HB2⟩
      case measure => simp [intOf]; omega
    · have g1 : ¬ (i : Int) < (cs.length : Int) := by omega
      have hil : i = cs.length := by omega
      have HO2 : Hid (wr.ownsRow w.heap.size 9 1 (.slice a0 n0 c0) cs.length (sv (cs.map (·.k)))) := by have h := HO.out; rw [hil, List.take_length] at h; exact h
      clear hil HO
      go_wp2_with fail
      go_ret
      exact ⟨_, rfl, SSl.own HO2.out (by rw [List.length_map]) (by rw [List.length_map]; exact hmax) HSZ.out, HBz1.out⟩
theorem SSl.tk {w : World} {a : Option Addr} {cap i : Nat} {L : List ByteArray} (h : SSl w (.slice a L.length cap) L) (hi : i ≤ L.length) : SSl w (.slice a i cap) (L.take i) := by
  obtain ⟨⟨a', cap', e, hn, hc⟩, hm, hs⟩ := h
  injection e with e1 _ e3
  subst e1
  subst e3
  have hl : (L.take i).length = i := by rw [List.length_take]; omega
  refine ⟨⟨a, cap, by rw [hl], ⟨by omega, hn.2⟩, ?_⟩, by omega, fun s hs' => hs s (List.mem_of_mem_take hs')⟩
  rcases hc with hc | ⟨b, off, ea, hc⟩
  · exact .inl (by rw [hc]; simp)
  · refine .inr ⟨b, off, ea, fun j s hj => hc j s ?_⟩
    rw [List.getElem?_take] at hj
    split at hj
    · exact hj
    · cases hj
set_option maxRecDepth 1000000 in
set_option maxHeartbeats 1000000 in
theorem texts11_any (w : World) (v : Value) (L : List ByteArray) (hv : SSl w v L) : Calls Tryz.prog 86 #[v] w fun e w' => e = .returned (.bool (some64 L.length && goodT [] L)) ∧ Below w.heap.size w w' := by
  have HSZ := hide hv.size
  have hmax := hv.max
  have HV := hide hv
  obtain ⟨⟨a, cap, rfl, hcap, hform⟩, _, _⟩ := hv
  have HF := hide hform
  have HCP := hide hcap.1
  clear hform hcap
  go_enter Tryz.func86, Tryz.ntmps86
  go_wp2_with fail
  go_loopw [3] (fun vi wx => ∃ (i : Nat), i ≤ L.length ∧ vi = .int .i64 (i : Nat) ∧ Hid (goodT [] L = goodT (L.take i).reverse (L.drop i)) ∧ Hid (Below w.heap.size w wx)) (fun vi _ => L.length - (intOf vi).toNat)
  case atStart => exact ⟨0, by omega, rfl, rfl, Below.refl _ _⟩
  case round =>
    obtain ⟨i, hi, rfl, HE, HBz1⟩ := hrel
    by_cases hlt : i < L.length
    · have g1 : (i : Int) < (L.length : Int) := by omega
      obtain ⟨s, hs⟩ : ∃ s, L[i]? = some s := ⟨L[i], List.getElem?_eq_getElem hlt⟩
      have hsv := HF.out.resolve_left (fun h => by rw [h] at hlt; simp at hlt)
      obtain ⟨b, off, rfl, hcc⟩ := hsv
      have c1 : ∀ t' : Ext wr, t'.w'.cell? ⟨b, off + i, none⟩ = some (.string s) := fun t' => keep_below t'.h _ _ (keep_below HBz1.out _ _ (hcc i s hs))
      have hsz := HSZ.out s (List.mem_of_getElem? hs)
      have HDR : Hid (L.drop i = s :: L.drop (i + 1)) := by
        show _ = _
        rw [List.drop_eq_getElem_cons hlt]
        rw [List.getElem?_eq_getElem hlt] at hs
        injection hs with hs
        rw [hs]
      have HTK : Hid (L.take (i + 1) = L.take i ++ [s]) := by
        show _ = _
        rw [List.take_succ_eq_append_getElem hlt]
        rw [List.getElem?_eq_getElem hlt] at hs
        injection hs with hs
        rw [hs]
      rw [HDR.out] at HE
      have HGo : Hid (∀ t' : Ext wr, Calls Tryz.prog 85 #[.string s] t'.w' fun e w'' => e = .returned (.bool (!badb s)) ∧ ∃ t2 : Ext wr, w'' = t2.w') := fun t' => by
        have h := good11_any t'.w' s hsz
        rw [show ugood (sl s) = !badb s by rw [bad_good, Bool.not_not]] at h
        exact Calls.ext_same h
      have HIs : Hid (∀ t' : Ext wr, Calls Tryz.prog 48 #[.slice (some ⟨b, off, none⟩) i cap, .string s] t'.w' fun e w'' => e = .returned (.bool (memb (L.take i) s)) ∧ ∃ t2 : Ext wr, w'' = t2.w') := fun t' =>
        Calls.ext_same (is11_any t'.w' _ (L.take i) ((SSl.tk HV.out (by omega)).move (fun p u hu => keep_below t'.h _ _ (keep_below HBz1.out _ _ hu))) s)
      have g2 : (i : Int) ≤ (cap : Int) := by have := HCP.out; omega
      have g3 : i ≤ cap := by omega
      clear hcc hs HF HSZ
      cases hb : badb s with
      | true =>
        as_aux_lemma =>
        have HR : Hid (goodT [] L = false) := HE.out.trans (goodT_no (by rw [hb, Bool.or_true]))
        rw [hb] at HGo
        clear hb HE HIs
        go_wp2_with fail
        refine region_ext (by kernel_rfl) (by kernel_rfl) ?_
        repeat (
          with_reducible refine wpQuiet_step (fun K hK => ?_)
          go_simp
          first
            | (with_reducible refine hK _ ?_; clear hK K)
            | (apply Exists.intro
               refine ⟨fun _ => ?_, hK _ ?_⟩
               (go_at_call 85; with_reducible exact HGo.out _)
               clear hK K))
        refine wpQuiet_nil ?_
        rintro _ ⟨tq, rfl⟩
        have HB2 : Hid (Below w.heap.size w tq.w') := HBz1.out.trans (tq.h.mono HBz1.out.size)
        clear c1
        go_wp2_with fail
        go_ret
        exact ⟨by rw [HR.out, Bool.and_false] <;> rfl, HB2.out⟩
      | false =>
        rw [hb] at HGo
        cases hm : memb (L.take i) s with
        | true =>
          as_aux_lemma =>
          have HR : Hid (goodT [] L = false) := HE.out.trans (goodT_no (by rw [hm, Bool.true_or]))
          rw [hm] at HIs
          clear hb HE hm
          go_wp2_with fail
          refine region_ext (by kernel_rfl) (by kernel_rfl) ?_
          repeat (
            with_reducible refine wpQuiet_step (fun K hK => ?_)
            go_simp
            first
              | (with_reducible refine hK _ ?_; clear hK K)
              | (apply Exists.intro
                 refine ⟨fun _ => ?_, hK _ ?_⟩
                 (first
                   | (go_at_call 85; with_reducible exact HGo.out _)
                   | (go_at_call 48; with_reducible exact HIs.out _))
                 clear hK K))
          refine wpQuiet_nil ?_
          rintro _ ⟨tq, rfl⟩
          have HB2 : Hid (Below w.heap.size w tq.w') := HBz1.out.trans (tq.h.mono HBz1.out.size)
          clear c1
          go_wp2_with fail
          go_ret
          exact ⟨by rw [HR.out, Bool.and_false] <;> rfl, HB2.out⟩
        | false =>
          as_aux_lemma =>
          have HR : Hid (goodT [] L = goodT (L.take (i + 1)).reverse (L.drop (i + 1))) := by
            show _ = _
            rw [HTK.out]
            exact HE.out.trans (goodT_yes hm hb)
          rw [hm] at HIs
          clear hb HE hm
          go_wp2_with fail
          refine region_ext (by kernel_rfl) (by kernel_rfl) ?_
          repeat (
            with_reducible refine wpQuiet_step (fun K hK => ?_)
            go_simp
            first
              | (with_reducible refine hK _ ?_; clear hK K)
              | (apply Exists.intro
                 refine ⟨fun _ => ?_, hK _ ?_⟩
                 (first
                   | (go_at_call 85; with_reducible exact HGo.out _)
                   | (go_at_call 48; with_reducible exact HIs.out _))
                 clear hK K))
          refine wpQuiet_nil ?_
          rintro _ ⟨tq, rfl⟩
          have HB2 : Hid (Below w.heap.size w tq.w') := HBz1.out.trans (tq.h.mono HBz1.out.size)
          clear c1
          go_wp2_with fail
          go_roundw
          case rel => exact ⟨i + 1, by omega, by go_num, HR, HB2⟩
          case measure => simp [intOf]; omega
    · have g1 : ¬ (i : Int) < (L.length : Int) := by omega
      have HR : Hid (goodT [] L = true) := by
        show _ = _
        rw [HE.out, List.drop_eq_nil_of_le (by omega)]
        rfl
      clear HE
      by_cases h1 : 1 ≤ L.length
      · have k1 : (1 : Int) ≤ (L.length : Int) := by omega
        by_cases h2 : L.length ≤ 64
        · have k2 : (L.length : Int) ≤ 64 := by omega
          have HS : Hid (some64 L.length = true) := by show _ = _; unfold some64; rw [decide_eq_true (by omega), decide_eq_true h2]; rfl
          go_wp2_with fail
          go_ret
          exact ⟨by rw [HR.out, HS.out] <;> rfl, HBz1.out⟩
        · have k2 : ¬ (L.length : Int) ≤ 64 := by omega
          have HS : Hid (some64 L.length = false) := by show _ = _; unfold some64; rw [decide_eq_false h2, Bool.and_false]
          go_wp2_with fail
          go_ret
          exact ⟨by rw [HS.out] <;> rfl, HBz1.out⟩
      · have k1 : ¬ (1 : Int) ≤ (L.length : Int) := by omega
        have HS : Hid (some64 L.length = false) := by show _ = _; unfold some64; rw [decide_eq_false (by omega), Bool.false_and]
        go_wp2_with fail
        go_ret
        exact ⟨by rw [HS.out] <;> rfl, HBz1.out⟩
end
section
open Go.RowKit Go
/-! ### cases, the reference's -/
set_option maxRecDepth 1000000 in
set_option maxHeartbeats 2000000 in
theorem cases11_any (w : World) (t : Tp) (c : Array Value) (hc : Tpi w t c) (hk : 7 ≤ t.k ∧ t.k ≤ 9) (hc1 : t.cs.length ≤ 1000) : Calls Tryz.prog 54 #[.agg c] w fun e w' => e = .returned (.bool (cft t)) ∧ Below w.heap.size w w' := by
  obtain ⟨⟨vf, vc, vw, rfl, ⟨⟨af, cf, rfl, -, -⟩, -⟩, hC, hW⟩, -⟩ := hc
  have HCS := hide hC
  have HWS := hide hW
  obtain ⟨⟨ac, cc, rfl, -, hcf⟩, -⟩ := hC
  obtain ⟨⟨aw, cw, rfl, -, -⟩, -, -⟩ := hW
  have HC := hide hcf
  have HC1 := hide hc1
  clear hcf
  unfold tpc
  have HX := hide (Tbx.start w #[.string t.n, .int .i64 t.k, .int .i64 t.lo, .int .i64 t.hi, .string t.r.n, .bool t.r.z, .slice af t.fs.length cf, .slice ac t.cs.length cc, .slice aw t.ws.length cw])
  have HT1 : Hid ((#[.string t.n, .int .i64 t.k, .int .i64 t.lo, .int .i64 t.hi, .string t.r.n, .bool t.r.z, .slice af t.fs.length cf, .slice ac t.cs.length cc, .slice aw t.ws.length cw] : Array Value)[1]? = some (.int .i64 t.k)) := rfl
  have HT7 : Hid ((#[.string t.n, .int .i64 t.k, .int .i64 t.lo, .int .i64 t.hi, .string t.r.n, .bool t.r.z, .slice af t.fs.length cf, .slice ac t.cs.length cc, .slice aw t.ws.length cw] : Array Value)[7]? = some (.slice ac t.cs.length cc)) := rfl
  have HT8 : Hid ((#[.string t.n, .int .i64 t.k, .int .i64 t.lo, .int .i64 t.hi, .string t.r.n, .bool t.r.z, .slice af t.fs.length cf, .slice ac t.cs.length cc, .slice aw t.ws.length cw] : Array Value)[8]? = some (.slice aw t.ws.length cw)) := rfl
  go_enter Tryz.func54, Tryz.ntmps54
  go_upto_region 1 with fail
  generalize w.alloc (.cells #[.string t.n, .int .i64 t.k, .int .i64 t.lo, .int .i64 t.hi, .string t.r.n, .bool t.r.z, .slice af t.fs.length cf, .slice ac t.cs.length cc, .slice aw t.ws.length cw] 45) = w1 at *
  obtain ⟨tc, htc⟩ : ∃ tc : Array Value, tc = #[.string t.n, .int .i64 t.k, .int .i64 t.lo, .int .i64 t.hi, .string t.r.n, .bool t.r.z, .slice af t.fs.length cf, .slice ac t.cs.length cc, .slice aw t.ws.length cw] := ⟨_, rfl⟩
  rw [← htc] at HX HT1 HT7 HT8
  clear htc
  have q1 : w1.cell? ⟨w.heap.size, 1, none⟩ = some (.int .i64 t.k) := blk_cell (j := 1) HX.out.a HT1.out
  have q7 : w1.cell? ⟨w.heap.size, 7, none⟩ = some (.slice ac t.cs.length cc) := blk_cell (j := 7) HX.out.a HT7.out
  have q8 : w1.cell? ⟨w.heap.size, 8, none⟩ = some (.slice aw t.ws.length cw) := blk_cell (j := 8) HX.out.a HT8.out
  by_cases h7 : t.k = 7
  · as_aux_lemma =>
    have g7 : (t.k == 7) = true := beq_iff_eq.2 h7
    have HE : Hid (cft t = (some64 (t.cs.map (·.k)).length && goodT [] (t.cs.map (·.k)))) := by show _ = _; unfold cft; rw [if_pos h7, List.length_map]
    clear h7 hk hc1
    go_wp2_with fail
    refine (keys11_any w1 _ t.cs (HCS.out.mv (keep_below HX.out.b)) HC1.out).mono ?_
    rintro e w2 ⟨v', rfl, hP⟩
    have HX2 := hide (HX.out.next hP.out.2)
    have HSL := hide hP.out.1
    clear hP HX q1 q7 q8
    go_wp2_with fail
    refine (texts11_any w2 _ (t.cs.map (·.k)) HSL.out).mono ?_
    rintro e w3 ⟨rfl, hb3⟩
    have HX3 := hide (HX2.out.next hb3)
    clear hb3 HX2 HSL
    generalize (some64 (t.cs.map (·.k)).length && goodT [] (t.cs.map (·.k))) = R at *
    go_wp2_with fail
    go_ret
    exact ⟨by rw [HE.out] <;> rfl, HX3.out.b⟩
  have g7 : (t.k == 7) = false := beq_eq_false_iff_ne.2 h7
  by_cases h9 : t.k = 9
  · as_aux_lemma =>
    have g9 : (t.k == 9) = true := beq_iff_eq.2 h9
    have HE : Hid (cft t = (some64 t.ws.length && goodT [] t.ws)) := by show _ = _; unfold cft; rw [if_neg h7, if_neg (by omega), if_pos h9]
    clear h7 h9 hk hc1
    go_wp2_with fail
    refine (texts11_any w1 _ t.ws (HWS.out.move (keep_below HX.out.b))).mono ?_
    rintro e w3 ⟨rfl, hb3⟩
    have HX3 := hide (HX.out.next hb3)
    clear hb3 HX q1 q7 q8
    generalize (some64 t.ws.length && goodT [] t.ws) = R at *
    go_wp2_with fail
    go_ret
    exact ⟨by rw [HE.out] <;> rfl, HX3.out.b⟩
  have g9 : (t.k == 9) = false := beq_eq_false_iff_ne.2 h9
  have HE : Hid (cft t = (some64 t.cs.length && t.cs.all fun c => decide (c.k = ⟨#[]⟩))) := by show _ = _; unfold cft; rw [if_neg h7, if_pos (by omega)]
  clear h7 h9 hk HWS HCS
  go_wp2_with fail
  clear q1 q7 q8
  go_loopw [3] (fun vi wx => ∃ (i : Nat), i ≤ t.cs.length ∧ vi = .int .i64 (i : Nat) ∧ Hid (∀ j x, j < i → t.cs[j]? = some x → x.k = ⟨#[]⟩) ∧ Hid (Tbx w tc wx)) (fun vi _ => t.cs.length - (intOf vi).toNat)
  case atStart => exact ⟨0, by omega, rfl, fun j _ hj => absurd hj (by omega), HX⟩
  case round =>
    obtain ⟨i, hi, rfl, HA, HXi⟩ := hrel
    clear HX
    have q7 : wr.cell? ⟨w.heap.size, 7, none⟩ = some (.slice ac t.cs.length cc) := blk_cell (j := 7) HXi.out.a HT7.out
    by_cases hlt : i < t.cs.length
    · have g1 : (i : Int) < (t.cs.length : Int) := by omega
      obtain ⟨x, hx⟩ : ∃ x, t.cs[i]? = some x := ⟨t.cs[i], List.getElem?_eq_getElem hlt⟩
      obtain ⟨b, off, rfl, hcc⟩ := HC.out.resolve_left (fun h => by rw [h] at hlt; simp at hlt)
      obtain ⟨c, ⟨rfl, hz, _⟩, hcell⟩ := hcc i x hx
      have qk := keep_below HXi.out.b _ _ (hcell 0 (.string x.k) rfl)
      rw [Nat.add_zero] at qk
      have HXM := hide (List.mem_of_getElem? hx)
      have HXX := hide hx
      clear hcc hcell hz hx
      by_cases he : x.k = ⟨#[]⟩
      · as_aux_lemma =>
        have gk : (x.k.toList == []) = true := by rw [he, emp_l11]; rfl
        have HA2 : Hid (∀ j y, j < i + 1 → t.cs[j]? = some y → y.k = ⟨#[]⟩) := fun j y hj hy => by
          by_cases e : j = i
          · subst e
            rw [HXX.out] at hy
            rw [← Option.some.inj hy]
            exact he
          · exact HA.out j y (by omega) hy
        clear he HA
        go_wp2_with fail
        go_roundw
        case rel => exact ⟨i + 1, by omega, by go_num, HA2, HXi⟩
        case measure => simp [intOf]; omega
      · as_aux_lemma =>
        have gk : (x.k.toList == []) = false := by have := str_no he; rw [emp_l11] at this; exact this
        have HR : Hid (cft t = false) := by
          show _ = _
          rw [HE.out, Bool.and_eq_false_iff]
          refine .inr ?_
          rw [List.all_eq_false]
          exact ⟨x, HXM.out, by rw [decide_eq_false he]; decide⟩
        clear he HA
        go_wp2_with fail
        go_ret
        exact ⟨by rw [HR.out] <;> rfl, HXi.out.b⟩
    · have g1 : ¬ (i : Int) < (t.cs.length : Int) := by omega
      have HAL : Hid ((t.cs.all fun c => decide (c.k = ⟨#[]⟩)) = true) := by
        show _ = _
        rw [List.all_eq_true]
        intro y hy
        obtain ⟨j, hj, e⟩ := List.getElem_of_mem hy
        exact decide_eq_true (HA.out j y (by omega) (by rw [List.getElem?_eq_getElem hj, e]))
      clear HA
      by_cases h1 : 1 ≤ t.cs.length
      · have k1 : (1 : Int) ≤ (t.cs.length : Int) := by omega
        by_cases h2 : t.cs.length ≤ 64
        · as_aux_lemma =>
          have k2 : (t.cs.length : Int) ≤ 64 := by omega
          have HR : Hid (cft t = true) := by show _ = _; rw [HE.out, HAL.out]; unfold some64; rw [decide_eq_true (show 0 < t.cs.length by omega), decide_eq_true h2]; rfl
          go_wp2_with fail
          go_ret
          exact ⟨by rw [HR.out] <;> rfl, HXi.out.b⟩
        · as_aux_lemma =>
          have k2 : ¬ (t.cs.length : Int) ≤ 64 := by omega
          have HR : Hid (cft t = false) := by show _ = _; rw [HE.out]; unfold some64; rw [decide_eq_false h2, Bool.and_false, Bool.false_and]
          go_wp2_with fail
          go_ret
          exact ⟨by rw [HR.out] <;> rfl, HXi.out.b⟩
      · as_aux_lemma =>
        have k1 : ¬ (1 : Int) ≤ (t.cs.length : Int) := by omega
        have HR : Hid (cft t = false) := by show _ = _; rw [HE.out]; unfold some64; rw [decide_eq_false (show ¬ 0 < t.cs.length by omega), Bool.false_and, Bool.false_and]
        go_wp2_with fail
        go_ret
        exact ⟨by rw [HR.out] <;> rfl, HXi.out.b⟩
end
section
open Go.RowKit Go
/-! ### Names -/
theorem decN_ge {n b0 b1 b2 b3 : Nat} (h : ¬ b0 < 128) : 128 ≤ (Lib.decodeN n b0 b1 b2 b3).1 := by
  unfold Lib.decodeN
  rw [if_neg h]
  repeat' split
  all_goals simp only
  all_goals omega
theorem nby_hi {r : Nat} (h : 128 ≤ r) : nby r = false := by
  unfold nby
  simp only [Bool.or_eq_false_iff, decide_eq_false_iff_not]
  omega
def strg (r : Nat) : Bool := !nby r
theorem idx_name (s : ByteArray) : ∀ (f pos : Nat), s.data.toList.length ≤ pos + f → decide (0 ≤ Lib.idxFuncFrom strg true s f pos) = !((s.data.toList.drop pos).all fun c => nby c.toNat)
  | 0, pos, h => by
    rw [List.drop_of_length_le (by omega)]
    rfl
  | f + 1, pos, h => by
    unfold Lib.idxFuncFrom
    have hs : s.size = s.data.toList.length := by rw [Array.length_toList]; rfl
    by_cases hp : pos < s.size
    · rw [if_pos hp]
      have hp' : pos < s.data.toList.length := by omega
      have hd := Lib.decode_N s pos
      have hg : s.data.toList.getD pos 0 = s.data.toList[pos] := by simp [List.getD, List.getElem?_eq_getElem hp']
      rw [hg] at hd
      rw [List.drop_eq_getElem_cons hp', List.all_cons]
      generalize s.data.toList[pos] = c at *
      by_cases hc : c.toNat < 128
      · have hd2 : Utf8.decode s pos = (c.toNat, 1) := by rw [hd]; unfold Lib.decodeN; rw [if_pos hc]
        rw [hd2]
        simp only [strg]
        rcases Bool.eq_false_or_eq_true (nby c.toNat) with hn | hn
        · simp only [hn, Bool.not_true, Bool.false_eq_true, if_false, Bool.true_and]
          exact idx_name s f (pos + 1) (by omega)
        · simp [hn]
      · have h1 : strg (Utf8.decode s pos).1 = true := by
          unfold strg
          rw [hd, nby_hi (decN_ge hc)]
          rfl
        rw [if_pos h1, nby_hi (by omega : 128 ≤ c.toNat)]
        simp
    · rw [if_neg hp, List.drop_of_length_le (by omega)]
      rfl
theorem idx_all (s : ByteArray) : decide (0 ≤ Lib.idxFunc strg true s) = !(s.data.toList.all fun c => nby c.toNat) := by
  have h := idx_name s s.size 0 (by rw [Array.length_toList, Nat.zero_add]; exact Nat.le_refl _)
  rw [List.drop_zero] at h
  exact h
set_option maxRecDepth 1000000 in
set_option maxHeartbeats 1000000 in
theorem strange_any (r : Nat) (w : World) : Calls Tryz.prog 73 #[.int .i32 (r : Int)] w fun e w' => e = .returned (.bool (strg r)) ∧ w' = w := by
  by_cases h1 : 97 ≤ r
  · have g1 : (97 : Int) ≤ (r : Int) := by omega
    by_cases h2 : r ≤ 122
    · have g2 : (r : Int) ≤ 122 := by omega
      have HK : Hid (strg r = false) := by show _ = _; unfold strg nby; rw [decide_eq_true (show 97 ≤ r ∧ r ≤ 122 from ⟨h1, h2⟩)]; rfl
      clear h1 h2
      go_enter Tryz.func73, Tryz.ntmps73
      go_wp2_with fail
      go_ret
      exact ⟨by rw [HK.out]; rfl, rfl⟩
    · have g2 : ¬ (r : Int) ≤ 122 := by omega
      have g3 : (65 : Int) ≤ (r : Int) := by omega
      have g4 : ¬ (r : Int) ≤ 90 := by omega
      have g5 : (48 : Int) ≤ (r : Int) := by omega
      have g6 : ¬ (r : Int) ≤ 57 := by omega
      have g7 : ((r : Int) == 45) = false := beq_eq_false_iff_ne.2 (by omega)
      have g8 : ((r : Int) == 46) = false := beq_eq_false_iff_ne.2 (by omega)
      have g9 : ((r : Int) == 95) = false := beq_eq_false_iff_ne.2 (by omega)
      have HK : Hid (strg r = true) := by
        show _ = _
        unfold strg nby
        rw [Bool.not_eq_true']
        simp only [Bool.or_eq_false_iff, decide_eq_false_iff_not]
        omega
      clear h1 h2
      go_enter Tryz.func73, Tryz.ntmps73
      go_wp2_with fail
      go_ret
      exact ⟨by rw [HK.out]; rfl, rfl⟩
  have g1 : ¬ (97 : Int) ≤ (r : Int) := by omega
  by_cases h3 : 65 ≤ r
  · have g3 : (65 : Int) ≤ (r : Int) := by omega
    by_cases h4 : r ≤ 90
    · have g4 : (r : Int) ≤ 90 := by omega
      have HK : Hid (strg r = false) := by
        show _ = _
        unfold strg nby
        rw [Bool.not_eq_false']
        simp only [Bool.or_eq_true, decide_eq_true_eq]
        omega
      clear h1 h3 h4
      go_enter Tryz.func73, Tryz.ntmps73
      go_wp2_with fail
      go_ret
      exact ⟨by rw [HK.out]; rfl, rfl⟩
    · have g4 : ¬ (r : Int) ≤ 90 := by omega
      have g5 : (48 : Int) ≤ (r : Int) := by omega
      have g6 : ¬ (r : Int) ≤ 57 := by omega
      have g7 : ((r : Int) == 45) = false := beq_eq_false_iff_ne.2 (by omega)
      have g8 : ((r : Int) == 46) = false := beq_eq_false_iff_ne.2 (by omega)
      obtain ⟨b9, hb9⟩ : ∃ b, b = decide (r = 95) := ⟨_, rfl⟩
      have g9 : ((r : Int) == 95) = b9 := by
        rw [hb9, Bool.eq_iff_iff, beq_iff_eq, decide_eq_true_eq]
        omega
      have HK : Hid (strg r = !b9) := by
        show _ = _
        unfold strg nby
        rw [hb9]
        congr 1
        rw [Bool.eq_iff_iff]
        simp only [Bool.or_eq_true, decide_eq_true_eq]
        omega
      clear h1 h3 h4 hb9
      go_enter Tryz.func73, Tryz.ntmps73
      go_wp2_with fail
      go_ret
      exact ⟨by rw [HK.out]; rfl, rfl⟩
  have g3 : ¬ (65 : Int) ≤ (r : Int) := by omega
  by_cases h5 : 48 ≤ r
  · have g5 : (48 : Int) ≤ (r : Int) := by omega
    by_cases h6 : r ≤ 57
    · have g6 : (r : Int) ≤ 57 := by omega
      have HK : Hid (strg r = false) := by
        show _ = _
        unfold strg nby
        rw [Bool.not_eq_false']
        simp only [Bool.or_eq_true, decide_eq_true_eq]
        omega
      clear h1 h3 h5 h6
      go_enter Tryz.func73, Tryz.ntmps73
      go_wp2_with fail
      go_ret
      exact ⟨by rw [HK.out]; rfl, rfl⟩
    · have g6 : ¬ (r : Int) ≤ 57 := by omega
      have g7 : ((r : Int) == 45) = false := beq_eq_false_iff_ne.2 (by omega)
      have g8 : ((r : Int) == 46) = false := beq_eq_false_iff_ne.2 (by omega)
      have g9 : ((r : Int) == 95) = false := beq_eq_false_iff_ne.2 (by omega)
      have HK : Hid (strg r = true) := by
        show _ = _
        unfold strg nby
        rw [Bool.not_eq_true']
        simp only [Bool.or_eq_false_iff, decide_eq_false_iff_not]
        omega
      clear h1 h3 h5 h6
      go_enter Tryz.func73, Tryz.ntmps73
      go_wp2_with fail
      go_ret
      exact ⟨by rw [HK.out]; rfl, rfl⟩
  have g5 : ¬ (48 : Int) ≤ (r : Int) := by omega
  by_cases h7 : r = 45
  · have g7 : ((r : Int) == 45) = true := beq_iff_eq.2 (by omega)
    have HK : Hid (strg r = false) := by
      show _ = _
      unfold strg nby
      rw [Bool.not_eq_false']
      simp only [Bool.or_eq_true, decide_eq_true_eq]
      omega
    clear h1 h3 h5 h7
    go_enter Tryz.func73, Tryz.ntmps73
    go_wp2_with fail
    go_ret
    exact ⟨by rw [HK.out]; rfl, rfl⟩
  have g7 : ((r : Int) == 45) = false := beq_eq_false_iff_ne.2 (by omega)
  by_cases h8 : r = 46
  · have g8 : ((r : Int) == 46) = true := beq_iff_eq.2 (by omega)
    have HK : Hid (strg r = false) := by
      show _ = _
      unfold strg nby
      rw [Bool.not_eq_false']
      simp only [Bool.or_eq_true, decide_eq_true_eq]
      omega
    clear h1 h3 h5 h7 h8
    go_enter Tryz.func73, Tryz.ntmps73
    go_wp2_with fail
    go_ret
    exact ⟨by rw [HK.out]; rfl, rfl⟩
  have g8 : ((r : Int) == 46) = false := beq_eq_false_iff_ne.2 (by omega)
  have g9 : ((r : Int) == 95) = false := beq_eq_false_iff_ne.2 (by omega)
  have HK : Hid (strg r = true) := by
    show _ = _
    unfold strg nby
    rw [Bool.not_eq_true']
    simp only [Bool.or_eq_false_iff, decide_eq_false_iff_not]
    omega
  clear h1 h3 h5 h7 h8
  go_enter Tryz.func73, Tryz.ntmps73
  go_wp2_with fail
  go_ret
  exact ⟨by rw [HK.out]; rfl, rfl⟩
theorem contF_any (s : ByteArray) (w : World) : Calls Tryz.prog 74 #[.string s, .func (.func 73) #[] #[]] w fun e w' => e = .returned (.bool (!(s.data.toList.all fun c => nby c.toNat))) ∧ Below w.heap.size w w' := by
  have h := Any.strings_ContainsFunc Tryz.laysCont 73 #[] (_root_.Go.Proofs.enters_of Tryz.func73 (by kernel_rfl) rfl) strg s w (fun W x _ => by
    refine (strange_any x W).mono ?_
    rintro e w' ⟨rfl, rfl⟩
    exact ⟨rfl, 0, rfl⟩)
  rw [idx_all] at h
  exact h
set_option maxRecDepth 1000000 in
set_option maxHeartbeats 1000000 in
theorem nameable_any (s : ByteArray) (w : World) : Calls Tryz.prog 36 #[.string s] w fun e w' => e = .returned (.bool (nbl s)) ∧ Below w.heap.size w w' := by
  have HCF := hide (contF_any s w)
  obtain ⟨al, hal⟩ : ∃ al, al = s.data.toList.all fun c => nby c.toNat := ⟨_, rfl⟩
  rw [← hal] at HCF
  have HAL := hide hal
  clear hal
  by_cases h0 : s.size = 0
  · have he : s = ⟨#[]⟩ := by
      obtain ⟨⟨l⟩⟩ := s
      have : l.length = 0 := h0
      rw [List.length_eq_zero_iff.1 this]
    have g0 : (s.toList == []) = true := by rw [he, ByteArray.toList_eq]; rfl
    have HK : Hid (nbl s = false) := by show _ = _; unfold nbl; rw [h0]; rfl
    clear h0 he
    go_enter Tryz.func36, Tryz.ntmps36
    go_wp2_with fail
    go_ret
    exact ⟨by rw [HK.out]; rfl, Below.refl _ _⟩
  · have he : s ≠ ⟨#[]⟩ := fun e => h0 (by rw [e]; rfl)
    have g0 : (s.toList == []) = false := by
      have h := str_no he
      rw [show (ByteArray.mk #[]).toList = [] by rw [ByteArray.toList_eq]] at h
      exact h
    by_cases h64 : s.size ≤ 64
    · have g1 : (s.size : Int) ≤ 64 := by omega
      have HK : Hid (nbl s = al) := by
        show _ = _
        unfold nbl
        rw [decide_eq_true (show 0 < s.size by omega), decide_eq_true h64, ← HAL.out]
        rfl
      clear h0 he h64 HAL
      go_enter Tryz.func36, Tryz.ntmps36
      go_wp2_with fail
      refine HCF.out.mono ?_
      rintro e w' ⟨rfl, hb⟩
      have HB := hide hb
      clear hb HCF
      go_wp2_with fail
      go_ret
      exact ⟨by rw [HK.out]; simp, HB.out⟩
    · have g1 : ¬ (s.size : Int) ≤ 64 := by omega
      have HK : Hid (nbl s = false) := by show _ = _; unfold nbl; rw [decide_eq_false h64, Bool.and_false, Bool.false_and]
      clear h0 he h64
      go_enter Tryz.func36, Tryz.ntmps36
      go_wp2_with fail
      go_ret
      exact ⟨by rw [HK.out]; rfl, Below.refl _ _⟩
end
end Go.Proofs.YtcmfgambfgebfaaGreatDoor
